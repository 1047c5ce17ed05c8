/-
  One keeper alone over the program's memory: what holds between its steps, and how it ends; condition: numbers of their kinds.
  A Grow of a segment that was never mapped, alone: it takes 58 steps; condition: all its headers say parked.
-/
import Derived.Test.YtmjcbjcnmgleaaaGreatDoorGP14
import Derived.Test.YtmjcbjcnmgleaaaGreatDoorGG12
import Derived.Test.YtmjcbjcnmgleaaaGreatDoorGX1
namespace Go.Proofs.YtmjcbjcnmgleaaaGreatDoor
open Go.RowKit Go.Maps

/-- Between two steps of a keeper alone. -/
def KJ (N mo : Int) (th : Nat → TA) (g : Int) (sh : Bool) (P : KO → MA → Prop) (bound T0 : Nat) (st0 : Int) (i : Nat) (o : KX) (M : MV) : Prop :=
  ∃ S T, InvK N mo th o.k S T (maV M.V) ∧ Alone g o.k (maV M.V) ∧ o.k.sh = sh ∧ P o.k (maV M.V) ∧ o.k.ln ≠ 0 ∧ remK (maV M.V) S.length o.k + i ≤ bound ∧ T ≤ ((T0 + i : Nat) : Int) ∧ M.s.st ≤ st0 + i
/-- How it ends. -/
def KEnd (N mo : Int) (th : Nat → TA) (g : Int) (sh : Bool) (P : KO → MA → Prop) (bound T0 : Nat) (st0 : Int) (n : Nat) (o : KX) (M : MV) : Prop :=
  o.k.ln = 0 ∧ ∃ S T, InvK N mo th o.k S T (maV M.V) ∧ T ≤ ((T0 + n : Nat) : Int) ∧ M.s.st ≤ st0 + n ∧ n ≤ bound + 1 ∧ NoGone (maV M.V) ∧
    ∃ K0 M0 S0 T1, P K0 M0 ∧ InvK N mo th K0 S0 T1 M0 ∧ Alone g K0 M0 ∧ K0.sh = sh ∧ K0.ln ≠ 0 ∧ (∀ y, y ≠ g → (maV M.V).sst y = M0.sst y) ∧ ((11 ≤ K0.ln ∧ (maV M.V).sst g = 1 ∧ o.err = (if sh = true then 9 else 0)) ∨ (sh = true ∧ K0.ln = 4 ∧ (maV M.V).sst g = 0 ∧ o.err = 0))
theorem keeper_J {N mo : Int} {th : Nat → TA} {g : Int} {sh : Bool} {P : KO → MA → Prop} {bound T0 : Nat} {st0 : Int} (hmo : mo < 4294967296) (hb : bound < 20000) (hT : T0 ≤ 100000) (hs : st0 ≤ 500000)
    (hP : ∀ K M S T, InvK N mo th K S T M → Alone g K M → K.sh = sh → K.ln ≠ 0 → T + 1 < 1000000 → P K M → (kF K M).1.ln = 0 ∨ P (kF K M).1 (kF K M).2)
    (i : Nat) (o : KX) (M : MV) (h : KJ N mo th g sh P bound T0 st0 i o M) (ok : KNum o) (_hu : ∀ x, U64 (M.V x)) :
    o.k.ln ≠ 0 ∧ i ≤ bound ∧ M.s.st < 1000000 ∧ (((kX o M).1.k.ln = 0 ∧ KEnd N mo th g sh P bound T0 st0 (i + 1) (kX o M).1 (kX o M).2) ∨ ((kX o M).1.k.ln ≠ 0 ∧ KJ N mo th g sh P bound T0 st0 (i + 1) (kX o M).1 (kX o M).2)) := by
  obtain ⟨S, T, I, A, hsh, hp, h0, hrem, hTT, hst⟩ := h
  have hT1 : T + 1 < 1000000 := by omega
  have hlk := I.lenK
  have ma := kX_ma (M := M) ok h0 (fun h5 h2 => by
    rcases I.ok.2.2 with ⟨_, h⟩ | ⟨_, ⟨_, h⟩ | ⟨_, h⟩ | ⟨h, _⟩ | ⟨h, _⟩⟩ | ⟨_, _, h⟩
    · omega
    · omega
    · obtain ⟨_, hl⟩ := h
      rcases hl with h | ⟨_, a, _⟩ | ⟨h, _⟩
      · rw [h2] at h; omega
      · exact a
      · rw [h2] at h; omega
    · omega
    · omega
    · omega) (by omega)
  obtain ⟨e1, e2⟩ := ma
  obtain ⟨S', T', I', t0, t1⟩ := I.keep hmo hT1 h0
  have hr := I.keep_rem hT1 h0 I'
  obtain ⟨A', aend⟩ := A.step I.G I.ok hmo h0
  have hP' := hP _ _ _ _ I A hsh h0 hT1 hp
  have hss := (kF_seg (K := o.k) (M := maV M.V)).2
  rw [e1] at I' hr A' aend hP' hss
  simp only at I' hr A' aend hP' hss
  have hst2 := kX_st o M
  refine ⟨h0, by omega, by omega, ?_⟩
  by_cases hz : (kX o M).1.k.ln = 0
  · refine .inl ⟨hz, hz, S', T', I', by push_cast; push_cast at hTT; omega, by push_cast; omega, by omega, A'.gone, o.k, maV M.V, S, T, hp, I, A, hsh, h0, fun y hy => ?_, ?_⟩
    · have := kF_sst (K := o.k) (M := maV M.V) (y := y) (by rw [A.seg]; exact hy)
      rw [e1] at this
      exact this
    rw [e2 hz]
    rcases aend hz with ⟨a1, a2, a3⟩ | ⟨a0, a1, a2, a3⟩
    · exact .inl ⟨a1, a2, by rw [a3, hsh]⟩
    · exact .inr ⟨hsh ▸ a0, a1, a2, a3⟩
  · refine .inr ⟨hz, S', T', I', A', hss.trans hsh, ?_, hz, ?_, by push_cast; push_cast at hTT; omega, by push_cast; omega⟩
    · exact hP'.resolve_left hz
    · rcases hr with hr | hr
      · exact absurd hr hz
      · omega
end Go.Proofs.YtmjcbjcnmgleaaaGreatDoor
namespace Go.Proofs.YtmjcbjcnmgleaaaGreatDoor
open Go.RowKit Go.Maps

/-- How far a Grow alone has come in so many steps. -/
def E58 (g : Int) (i : Nat) (K : KO) (M : MA) : Prop :=
  (i = 0 ∧ K.ln = 1 ∧ ∀ z, segF z = g → stW (M.hdr z) = 3) ∨ (i = 1 ∧ K.ln = 2 ∧ ∀ z, segF z = g → stW (M.hdr z) = 3) ∨
  ∃ j : Nat, j < 8 ∧ K.slot = 8 * g + j ∧ (∀ z, K.slot < z → segF z = g → stW (M.hdr z) = 3) ∧
    ((i = 2 + 7 * j ∧ K.ln = 11 ∧ stW (M.hdr K.slot) = 3) ∨ (i = 3 + 7 * j ∧ K.ln = 12 ∧ K.w = M.hdr K.slot) ∨ (i = 4 + 7 * j ∧ K.ln = 13) ∨ (i = 5 + 7 * j ∧ K.ln = 14 ∧ K.w = M.spk g) ∨
     (i = 6 + 7 * j ∧ K.ln = 15 ∧ K.psh.nx = 1) ∨ (i = 7 + 7 * j ∧ K.ln = 15 ∧ K.psh.nx = 2 ∧ K.psh.h = M.ms.hd) ∨ (i = 8 + 7 * j ∧ K.ln = 15 ∧ K.psh.nx = 3 ∧ K.psh.h = M.ms.hd))
theorem e58_step {g : Int} {i : Nat} {K : KO} {M : MA} (hs : K.sh = false) (hg : K.seg = g) (h0 : (K.ln = 1 ∨ K.ln = 2) → M.sst g = 0) (h : E58 g i K M) :
    ((kF K M).1.ln = 0 ∧ i + 1 = 58) ∨ ((kF K M).1.ln ≠ 0 ∧ E58 g (i + 1) (kF K M).1 (kF K M).2) := by
  obtain ⟨sh, ln, seg, looks, slot, w, psh, pk, kept⟩ := K
  simp only at hs hg h0
  subst hs hg
  rcases h with ⟨rfl, hl, hp⟩ | ⟨rfl, hl, hp⟩ | ⟨j, hj, hsl, hp, h⟩
  · simp only at hl
    subst hl
    have hc := h0 (.inl rfl)
    have e : kF ⟨false, 1, seg, looks, slot, w, psh, pk, kept⟩ M = (⟨false, 2, seg, looks, slot, w, psh, pk, kept⟩, M) := by simp [kF, growF, hc]
    rw [e]
    exact .inr ⟨by simp, .inr (.inl ⟨rfl, rfl, hp⟩)⟩
  · simp only at hl
    subst hl
    have hc := h0 (.inr rfl)
    have e : kF ⟨false, 2, seg, looks, slot, w, psh, pk, kept⟩ M = (⟨false, 11, seg, looks, 8 * seg, w, psh, pk, kept⟩, M.setD seg 1) := by simp [kF, growF, hc, KO.turn]
    rw [e]
    exact .inr ⟨by simp, .inr (.inr ⟨0, by decide, by simp, fun z _ h => hp z h, .inl ⟨rfl, rfl, hp _ (by unfold segF; simp only; omega)⟩⟩)⟩
  · simp only at hsl hp h
    rcases h with ⟨rfl, rfl, hh⟩ | ⟨rfl, rfl, hh⟩ | ⟨rfl, rfl⟩ | ⟨rfl, rfl, hh⟩ | ⟨rfl, rfl, hh⟩ | ⟨rfl, rfl, hh, hh2⟩ | ⟨rfl, rfl, hh, hh2⟩
    · have e : kF ⟨false, 11, seg, looks, slot, w, psh, pk, kept⟩ M = (⟨false, 12, seg, looks, slot, M.hdr slot, psh, pk, kept⟩, M) := by simp [kF, turnF, hh]
      rw [e]
      exact .inr ⟨by simp, .inr (.inr ⟨j, hj, hsl, hp, .inr (.inl ⟨by omega, rfl, rfl⟩)⟩)⟩
    · have e : kF ⟨false, 12, seg, looks, slot, w, psh, pk, kept⟩ M = (⟨false, 13, seg, looks, slot, w, psh, pk, kept⟩, M.setH slot (headerW 0 (gW w))) := by simp [kF, turnF, hh]
      rw [e]
      refine .inr ⟨by simp, .inr (.inr ⟨j, hj, hsl, fun z h1 h2 => ?_, .inr (.inr (.inl ⟨by omega, rfl⟩))⟩)⟩
      rw [setH_ne (by simp only at h1; omega)]
      exact hp z h1 h2
    · have e : kF ⟨false, 13, seg, looks, slot, w, psh, pk, kept⟩ M = (⟨false, 14, seg, looks, slot, M.spk seg, psh, pk, kept⟩, M) := by simp [kF, turnF]
      rw [e]
      exact .inr ⟨by simp, .inr (.inr ⟨j, hj, hsl, hp, .inr (.inr (.inr (.inl ⟨by omega, rfl, rfl⟩)))⟩)⟩
    · have e : kF ⟨false, 14, seg, looks, slot, w, psh, pk, kept⟩ M = (⟨false, 15, seg, looks, slot, w, ⟨1, 0, slot⟩, pk, kept⟩, M.setP seg (down64 w)) := by simp [kF, turnF, hh]
      rw [e]
      exact .inr ⟨by simp, .inr (.inr ⟨j, hj, hsl, hp, .inr (.inr (.inr (.inr (.inl ⟨by omega, rfl, rfl⟩))))⟩)⟩
    · have e : kF ⟨false, 15, seg, looks, slot, w, psh, pk, kept⟩ M = (⟨false, 15, seg, looks, slot, w, ⟨2, M.ms.hd, psh.to⟩, pk, kept⟩, M) := by simp [kF, turnF, pushF, hh]
      rw [e]
      exact .inr ⟨by simp, .inr (.inr ⟨j, hj, hsl, hp, .inr (.inr (.inr (.inr (.inr (.inl ⟨by omega, rfl, rfl, rfl⟩)))))⟩)⟩
    · have e : kF ⟨false, 15, seg, looks, slot, w, psh, pk, kept⟩ M = (⟨false, 15, seg, looks, slot, w, ⟨3, psh.h, psh.to⟩, pk, kept⟩, { M with ms := M.ms.link psh.to (headW (wSlot psh.h) 0) }) := by simp [kF, turnF, pushF, hh]
      rw [e]
      exact .inr ⟨by simp, .inr (.inr ⟨j, hj, hsl, hp, .inr (.inr (.inr (.inr (.inr (.inr ⟨by omega, rfl, rfl, hh2⟩)))))⟩)⟩
    · have e : kF ⟨false, 15, seg, looks, slot, w, psh, pk, kept⟩ M = (KO.next ⟨false, 15, seg, looks, slot, w, ⟨0, psh.h, psh.to⟩, pk, kept⟩, { M with ms := ⟨nextW psh.h psh.to, M.ms.lk⟩ }) := by simp [kF, turnF, pushF, swapF, hh, hh2]
      rw [e]
      unfold KO.next
      by_cases hl : slot + 1 = 8 * seg + 8
      · rw [if_pos hl]
        exact .inl ⟨rfl, by omega⟩
      · rw [if_neg hl]
        refine .inr ⟨by simp, .inr (.inr ⟨j + 1, by omega, by simp only; push_cast; omega, fun z h1 h2 => hp z (by simp only at h1; omega) h2, .inl ⟨by omega, rfl, hp _ (by simp only; omega) (by unfold segF; simp only; omega)⟩⟩)⟩
end Go.Proofs.YtmjcbjcnmgleaaaGreatDoor
