/-
  A keeper alone, run step by step in plain words; A keeper alone, run step by step in plain words; The law's examples (lives); conditions as each theorem says.
-/
import Derived.Test.YtmjcbjcnmgleaaaGreatDoorXP26
import Derived.Test.YtmjcbjcnmgleaaaGreatDoorXP27
import Derived.Test.YtmjcbjcnmgleaaaGreatDoorXP15
import Derived.Test.YtmjcbjcnmgleaaaGreatDoorXP03
import Derived.Outline
import Derived.Test.YtmjcbjcnmgleaaaGreatDoorXP14
import Derived.Test.YtmjcbjcnmgleaaaGreatDoorXP02
import Derived.OwnWalk
import Derived.Laws.OwnMore
import Derived.Laws.AppendOwnNone
import Derived.Deep.AppendLies
namespace Go.Proofs.YtmjcbjcnmgleaaaGreatDoor
open Go.RowKit Go.Maps
def Ends (E : Int) (Fin : MA → Prop) : Nat → KO → MA → Prop
  | 0, K, M => K.ln = 0 ∧ Fin M
  | n + 1, K, M => K.ln ≠ 0 ∧ (K.ln = 5 → K.psh.nx = 2 → 0 ≤ wSlot K.psh.h) ∧ K.kept.length + 1 < 256 ∧ (n = 0 → errK K M = E) ∧ Ends E Fin n (kF K M).1 (kF K M).2
section
variable {E : Int} {Fin : MA → Prop} {n : Nat} {K K' : KO} {M M' : MA}
theorem Ends.step (H : Ends E Fin (n + 1) K' M') (e : kF K M = (K', M')) (h0 : K.ln ≠ 0) (h5 : K.ln = 5 → K.psh.nx = 2 → 0 ≤ wSlot K.psh.h) (hk : K.kept.length + 1 < 256) : Ends E Fin (n + 2) K M :=
  ⟨h0, h5, hk, fun h => by omega, by rw [e]; exact H⟩
theorem Ends.last (H : Fin M') (e : kF K M = (K', M')) (hz : K'.ln = 0) (h0 : K.ln ≠ 0) (h5 : K.ln ≠ 5) (hk : K.kept.length + 1 < 256) (he : errK K M = E) : Ends E Fin 1 K M :=
  ⟨h0, fun h => absurd h h5, hk, fun _ => he, by rw [e]; exact ⟨hz, H⟩⟩
theorem Ends.J {o : KX} {V : MV} (ok : KNum o) (h : Ends E Fin (n + 1) o.k (maV V.V)) : o.k.ln ≠ 0 ∧ ((n = 0 ∧ (kX o V).1.k.ln = 0 ∧ (kX o V).1.err = E ∧ Fin (maV (kX o V).2.V)) ∨ (∃ m, n = m + 1 ∧ (kX o V).1.k.ln ≠ 0 ∧ Ends E Fin n (kX o V).1.k (maV (kX o V).2.V))) := by
  obtain ⟨h0, h5, hk, he, H⟩ := h
  obtain ⟨e1, e2⟩ := kX_ma (M := V) ok h0 h5 hk
  rw [e1] at H
  refine ⟨h0, ?_⟩
  cases n with
  | zero => exact .inl ⟨rfl, H.1, by rw [e2 H.1]; exact he rfl, H.2⟩
  | succ m => exact .inr ⟨m, rfl, H.1, H⟩
end
structure Sg (M : MA) (S : List Int) (T p s : Int) : Prop where
  stk : Stk M.ms S T
  hdr : ∀ z, 0 ≤ z → z < 8 → stW (M.hdr z) ≠ 3
  p0 : M.spk 0 = 0
  p1 : M.spk 1 = p
  s0 : M.sst 0 = 1
  s1 : M.sst 1 = s
section
variable {E : Int} {Fin : MA → Prop} {n : Nat} {M : MA} {S : List Int} {T p s x lk sl w : Int} {psh : OS} {pk : PO} {kept : List Int}
theorem Sg.setH (h : Sg M S T p s) (hx : 8 ≤ x) (v : Int) : Sg (M.setH x v) S T p s := ⟨h.stk, fun z h0 h1 => by simp only [MA.setH]; rw [if_neg (by omega)]; exact h.hdr z h0 h1, h.p0, h.p1, h.s0, h.s1⟩
theorem Sg.setP (h : Sg M S T p s) (v : Int) : Sg (M.setP 1 v) S T v s := ⟨h.stk, h.hdr, by simp [MA.setP, h.p0], by simp [MA.setP], h.s0, h.s1⟩
theorem Sg.setD (h : Sg M S T p s) (v : Int) : Sg (M.setD 1 v) S T p v := ⟨h.stk, h.hdr, h.p0, h.p1, by simp [MA.setD, h.s0], by simp [MA.setD]⟩
theorem Sg.setM (h : Sg M S T p s) {ms : MS} {S' : List Int} {T' : Int} (k : Stk ms S' T') : Sg { M with ms := ms } S' T' p s := ⟨k, h.hdr, h.p0, h.p1, h.s0, h.s1⟩
theorem run_push15 (h : Sg M S T p s) (hx : x ∉ S) (h0 : 0 ≤ x) (h1 : x < 256) (ht : T + 1 < 1000000) {sh : Bool} (hk : kept.length + 1 < 256)
    (H : ∀ M' psh', Sg M' (x :: S) (T + 1) p s → (∀ z, M'.hdr z = M.hdr z) → Ends E Fin (n + 1) (KO.next ⟨sh, 15, 1, lk, sl, w, psh', pk, kept⟩) M') : Ends E Fin (n + 4) ⟨sh, 15, 1, lk, sl, w, ⟨1, 0, x⟩, pk, kept⟩ M := by
  obtain ⟨g1, g2⟩ := h.stk.linked hx
  have hh := h.setM g1
  exact (((H _ ⟨0, headW (topOf S) T, x⟩ (hh.setM (g1.pushed g2 hx h0 h1 ht)) (fun _ => rfl)).step (K := ⟨sh, 15, 1, lk, sl, w, ⟨3, headW (topOf S) T, x⟩, pk, kept⟩) (M := { M with ms := M.ms.link x (headW (topOf S) 0) }) (by simp [kF, turnF, stk_push_c g1]) (by simp) (by simp) hk).step (K := ⟨sh, 15, 1, lk, sl, w, ⟨2, headW (topOf S) T, x⟩, pk, kept⟩) (M := M) (by simp [kF, turnF, stk_push_b h.stk]) (by simp) (by simp) hk).step (by simp [kF, turnF, stk_push_a h.stk]) (by simp) (by simp) hk
theorem run_end15 (h : Sg M S T p s) (hx : x ∉ S) (h0 : 0 ≤ x) (h1 : x < 256) (ht : T + 1 < 1000000) (hk : kept.length + 1 < 256) (hsl : sl + 1 = 16) (hE : E = 0)
    (H : ∀ M', Sg M' (x :: S) (T + 1) p s → Fin M') : Ends E Fin 3 ⟨false, 15, 1, lk, sl, w, ⟨1, 0, x⟩, pk, kept⟩ M := by
  obtain ⟨g1, g2⟩ := h.stk.linked hx
  have hh := h.setM g1
  exact ((Ends.last (K := ⟨false, 15, 1, lk, sl, w, ⟨3, headW (topOf S) T, x⟩, pk, kept⟩) (M := { M with ms := M.ms.link x (headW (topOf S) 0) }) (H _ (hh.setM (g1.pushed g2 hx h0 h1 ht))) (K' := KO.next ⟨false, 15, 1, lk, sl, w, ⟨0, headW (topOf S) T, x⟩, pk, kept⟩) (by simp [kF, turnF, stk_push_c g1]) (by simp [KO.next, hsl]) (by simp) (by simp) hk (by simp [errK, hE])).step (K := ⟨false, 15, 1, lk, sl, w, ⟨2, headW (topOf S) T, x⟩, pk, kept⟩) (M := M) (by simp [kF, turnF, stk_push_b h.stk]) (by simp) (by simp) hk).step (by simp [kF, turnF, stk_push_a h.stk]) (by simp) (by simp) hk
theorem run_turn {sh : Bool} (h : Sg M S T p s) (hsl : 8 ≤ sl) (hp : stW (M.hdr sl) = 3) (hk : kept.length + 1 < 256)
    (H : ∀ M' w', Sg M' S T (down64 p) s → (∀ z, z ≠ sl → M'.hdr z = M.hdr z) → Ends E Fin (n + 1) ⟨sh, 15, 1, lk, sl, w', ⟨1, 0, sl⟩, pk, kept⟩ M') : Ends E Fin (n + 5) ⟨sh, 11, 1, lk, sl, w, psh, pk, kept⟩ M := by
  have h1 := h.setH hsl (headerW 0 (gW (M.hdr sl)))
  have hf : ∀ z, z ≠ sl → (M.setH sl (headerW 0 (gW (M.hdr sl)))).hdr z = M.hdr z := fun z hz => by simp [MA.setH, hz]
  exact ((((H _ p (h1.setP (down64 p)) hf).step (K := ⟨sh, 14, 1, lk, sl, p, psh, pk, kept⟩) (M := M.setH sl (headerW 0 (gW (M.hdr sl)))) (by simp [kF, turnF, h1.p1]) (by simp) (by simp) hk).step (K := ⟨sh, 13, 1, lk, sl, M.hdr sl, psh, pk, kept⟩) (M := M.setH sl (headerW 0 (gW (M.hdr sl)))) (by simp [kF, turnF, h1.p1]) (by simp) (by simp) hk).step (K := ⟨sh, 12, 1, lk, sl, M.hdr sl, psh, pk, kept⟩) (M := M) (by simp [kF, turnF]) (by simp) (by simp) hk).step (by simp [kF, turnF, hp]) (by simp) (by simp) hk
end
section
variable {E : Int} {Fin : MA → Prop} {n : Nat} {M : MA} {T p s lk sl w : Int} {psh : OS} {pk : PO}
theorem down_not (n : Nat) {x : Int} (h : (n : Int) ≤ x) : x ∉ downS n := fun hm => by
  have := down_count n x
  rw [if_neg (by omega)] at this
  exact absurd (List.count_pos_iff.2 hm) (by omega)
theorem run_grow : ∀ (d j : Nat), j + d + 1 = 8 → ∀ {M : MA} {T sl w : Int} {psh : OS}, Sg M (downS (8 + j)) T (8 - j) 1 → (∀ z, 8 + (j : Int) ≤ z → z < 16 → stW (M.hdr z) = 3) → T + 1 + d < 1000000 → sl = 8 + j →
    (∀ M', Sg M' (downS 16) (T + 1 + d) 0 1 → Fin M') → Ends 0 Fin (7 * d + 7) ⟨false, 11, 1, lk, sl, w, psh, pk, []⟩ M
  | 0, j, hj, M, T, sl, w, psh, h, hp, ht, hsl, H => by
    obtain rfl : j = 7 := by omega
    subst hsl
    refine run_turn (n := 2) h (by omega) (hp _ (by omega) (by omega)) (by simp) fun M' w' h' hh => ?_
    refine run_end15 h' (down_not _ (by omega)) (by omega) (by omega) (by omega) (by simp) (by omega) rfl fun M2 h2 => H M2 ?_
    rw [show down64 (8 - ((7 : Nat) : Int)) = 0 by decide, show (8 + ((7 : Nat) : Int)) :: downS (8 + 7) = downS 16 by decide] at h2
    rw [show T + 1 + ((0 : Nat) : Int) = T + 1 by omega]
    exact h2
  | d + 1, j, hj, M, T, sl, w, psh, h, hp, ht, hsl, H => by
    subst hsl
    rw [show 7 * (d + 1) + 7 = (7 * d + 9) + 5 by omega]
    refine run_turn (n := 7 * d + 9) h (by omega) (hp _ (by omega) (by omega)) (by simp) fun M' w' h' hh => ?_
    rw [show 7 * d + 9 + 1 = (7 * d + 6) + 4 by omega]
    refine run_push15 h' (down_not _ (by omega)) (by omega) (by omega) (by omega) (by simp) fun M2 psh2 h2 hh2 => ?_
    unfold KO.next
    rw [if_neg (by simp only; omega)]
    have e1 : down64 (8 - (j : Int)) = 8 - ((j + 1 : Nat) : Int) := by unfold down64; omega
    rw [e1] at h2
    refine run_grow d (j + 1) (by omega) h2 (fun z h0 h1 => ?_) (by omega) (by push_cast; omega) fun M3 h3 => H M3 ?_
    · rw [hh2, hh _ (by push_cast at h0; omega)]
      exact hp z (by push_cast at h0; omega) h1
    · rw [show T + 1 + ((d + 1 : Nat) : Int) = T + 1 + 1 + d by push_cast; omega]
      exact h3
theorem grow_run (h : Sg M (downS 8) T 8 0) (hp : ∀ z, 8 ≤ z → z < 16 → stW (M.hdr z) = 3) (ht : T + 8 < 1000000) (H : ∀ M', Sg M' (downS 16) (T + 8) 0 1 → Fin M') : Ends 0 Fin 58 (newKX false 1 0).k M := by
  have h1 := h.setD 1
  have hr := run_grow (Fin := Fin) (lk := 0) (pk := newPark 0) (w := 0) (psh := ⟨1, 0, 0⟩) 7 0 (by omega) (T := T) (sl := 8) h1 (fun z a b => hp z a b) (by omega) (by omega) fun M' h' => H M' (by rw [show T + 8 = T + 1 + ((7 : Nat) : Int) by omega]; exact h')
  exact (hr.step (K := ⟨false, 2, 1, 0, 0, 0, ⟨1, 0, 0⟩, newPark 0, []⟩) (M := M) (by simp [kF, growF, h.s1, KO.turn]) (by simp) (by simp) (by simp)).step (by simp [kF, growF, newKX, h.s1]) (by simp [newKX]) (by simp [newKX]) (by simp [newKX])
end
end Go.Proofs.YtmjcbjcnmgleaaaGreatDoor
namespace Go.Proofs.YtmjcbjcnmgleaaaGreatDoor
open Go.RowKit Go.Maps
section
variable {E : Int} {Fin : MA → Prop} {n : Nat} {M : MA} {S : List Int} {T p s x lk sl w to : Int} {psh : OS} {pk : PO} {kept : List Int}
theorem seg_one8 (h0 : 8 ≤ x) (h1 : x < 16) : segF x = 1 := by unfold segF; omega
theorem run_pop (h : Sg M (x :: S) T p s) (hk : kept.length + 1 < 256) (H : Ends E Fin (n + 1) ⟨true, 5, 1, lk, sl, w, ⟨3, headW x T, topOf S⟩, pk, kept⟩ M) : Ends E Fin (n + 3) ⟨true, 5, 1, lk, sl, w, ⟨1, 0, to⟩, pk, kept⟩ M := by
  have hs : wSlot (headW x T) = x := h.stk.slot
  have h0 := h.stk.ch.1.1
  exact (H.step (K := ⟨true, 5, 1, lk, sl, w, ⟨2, headW x T, to⟩, pk, kept⟩) (M := M) (by simp [kF, shrinkF, stk_pop_b h.stk]) (by simp) (fun _ _ => by rw [hs]; exact h0) hk).step (by simp [kF, shrinkF, stk_pop_a h.stk]) (by simp) (by simp) hk
theorem run_park (h : Sg M (x :: S) T p 2) (h8 : 8 ≤ x) (h16 : x < 16) (ht : T + 1 < 1000000)
    (H : ∀ M' pk', Sg M' S (T + 1) (up64 p) 2 → Ends E Fin (n + 1) ⟨true, 5, 1, lk, sl, w, ⟨1, 0, 0⟩, pk', []⟩ M') : Ends E Fin (n + 9) ⟨true, 5, 1, lk, sl, w, ⟨1, 0, to⟩, pk, []⟩ M := by
  have hs : wSlot (headW x T) = x := h.stk.slot
  have h0 := h.stk.ch.1.1
  have sx := seg_one8 h8 h16
  have h1 := h.setM (h.stk.popped ht)
  obtain ⟨M1, hM1⟩ : ∃ M1 : MA, { M with ms := ⟨headW (topOf S) (T + 1), M.ms.lk⟩ } = M1 := ⟨_, rfl⟩
  rw [hM1] at h1
  have h2 := h1.setH h8 (headerW 3 (gW (M1.hdr x)))
  have h3 := h2.setP (up64 p)
  have hsx := h.hdr
  refine run_pop (n := n + 6) h (by simp) ?_
  refine Ends.step (K' := ⟨true, 6, 1, lk, sl, w, ⟨3, headW x T, topOf S⟩, newPark x, []⟩) (M' := M1) ?_ (by simp [kF, shrinkF, stk_pop_c h.stk, hs, sx, hM1, show ¬ x < 0 by omega]) (by simp) (by simp) (by simp)
  refine Ends.step (K' := ⟨true, 6, 1, lk, sl, w, ⟨3, headW x T, topOf S⟩, ⟨2, x, M1.hdr x, 0, ⟨1, 0, x⟩, false⟩, []⟩) (M' := M1) ?_ (by simp [kF, shrinkF, parkF, newPark]) (by simp) (by simp) (by simp)
  refine Ends.step (K' := ⟨true, 6, 1, lk, sl, w, ⟨3, headW x T, topOf S⟩, ⟨3, x, M1.hdr x, 0, ⟨1, 0, x⟩, false⟩, []⟩) (M' := M1.setH x (headerW 3 (gW (M1.hdr x)))) ?_ (by simp [kF, shrinkF, parkF]) (by simp) (by simp) (by simp)
  refine Ends.step (K' := ⟨true, 6, 1, lk, sl, w, ⟨3, headW x T, topOf S⟩, ⟨4, x, M1.hdr x, p, ⟨1, 0, x⟩, false⟩, []⟩) (M' := M1.setH x (headerW 3 (gW (M1.hdr x)))) ?_ (by simp [kF, shrinkF, parkF, sx, h2.p1]) (by simp) (by simp) (by simp)
  refine Ends.step (K' := ⟨true, 6, 1, lk, sl, w, ⟨3, headW x T, topOf S⟩, ⟨5, x, M1.hdr x, p, ⟨1, 0, x⟩, false⟩, []⟩) (M' := (M1.setH x (headerW 3 (gW (M1.hdr x)))).setP 1 (up64 p)) ?_ (by simp [kF, shrinkF, parkF, sx, h2.p1]) (by simp) (by simp) (by simp)
  exact (H _ ⟨0, x, M1.hdr x, p, ⟨1, 0, x⟩, true⟩ h3).step (by simp [kF, shrinkF, parkF, sx, h3.s1]) (by simp) (by simp) (by simp)
theorem run_keep1 (h : Sg M (x :: S) T p 2) (h8 : x < 8) (ht : T + 1 < 1000000) (hk : kept.length + 1 < 256)
    (H : ∀ M', Sg M' S (T + 1) p 2 → Ends E Fin (n + 1) ⟨true, 5, 1, lk, sl, w, ⟨1, 0, 0⟩, pk, kept ++ [x]⟩ M') : Ends E Fin (n + 4) ⟨true, 5, 1, lk, sl, w, ⟨1, 0, to⟩, pk, kept⟩ M := by
  have hs : wSlot (headW x T) = x := h.stk.slot
  have h0 := h.stk.ch.1.1
  have sx : ¬ segF x = 1 := by unfold segF; omega
  exact run_pop (n := n + 1) h hk ((H _ (h.setM (h.stk.popped ht))).step (by simp [kF, shrinkF, stk_pop_c h.stk, hs, sx, show ¬ x < 0 by omega]) (by simp) (by simp) hk)
def KN (n : Nat) : List Int := (downS 8).take (8 - n)
theorem KN_facts : ∀ n : Nat, n < 8 → KN (n + 1) ++ [(n : Int)] = KN n ∧ (KN n).getLastD 0 = n ∧ (KN n).dropLast = KN (n + 1) ∧ KN n ≠ [] ∧ (KN n).length + 1 < 256 ∧ (KN (n + 1)).length + 1 < 256 ∧ (KN (n + 1) = [] ↔ n = 7) := by
  intro n hn
  obtain rfl | rfl | rfl | rfl | rfl | rfl | rfl | rfl : n = 0 ∨ n = 1 ∨ n = 2 ∨ n = 3 ∨ n = 4 ∨ n = 5 ∨ n = 6 ∨ n = 7 := by omega
  all_goals decide
theorem run_back : ∀ (d n : Nat), n + d + 1 = 8 → ∀ {M : MA} {T : Int}, Sg M (downS n) T 8 2 → T + 1 + d < 1000000 → (∀ M', Sg M' (downS 8) (T + 1 + d) 8 0 → Fin M') →
    Ends 0 Fin (3 * d + 5) ⟨true, 7, 1, lk, sl, w, ⟨1, 0, n⟩, pk, KN n⟩ M
  | d, n, hd, M, T, h, ht, H => by
    obtain ⟨_, _, f3, _, f5, _, f7⟩ := KN_facts n (by omega)
    have hx := down_not n (x := n) (Int.le_refl _)
    obtain ⟨g1, g2⟩ := h.stk.linked hx
    have hh := (h.setM g1).setM (g1.pushed g2 hx (by omega) (by omega) (by omega))
    obtain ⟨M2, hM2⟩ : ∃ M2 : MA, { M with ms := ⟨headW (n : Int) (T + 1), (M.ms.link n (headW (topOf (downS n)) 0)).lk⟩ } = M2 := ⟨_, rfl⟩
    have hh2 : Sg M2 (downS (n + 1)) (T + 1) 8 2 := by rw [← hM2]; exact hh
    have key : ∀ m K', KO.seven ⟨true, 7, 1, lk, sl, w, ⟨3, headW (topOf (downS n)) T, n⟩, pk, KN (n + 1)⟩ = K' → Ends 0 Fin (m + 1) K' M2 → Ends 0 Fin (m + 4) ⟨true, 7, 1, lk, sl, w, ⟨1, 0, n⟩, pk, KN n⟩ M := fun m K' e hE =>
      ((hE.step (K := ⟨true, 7, 1, lk, sl, w, ⟨3, headW (topOf (downS n)) T, n⟩, pk, KN n⟩) (M := { M with ms := M.ms.link n (headW (topOf (downS n)) 0) }) (by rw [← e, ← hM2]; simp [kF, shrinkF, stk_push_c g1, f3]) (by simp) (by simp) f5).step (K := ⟨true, 7, 1, lk, sl, w, ⟨2, headW (topOf (downS n)) T, n⟩, pk, KN n⟩) (M := M) (by simp [kF, shrinkF, stk_push_b h.stk]) (by simp) (by simp) f5).step (by simp [kF, shrinkF, stk_push_a h.stk]) (by simp) (by simp) f5
    cases d with
    | zero =>
      obtain rfl : n = 7 := by omega
      refine key 1 ⟨true, 3, 1, lk, sl, w, ⟨3, headW (topOf (downS 7)) T, 7⟩, pk, []⟩ (by unfold KO.seven; rw [if_pos (f7.2 rfl)]; simp only [f7.2 rfl]; rfl) ?_
      have hl : Fin (M2.setD 1 0) := H _ (by have := hh2.setD 0; simpa using this)
      exact (Ends.last (K := ⟨true, 4, 1, lk, sl, w, ⟨3, headW (topOf (downS 7)) T, 7⟩, pk, []⟩) (M := M2) hl (K' := ⟨true, 0, 1, lk, sl, w, ⟨3, headW (topOf (downS 7)) T, 7⟩, pk, []⟩) (by simp [kF, shrinkF, hh2.s1]) rfl (by simp) (by simp) (by simp) (by simp [errK, hh2.s1])).step (by simp [kF, shrinkF, hh2.p1]) (by simp) (by simp) (by simp)
    | succ d =>
      obtain ⟨_, e2, _, e4, _⟩ := KN_facts (n + 1) (by omega)
      rw [show 3 * (d + 1) + 5 = (3 * d + 4) + 4 by omega]
      refine key (3 * d + 4) ⟨true, 7, 1, lk, sl, w, ⟨1, 0, ((n + 1 : Nat) : Int)⟩, pk, KN (n + 1)⟩ (by unfold KO.seven; rw [if_neg e4]; simp only [e2]) ?_
      exact run_back d (n + 1) (by omega) hh2 (by omega) fun M' h' => H M' (by rw [show T + 1 + ((d + 1 : Nat) : Int) = T + 1 + 1 + d by omega]; exact h')
theorem run_keep : ∀ (n : Nat), n ≤ 8 → ∀ {M : MA} {T to : Int}, Sg M (downS n) T 8 2 → T + n + 8 < 1000000 → (∀ M', Sg M' (downS 8) (T + n + 8) 8 0 → Fin M') →
    Ends 0 Fin (3 * n + 27) ⟨true, 5, 1, lk, sl, w, ⟨1, 0, to⟩, pk, KN n⟩ M
  | 0, _, M, T, to, h, ht, H => by
    obtain ⟨_, _, _, e4, e5, _⟩ := KN_facts 0 (by omega)
    have hb := run_back (Fin := Fin) (lk := lk) (sl := sl) (w := w) (pk := pk) 7 0 (by omega) h (by omega) fun M' h' => H M' (by rw [show T + ((0 : Nat) : Int) + 8 = T + 1 + ((7 : Nat) : Int) by omega]; exact h')
    have hw : wSlot M.ms.hd = -1 := by have := h.stk.slot; rw [h.stk.hd]; exact this
    have hneg : wSlot M.ms.hd < 0 := by rw [hw]; decide
    have e6 : (KN 0).getLast?.getD 0 = 0 := by decide
    exact hb.step (by simp [kF, shrinkF, popF, KO.seven, e4, hneg, e6]) (by simp) (by simp) e5
  | n + 1, hn, M, T, to, h, ht, H => by
    obtain ⟨e1, _, _, _, _, e6, _⟩ := KN_facts n (by omega)
    rw [show 3 * (n + 1) + 27 = (3 * n + 26) + 4 by omega]
    refine run_keep1 (n := 3 * n + 26) h (by omega) (by omega) e6 fun M' h' => ?_
    rw [e1]
    exact run_keep n (by omega) h' (by omega) fun M2 h2 => H M2 (by rw [show T + ((n + 1 : Nat) : Int) + 8 = T + 1 + n + 8 by omega]; exact h2)
theorem run_parks : ∀ (d : Nat), d ≤ 8 → ∀ {M : MA} {T to : Int} {pk : PO}, Sg M (downS (8 + d)) T (8 - d) 2 → T + d + 16 < 1000000 → (∀ M', Sg M' (downS 8) (T + d + 16) 8 0 → Fin M') →
    Ends 0 Fin (8 * d + 51) ⟨true, 5, 1, lk, sl, w, ⟨1, 0, to⟩, pk, []⟩ M
  | 0, _, M, T, to, pk, h, ht, H => run_keep 8 (by omega) h (by omega) fun M' h' => H M' (by rw [show T + ((0 : Nat) : Int) + 16 = T + ((8 : Nat) : Int) + 8 by omega]; exact h')
  | d + 1, hd, M, T, to, pk, h, ht, H => by
    rw [show 8 * (d + 1) + 51 = (8 * d + 50) + 9 by omega]
    refine run_park (n := 8 * d + 50) (x := ((8 + d : Nat) : Int)) (S := downS (8 + d)) h (by omega) (by omega) (by omega) fun M' pk' h' => ?_
    rw [show up64 (8 - ((d + 1 : Nat) : Int)) = 8 - (d : Int) by unfold up64; omega] at h'
    exact run_parks d (by omega) h' (by omega) fun M2 h2 => H M2 (by rw [show T + ((d + 1 : Nat) : Int) + 16 = T + 1 + d + 16 by omega]; exact h2)
theorem shrink_run (h : Sg M (downS 16) T 0 1) (ht : T + 24 < 1000000) (H : ∀ M', Sg M' (downS 8) (T + 24) 8 0 → Fin M') : Ends 0 Fin 118 (newKX true 1 1).k M := by
  have h1 := h.setD 2
  have hr := run_parks (Fin := Fin) (lk := 0) (sl := 0) (w := 0) 8 (by omega) (pk := newPark 0) (to := 0) h1 (by omega) fun M' h' => H M' (by rw [show T + 24 = T + ((8 : Nat) : Int) + 16 by omega]; exact h')
  exact ((hr.step (K := ⟨true, 3, 1, 1, 0, 0, ⟨1, 0, 0⟩, newPark 0, []⟩) (M := M.setD 1 2) (by simp [kF, shrinkF, h1.p1]) (by simp) (by simp) (by simp)).step (K := ⟨true, 2, 1, 1, 0, 0, ⟨1, 0, 0⟩, newPark 0, []⟩) (M := M) (by simp [kF, shrinkF, h.s1]) (by simp) (by simp) (by simp)).step (by simp [kF, shrinkF, newKX, h.s1]) (by simp [newKX]) (by simp [newKX]) (by simp [newKX])
end
theorem run_past {Fin : MA → Prop} {pk : PO} {psh : OS} {M : MA} (hp : ∀ z, 0 ≤ z → z < 8 → stW (M.hdr z) ≠ 3) (H : Fin M) : ∀ (d : Nat) (sl w : Int), sl + d = 7 → 0 ≤ sl → Ends 9 Fin (d + 1) ⟨true, 11, 0, 0, sl, w, psh, pk, []⟩ M
  | 0, sl, w, hs, h0 => Ends.last H (K' := KO.next ⟨true, 11, 0, 0, sl, M.hdr sl, psh, pk, []⟩) (by simp [kF, turnF, hp sl h0 (by omega)]) (by simp [KO.next, show sl + 1 = 8 by omega]) (by simp) (by simp) (by simp) (by simp [errK])
  | d + 1, sl, w, hs, h0 => (run_past (pk := pk) (psh := psh) hp H d (sl + 1) (M.hdr sl) (by omega) (by omega)).step (by simp [kF, turnF, hp sl h0 (by omega), KO.next, show ¬ sl + 1 = 8 by omega]) (by simp) (by simp) (by simp)
theorem gone_run {Fin : MA → Prop} {M : MA} (hp : ∀ z, 0 ≤ z → z < 8 → stW (M.hdr z) ≠ 3) (hs : M.sst 0 = 1) (h0 : M.spk 0 = 0) (H : ∀ M', M'.sst 0 = 1 → M'.spk 0 = 0 → Fin M') : Ends 9 Fin 12 (newKX true 0 0).k M := by
  have hr := run_past (Fin := Fin) (M := (M.setD 0 2).setD 0 1) (pk := newPark 0) (psh := ⟨1, 0, 0⟩) hp (H _ (by simp [MA.setD]) h0) 7 0 0 (by omega) (by omega)
  exact (((hr.step (K := ⟨true, 8, 0, 0, 0, 0, ⟨1, 0, 0⟩, newPark 0, []⟩) (M := M.setD 0 2) (by simp [kF, shrinkF, MA.setD, KO.turn]) (by simp) (by simp) (by simp)).step (K := ⟨true, 3, 0, 0, 0, 0, ⟨1, 0, 0⟩, newPark 0, []⟩) (M := M.setD 0 2) (by simp [kF, shrinkF, MA.setD, h0]) (by simp) (by simp) (by simp)).step (K := ⟨true, 2, 0, 0, 0, 0, ⟨1, 0, 0⟩, newPark 0, []⟩) (M := M) (by simp [kF, shrinkF, hs]) (by simp) (by simp) (by simp)).step (by simp [kF, shrinkF, newKX, hs]) (by simp [newKX]) (by simp [newKX]) (by simp [newKX])
end Go.Proofs.YtmjcbjcnmgleaaaGreatDoor
namespace Go.Proofs.YtmjcbjcnmgleaaaGreatDoor
open Go.RowKit Go.Maps
end Go.Proofs.YtmjcbjcnmgleaaaGreatDoor
namespace Go.Proofs.YtmjcbjcnmgleaaaGreatDoor
open Go.RowKit Go.Maps
def iV (n : Int) : Value := .int .i64 n
end Go.Proofs.YtmjcbjcnmgleaaaGreatDoor
namespace Go.Proofs.YtmjcbjcnmgleaaaGreatDoor
open Go.RowKit Go.Maps
theorem own_same {w w' : World} {base : Nat} {e : TypeId} {size : Nat} {v : Value} {n : Nat} {xs : List Value} (h : w.ownsRow base e size v n xs) (hs : ∀ g, v.ownBlock = some g → w'.heap[g]? = w.heap[g]?) : w'.ownsRow base e size v n xs := by
  refine ⟨h.1, ?_⟩
  rcases h.2 with h2 | ⟨g, cap, cur, hv, hg, hh, r⟩
  · exact .inl h2
  · subst hv
    exact .inr ⟨g, cap, cur, rfl, hg, (hs g rfl).trans hh, r⟩
theorem own_low {w w' : World} {base : Nat} {e : TypeId} {size : Nat} {v : Value} {n : Nat} {xs : List Value} (h : w.ownsRow base e size v n xs) (hb : Below w.heap.size w w') : w'.ownsRow base e size v n xs :=
  own_same h fun g hg => hb.block g (h.lt g hg).2
theorem own_slice {w : World} {base : Nat} {e : TypeId} {size : Nat} {v : Value} {n : Nat} {xs : List Value} (h : w.ownsRow base e size v n xs) : ∃ A c, v = .slice A n c ∧ n ≤ c ∧ c ≤ 9223372036854775807 ∧ (A = Option.none → c = 0) := by
  rcases h.2 with ⟨rfl, rfl⟩ | ⟨g, cap, cur, rfl, _, _, hc, hm, _⟩
  · exact ⟨Option.none, 0, rfl, Nat.le_refl _, by omega, fun _ => rfl⟩
  · exact ⟨_, cap, rfl, hc, by unfold maxLen at hm; exact hm, fun e => by cases e⟩
end Go.Proofs.YtmjcbjcnmgleaaaGreatDoor
