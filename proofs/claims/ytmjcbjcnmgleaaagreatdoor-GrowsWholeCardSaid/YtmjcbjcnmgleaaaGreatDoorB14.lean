/-
  Package allocs, one thread alone, in plain words: an Alloc of eight steps, a Free of six, or four; a list that is filled; condition: the list lies as a stack, the segment does not drain.
  A new memory; the law's Begin: segments mapped, all their slots in the list; condition: the tables as laid.
-/
import Derived.Test.YtmjcbjcnmgleaaaGreatDoorB12
import Derived.Test.YtmjcbjcnmgleaaaGreatDoorH5
namespace Go.Proofs.YtmjcbjcnmgleaaaGreatDoor
open Go.RowKit Go.Maps

/-- The slots from n - 1 down. -/
def downS : Nat → List Int
  | 0 => []
  | n + 1 => (n : Int) :: downS n
theorem down_count (n : Nat) (z : Int) : (downS n).count z = if 0 ≤ z ∧ z < n then 1 else 0 := by
  induction n with
  | zero => rw [if_neg (by omega)]; rfl
  | succ n ih =>
    simp only [downS, List.count_cons]
    rw [ih]
    by_cases h : (n : Int) = z
    · subst h
      rw [if_neg (show ¬ (0 ≤ (n : Int) ∧ (n : Int) < n) by omega), if_pos (show 0 ≤ (n : Int) ∧ (n : Int) < ((n + 1 : Nat) : Int) by omega)]
      simp
    · have hb : ((n : Int) == z) = false := by simpa using h
      rw [hb]
      by_cases h1 : 0 ≤ z ∧ z < n
      · rw [if_pos h1, if_pos (show 0 ≤ z ∧ z < ((n + 1 : Nat) : Int) by omega)]; rfl
      · rw [if_neg h1, if_neg (show ¬ (0 ≤ z ∧ z < ((n + 1 : Nat) : Int)) by omega)]; rfl
theorem down_notin (n : Nat) : (n : Int) ∉ downS n := by
  rw [← List.count_eq_zero, down_count, if_neg (by omega)]
section
variable {M : MV} {S : List Int} {x s T v : Int} {V : Ad → Int}
theorem er_ne : adEr ≠ adF := ad_ne (.inl (by decide))
theorem er_neS (hs : 0 ≤ s ∧ s < 256) : adEr ≠ adS s ∧ adEr ≠ adH s ∧ adEr ≠ adB s :=
  ⟨ad_ne (.inl (by rw [(adS_at (slot_i64 hs)).1]; decide)), ad_ne (.inl (by rw [(adH_at (slot_i64 hs)).1]; decide)), ad_ne (.inl (by rw [(adB_at (slot_i64 hs)).1]; decide))⟩
theorem er_neG {g : Int} (hg : 0 ≤ g ∧ g < 32) : adEr ≠ adG g ∧ adEr ≠ adP g :=
  ⟨ad_ne (.inl (by rw [(adG_at (g_i64 hg)).1]; decide)), ad_ne (.inl (by rw [(adP_at (g_i64 hg)).1]; decide))⟩
theorem csV_hit (h : V adF = x) : csV V adF x v = setV V adF v := by rw [csV_F, if_pos h]
/-- A slot goes into the list, by three steps of one alone. -/
theorem push_alone (h : Stk (maV M.V).ms S T) (hx : x ∉ S) (h0 : 0 ≤ x ∧ x < 256) (ht : T + 1 < 1000000) :
    pushX ⟨1, 0, x⟩ M = (⟨2, M.V adF, x⟩, ldM M adF) ∧ pushX ⟨2, M.V adF, x⟩ (ldM M adF) = (⟨3, M.V adF, x⟩, stM (ldM M adF) (adS x) (headW (wSlot (M.V adF)) 0)) ∧
    pushX ⟨3, M.V adF, x⟩ (stM (ldM M adF) (adS x) (headW (wSlot (M.V adF)) 0)) = (⟨0, M.V adF, x⟩, csM (stM (ldM M adF) (adS x) (headW (wSlot (M.V adF)) 0)) adF (M.V adF) (nextW (M.V adF) x)) ∧
    Stk (maV (csM (stM (ldM M adF) (adS x) (headW (wSlot (M.V adF)) 0)) adF (M.V adF) (nextW (M.V adF) x)).V).ms (x :: S) (T + 1) ∧
    (csM (stM (ldM M adF) (adS x) (headW (wSlot (M.V adF)) 0)) adF (M.V adF) (nextW (M.V adF) x)).V = setV (setV M.V (adS x) (headW (wSlot (M.V adF)) 0)) adF (nextW (M.V adF) x) := by
  have hF : setV M.V (adS x) (headW (wSlot (M.V adF)) 0) adF = M.V adF := setV_other (ms_ne h0).1.symm _
  have eV : (csM (stM (ldM M adF) (adS x) (headW (wSlot (M.V adF)) 0)) adF (M.V adF) (nextW (M.V adF) x)).V = setV (setV M.V (adS x) (headW (wSlot (M.V adF)) 0)) adF (nextW (M.V adF) x) := csV_hit hF
  have hd : M.V adF = headW (topOf S) T := h.hd
  refine ⟨rfl, rfl, ?_, ?_, eV⟩
  · show (_, _) = _
    rw [show (stM (ldM M adF) (adS x) (headW (wSlot (M.V adF)) 0)).V adF = M.V adF from hF, if_pos rfl]
  · rw [eV, ma_head, ma_link h0]
    obtain ⟨g1, g2⟩ := h.linked hx
    have hw : wSlot (M.V adF) = topOf S := by rw [hd]; exact h.slot
    have := g1.pushed g2 hx h0.1 h0.2 ht
    rw [hw]
    have e : nextW (M.V adF) x = headW x (T + 1) := by rw [hd]; unfold nextW; rw [tag_small _ T h.t0 h.t1]
    rw [e]
    exact this
end
end Go.Proofs.YtmjcbjcnmgleaaaGreatDoor
namespace Go.Proofs.YtmjcbjcnmgleaaaGreatDoor
open Go.RowKit Go.Maps

def mv0 : MV := ⟨fun _ => 0, ⟨0, 0, 0, 0, 0, 0, 0, false⟩⟩
theorem new_vx {w : World} (hL : Lay w) (hM : LayM w) : Calls Tryz.prog 30 #[] w fun e w' => ∃ p b, e = .returned (.pointer (some ⟨p, 0, none⟩)) ∧ VX p b mv0 w' ∧ Below w.heap.size w w' ∧ w.heap.size ≤ b ∧ b < p := by
  refine (new_some w).mono ?_
  rintro e w' ⟨p, b, rfl, hp, hb, h1, h2⟩
  have := hM.1
  have := hL.1
  exact ⟨p, b, rfl, ⟨⟨0, _, Int.le_refl _, rq_nil, hp, fun _ => rfl⟩, hL.below hb, hM.below hb, by omega, by omega⟩, hb, h1, h2⟩
/-- What Begin has made so far: n slots in the list, i segments mapped. -/
structure Beg (n i : Nat) (M : MV) : Prop where
  stk : Stk (maV M.V).ms (downS n) n
  hdr : ∀ z, (maV M.V).hdr z = 0
  spk : ∀ g, (maV M.V).spk g = 0
  sst : ∀ g : Int, 0 ≤ g → g < i → (maV M.V).sst g = 1
  off : ∀ g : Int, (i : Int) ≤ g → (maV M.V).sst g = 0
  era : M.V adEr = 0
  st : M.s.st = i + 3 * n
theorem Beg.start : Beg 0 0 mv0 := by
  refine ⟨?_, fun z => ?_, fun g => ?_, fun g h0 h1 => by omega, fun g _ => ?_, rfl, rfl⟩
  · have : (maV mv0.V).ms = ⟨0, fun _ => 0⟩ := by
      show (⟨0, fun s => if 0 ≤ s ∧ s < 256 then 0 else 0⟩ : MS) = _
      congr 1
      funext s
      split <;> rfl
    rw [this]
    exact Stk.start
  · show (if 0 ≤ z ∧ z < 256 then 0 else 0) = 0
    split <;> rfl
  · show (if 0 ≤ g ∧ g < 32 then 0 else 0) = 0
    split <;> rfl
  · show (if 0 ≤ g ∧ g < 32 then 0 else 0) = 0
    split <;> rfl
theorem Beg.seg {n i : Nat} {M : MV} (h : Beg n i M) (hi : i < 32) : Beg n (i + 1) (stM M (adG i) 1) := by
  have hg : 0 ≤ (i : Int) ∧ (i : Int) < 32 := by omega
  have e : maV (stM M (adG i) 1).V = (maV M.V).setD i 1 := ma_setD hg 1
  refine ⟨by rw [e]; exact h.stk, by rw [e]; exact h.hdr, by rw [e]; exact h.spk, fun g h0 h1 => ?_, fun g h0 => ?_, ?_, ?_⟩
  · rw [e]
    show (if g = (i : Int) then (1 : Int) else (maV M.V).sst g) = 1
    by_cases hgi : g = i
    · rw [if_pos hgi]
    · rw [if_neg hgi]; exact h.sst g h0 (by omega)
  · rw [e]
    show (if g = (i : Int) then (1 : Int) else (maV M.V).sst g) = 0
    rw [if_neg (by push_cast at h0; omega)]
    exact h.off g (by push_cast at h0; omega)
  · exact (setV_other (er_neG hg).1 _).trans h.era
  · show M.s.st + 1 = _
    rw [h.st]
    push_cast
    omega
/-- The memory behind a push of one alone. -/
def pushM (M : MV) (x : Int) : MV := csM (stM (ldM M adF) (adS x) (headW (wSlot (M.V adF)) 0)) adF (M.V adF) (nextW (M.V adF) x)
theorem Beg.push {n i : Nat} {M : MV} (h : Beg n i M) (hn : n < 256) : Beg (n + 1) i (pushM M n) := by
  have hs : 0 ≤ (n : Int) ∧ (n : Int) < 256 := by omega
  obtain ⟨_, _, _, p4, p5⟩ := push_alone h.stk (down_notin n) hs (by omega)
  have e : maV (pushM M n).V = { maV M.V with ms := (maV (pushM M n).V).ms } := by
    have e0 : (pushM M n).V = setV (setV M.V (adS n) (headW (wSlot (M.V adF)) 0)) adF (nextW (M.V adF) n) := p5
    rw [e0, ma_head, ma_link hs]
  have e3 : (maV (pushM M n).V).hdr = (maV M.V).hdr := by rw [e]
  have e4 : (maV (pushM M n).V).spk = (maV M.V).spk := by rw [e]
  have e5 : (maV (pushM M n).V).sst = (maV M.V).sst := by rw [e]
  refine ⟨by exact_mod_cast p4, by rw [e3]; exact h.hdr, by rw [e4]; exact h.spk, by rw [e5]; exact h.sst, by rw [e5]; exact h.off, ?_, ?_⟩
  · show (csM _ _ _ _).V adEr = 0
    rw [p5, setV_other er_ne, setV_other (er_neS hs).1]
    exact h.era
  · show M.s.st + 1 + 1 + 1 = _
    rw [h.st]
    push_cast
    omega
section
variable {p b q : Nat} {M M' : MV} {nx h to nx' h' to' : Int} {w : World}
theorem pushX_to (hq : 1 < q) (F : VX p b M w) (hs : M.s.st < 1000000) (hh : U64 h) (hnx : 0 ≤ nx ∧ nx ≤ 3) (hto : nx = 2 → I64w to) (ho : OpAt 198 q nx h to w) (e : pushX ⟨nx, h, to⟩ M = (⟨nx', h', to'⟩, M')) {c : Bool} (ec : (nx' == 0) = c) :
    Calls Tryz.prog 83 #[.pointer (some ⟨q, 0, none⟩), .pointer (some ⟨p, 0, none⟩)] w fun e w' => e = .returned (.bool c) ∧ OpAt 198 q nx' h' to' w' ∧ VX p b M' w' ∧ Only3 p b q w w' := by
  subst ec
  have := push_stepX (o := ⟨nx, h, to⟩) hq F hs hh hnx hto ho
  rw [e] at this
  exact this
end
def BegP (n : Nat) (W : World) (e : Ending) (w' : World) : Prop := ∃ p b M, e = .returned (.tuple #[.pointer (some ⟨p, 0, none⟩), .bool true]) ∧ Beg (8 * n) n M ∧ VX p b M w' ∧ Below W.heap.size W w' ∧ W.heap.size ≤ p ∧ W.heap.size ≤ b
theorem vx_storeG {p b i : Nat} {M : MV} {w : World} (hi : i < 32) (F : VX p b M w) (hs : M.s.st < 1000000) :
    Calls Tryz.prog 32 #[.pointer (some ⟨p, 0, none⟩), .agg #[.int .u8 6, .int .i64 i, .int .i64 0], .int .u64 1] w fun e w' => e = .returned (.tuple #[]) ∧ VX p b (stM M (adG i) 1) w' ∧ Only p b w w' := by
  have := F.store hs (adG i) 1 ⟨by decide, by decide⟩
  have h := g_i64 (show 0 ≤ (i : Int) ∧ (i : Int) < 32 by omega)
  rw [(adG_at h).1, (adG_at h).2.1, (adG_at h).2.2] at this
  exact this
set_option maxRecDepth 100000 in
set_option maxHeartbeats 4000000 in
theorem begin8_any (n : Nat) (hn : n ≤ 3) (W : World) (hL : Lay W) (hM : LayM W) : Calls Tryz.prog 45 #[.int .i64 n] W (BegP n W) := by
  have h1W : 1 < W.heap.size := by have := hM.1; have := hL.1; omega
  have hn' : (n : Int) ≤ 3 := by omega
  have hnew := new_vx hL hM
  clear hL hM
  go_enter Tryz.func45, Tryz.ntmps45
  go_wp2_with fail
  ((with_reducible refine hnew.mono ?_); rintro e w1 ⟨p, b, rfl, F1, hb1, hwb, hbp⟩)
  have HR := Lib.hid (show ∃ M, Beg (8 * 0) 0 M ∧ VX p b M w1 ∧ Below W.heap.size W w1 from ⟨mv0, Beg.start, F1, hb1⟩)
  have hpW : W.heap.size ≤ p := by omega
  clear hnew F1 hb1
  go_wp2_with fail
  go_loopw [5] (fun j wr => ∃ i : Nat, i ≤ n ∧ j = .int .i64 (i : Int) ∧ Hid (∃ M, Beg (8 * i) i M ∧ VX p b M wr ∧ Below W.heap.size W wr)) (fun j _ => n - (intOf j).toNat)
  case atStart => exact ⟨0, Nat.zero_le _, rfl, HR⟩
  case round =>
    clear HR
    obtain ⟨i, hi, rfl, hr⟩ := hrel
    have hge : (0 : Int) ≤ (i : Int) := by omega
    have hi32 : (i : Int) < 32 := by omega
    by_cases hlt : i < n
    · obtain ⟨M, hB, F, hlow⟩ := hr.out
      have hlt' : (i : Int) < (n : Int) := by omega
      have hst := hB.st
      have HB := Lib.hid hB
      have HF := Lib.hid F
      have HLOW := Lib.hid hlow
      clear hB F hlow hr
      go_wp2_with fail
      ((with_reducible refine (vx_storeG (by omega) HF.out (by omega)).mono ?_); rintro e w2 ⟨rfl, F2, h2⟩)
      have HR := Lib.hid (show ∃ M', Beg (8 * i + 0) (i + 1) M' ∧ VX p b M' w2 ∧ Below W.heap.size W w2 from ⟨_, HB.out.seg (by omega), F2, HLOW.out.trans ((Only3.of_only (q := p) h2).below (B := W.heap.size) hpW hwb hpW HLOW.out.size)⟩)
      clear HB HF HLOW F2 h2 hst M
      go_wp2_with fail
      rename World => wA
      go_loopw [6] (fun j wr => ∃ k : Nat, k ≤ 8 ∧ j = .int .i64 (k : Int) ∧ Hid (∃ M, Beg (8 * i + k) (i + 1) M ∧ VX p b M wr ∧ Below W.heap.size W wr)) (fun j _ => 8 - (intOf j).toNat)
      case atStart => exact ⟨0, Nat.zero_le _, rfl, HR⟩
      case round =>
        clear HR
        obtain ⟨k, hk, rfl, hr⟩ := hrel
        rename World => wA
        have hkg : (0 : Int) ≤ (k : Int) := by omega
        by_cases hk8 : k < 8
        · have hk8' : (k : Int) < 8 := by omega
          obtain ⟨M, hB, F, hlow⟩ := hr.out
          have hst := hB.st
          have HB := Lib.hid hB
          have HF := Lib.hid F
          have HLOW := Lib.hid hlow
          obtain ⟨p1, p2, p3, _, _⟩ := push_alone hB.stk (down_notin (8 * i + k)) (show 0 ≤ ((8 * i + k : Nat) : Int) ∧ ((8 * i + k : Nat) : Int) < 256 by omega) (by push_cast; omega)
          have hx : ((8 * i + k : Nat) : Int) = 8 * (i : Int) + (k : Int) := by omega
          rw [hx] at p1 p2 p3
          have P1 := Lib.hid p1
          have P2 := Lib.hid p2
          have P3 := Lib.hid p3
          have e1 : IntKind.i64.wrap ((i : Int) * 8) = (i : Int) * 8 := by simp [IntKind.wrap, IntKind.bits, IntKind.signed]; omega
          have e2 : IntKind.i64.wrap ((i : Int) * 8 + (k : Int)) = 8 * (i : Int) + (k : Int) := by simp [IntKind.wrap, IntKind.bits, IntKind.signed]; omega
          have hW1 : W.heap.size ≤ wA.heap.size := hlow.size
          clear hB F hlow hr p1 p2 p3
          have HX := Lib.hid hx
          clear hx
          go_wp2_with fail
          ((with_reducible refine (newPush_any (8 * (i : Int) + (k : Int)) (by omega) (by omega) wA).mono ?_); rintro e w3 ⟨rfl, o3, hb3, -⟩)
          have HF3 := Lib.hid (HF.out.below hb3)
          have HLOW3 := Lib.hid (HLOW.out.trans (hb3.mono HLOW.out.size))
          have HO3 := Lib.hid o3
          have hU := HF.out.u64 adF
          have hs1 : (ldM M adF).s.st < 1000000 := by show M.s.st + 1 < 1000000; omega
          have hs2 : (stM (ldM M adF) (adS (8 * (i : Int) + (k : Int))) (headW (wSlot (M.V adF)) 0)).s.st < 1000000 := by show M.s.st + 1 + 1 < 1000000; omega
          clear o3 hb3 HF HLOW e1 e2
          generalize wA.heap.size = q at *
          have h1q : 1 < q := by omega
          go_wp2_with fail
          ((with_reducible refine (pushX_to (c := false) h1q HF3.out (by omega) u64_0 (by decide) (fun h => absurd h (by decide)) HO3.out P1.out rfl).mono ?_); rintro e w4 ⟨rfl, o4, F4, k4⟩)
          have HF4 := Lib.hid F4
          have HO4 := Lib.hid o4
          have HLOW4 := Lib.hid (HLOW3.out.trans (k4.below (B := W.heap.size) hpW hwb hW1 (by have := HLOW3.out.size; omega)))
          clear o4 F4 k4 HF3 HO3 HLOW3
          go_wp2_with fail
          ((with_reducible refine (pushX_to (c := false) h1q HF4.out hs1 hU (by decide) (fun _ => i64w_in (by omega) (by omega)) HO4.out P2.out rfl).mono ?_); rintro e w5 ⟨rfl, o5, F5, k5⟩)
          have HF5 := Lib.hid F5
          have HO5 := Lib.hid o5
          have HLOW5 := Lib.hid (HLOW4.out.trans (k5.below (B := W.heap.size) hpW hwb hW1 (by have := HLOW4.out.size; omega)))
          clear o5 F5 k5 HF4 HO4 HLOW4
          go_wp2_with fail
          ((with_reducible refine (pushX_to (c := true) h1q HF5.out hs2 hU (by decide) (fun h => absurd h (by decide)) HO5.out P3.out rfl).mono ?_); rintro e w6 ⟨rfl, o6, F6, k6⟩)
          have HR := Lib.hid (show ∃ M', Beg (8 * i + (k + 1)) (i + 1) M' ∧ VX p b M' w6 ∧ Below W.heap.size W w6 from ⟨_, HB.out.push (by omega), (by unfold pushM; rw [HX.out]; exact F6), HLOW5.out.trans (k6.below (B := W.heap.size) hpW hwb hW1 (by have := HLOW5.out.size; omega))⟩)
          clear o6 F6 k6 HF5 HO5 HLOW5 HB P1 P2 P3 hst hU hs1 hs2
          go_wp2_with fail
          go_roundw
          case rel => exact ⟨k + 1, by omega, by go_num, HR⟩
          case measure => simp [intOf]; omega
        · have hkk : k = 8 := by omega
          have hk8' : (8 : Int) ≤ (k : Int) := by omega
          have hr2 := hr.out
          rw [hkk, show 8 * i + 8 = 8 * (i + 1) by omega] at hr2
          have HR := Lib.hid hr2
          clear hr hr2 hkk
          go_wp2_with fail
          go_roundw
          case rel => exact ⟨i + 1, by omega, by go_num, HR⟩
          case measure => simp [intOf]; omega
    · have hin : i = n := by omega
      have hge' : (n : Int) ≤ (i : Int) := by omega
      have hr2 := hr.out
      rw [hin] at hr2
      obtain ⟨M, hB, F, hlow⟩ := hr2
      have HB := Lib.hid hB
      have HF := Lib.hid F
      have HLOW := Lib.hid hlow
      clear hr hin hB F hlow
      go_wp2_with fail
      go_ret2
      exact ⟨p, b, M, rfl, HB.out, HF.out, HLOW.out, hpW, hwb⟩
end Go.Proofs.YtmjcbjcnmgleaaaGreatDoor
