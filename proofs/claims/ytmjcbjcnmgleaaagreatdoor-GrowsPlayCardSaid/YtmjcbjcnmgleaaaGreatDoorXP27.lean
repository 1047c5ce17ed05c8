/-
  Package allocs, one thread alone, in plain words; How many steps of the memory an operation's step takes; append, in whatever case; conditions as each theorem says.
-/
import Derived.Test.YtmjcbjcnmgleaaaGreatDoorXP22
import Derived.Test.YtmjcbjcnmgleaaaGreatDoorXP24
import Derived.Laws.StructEq
import Derived.Test.YtmjcbjcnmgleaaaGreatDoorXP05
namespace Go.Proofs.YtmjcbjcnmgleaaaGreatDoor
open Go.RowKit Go.Maps
def downS : Nat → List Int
  | 0 => []
  | n + 1 => (n : Int) :: downS n
theorem down_count (n : Nat) (z : Int) : (downS n).count z = if 0 ≤ z ∧ z < n then 1 else 0 := by
  induction n with
  | zero => rw [if_neg (by omega)]; rfl
  | succ n ih =>
    simp only [downS, List.count_cons]
    rw [ih]
    by_cases h : (n : Int) = z
    · subst h
      rw [if_neg (show ¬ (0 ≤ (n : Int) ∧ (n : Int) < n) by omega), if_pos (show 0 ≤ (n : Int) ∧ (n : Int) < ((n + 1 : Nat) : Int) by omega)]
      simp
    · have hb : ((n : Int) == z) = false := by simpa using h
      rw [hb]
      by_cases h1 : 0 ≤ z ∧ z < n
      · rw [if_pos h1, if_pos (show 0 ≤ z ∧ z < ((n + 1 : Nat) : Int) by omega)]; rfl
      · rw [if_neg h1, if_neg (show ¬ (0 ≤ z ∧ z < ((n + 1 : Nat) : Int)) by omega)]; rfl
theorem down_notin (n : Nat) : (n : Int) ∉ downS n := by
  rw [← List.count_eq_zero, down_count, if_neg (by omega)]
section
variable {M : MV} {S : List Int} {x s T v : Int} {V : Ad → Int}
theorem er_ne : adEr ≠ adF := ad_ne (.inl (by decide))
theorem er_neS (hs : 0 ≤ s ∧ s < 256) : adEr ≠ adS s ∧ adEr ≠ adH s ∧ adEr ≠ adB s :=
  ⟨ad_ne (.inl (by rw [(adS_at (slot_i64 hs)).1]; decide)), ad_ne (.inl (by rw [(adH_at (slot_i64 hs)).1]; decide)), ad_ne (.inl (by rw [(adB_at (slot_i64 hs)).1]; decide))⟩
theorem er_neG {g : Int} (hg : 0 ≤ g ∧ g < 32) : adEr ≠ adG g ∧ adEr ≠ adP g :=
  ⟨ad_ne (.inl (by rw [(adG_at (g_i64 hg)).1]; decide)), ad_ne (.inl (by rw [(adP_at (g_i64 hg)).1]; decide))⟩
theorem csV_hit (h : V adF = x) : csV V adF x v = setV V adF v := by rw [csV_F, if_pos h]
theorem push_alone (h : Stk (maV M.V).ms S T) (hx : x ∉ S) (h0 : 0 ≤ x ∧ x < 256) (ht : T + 1 < 1000000) :
    pushX ⟨1, 0, x⟩ M = (⟨2, M.V adF, x⟩, ldM M adF) ∧ pushX ⟨2, M.V adF, x⟩ (ldM M adF) = (⟨3, M.V adF, x⟩, stM (ldM M adF) (adS x) (headW (wSlot (M.V adF)) 0)) ∧
    pushX ⟨3, M.V adF, x⟩ (stM (ldM M adF) (adS x) (headW (wSlot (M.V adF)) 0)) = (⟨0, M.V adF, x⟩, csM (stM (ldM M adF) (adS x) (headW (wSlot (M.V adF)) 0)) adF (M.V adF) (nextW (M.V adF) x)) ∧
    Stk (maV (csM (stM (ldM M adF) (adS x) (headW (wSlot (M.V adF)) 0)) adF (M.V adF) (nextW (M.V adF) x)).V).ms (x :: S) (T + 1) ∧
    (csM (stM (ldM M adF) (adS x) (headW (wSlot (M.V adF)) 0)) adF (M.V adF) (nextW (M.V adF) x)).V = setV (setV M.V (adS x) (headW (wSlot (M.V adF)) 0)) adF (nextW (M.V adF) x) := by
  have hF : setV M.V (adS x) (headW (wSlot (M.V adF)) 0) adF = M.V adF := setV_other (ms_ne h0).1.symm _
  have eV : (csM (stM (ldM M adF) (adS x) (headW (wSlot (M.V adF)) 0)) adF (M.V adF) (nextW (M.V adF) x)).V = setV (setV M.V (adS x) (headW (wSlot (M.V adF)) 0)) adF (nextW (M.V adF) x) := csV_hit hF
  have hd : M.V adF = headW (topOf S) T := h.hd
  refine ⟨rfl, rfl, ?_, ?_, eV⟩
  · show (_, _) = _
    rw [show (stM (ldM M adF) (adS x) (headW (wSlot (M.V adF)) 0)).V adF = M.V adF from hF, if_pos rfl]
  · rw [eV, ma_head, ma_link h0]
    obtain ⟨g1, g2⟩ := h.linked hx
    have hw : wSlot (M.V adF) = topOf S := by rw [hd]; exact h.slot
    have := g1.pushed g2 hx h0.1 h0.2 ht
    rw [hw]
    have e : nextW (M.V adF) x = headW x (T + 1) := by rw [hd]; unfold nextW; rw [tag_small _ T h.t0 h.t1]
    rw [e]
    exact this
end
end Go.Proofs.YtmjcbjcnmgleaaaGreatDoor
namespace Go.Proofs.YtmjcbjcnmgleaaaGreatDoor
open Go.RowKit Go.Maps
def mv0 : MV := ⟨fun _ => 0, ⟨0, 0, 0, 0, 0, 0, 0, false⟩⟩
theorem new_vx {w : World} (hL : Lay w) (hM : LayM w) : Calls Tryz.prog 30 #[] w fun e w' => ∃ p b, e = .returned (.pointer (some ⟨p, 0, none⟩)) ∧ VX p b mv0 w' ∧ Below w.heap.size w w' ∧ w.heap.size ≤ b ∧ b < p := by
  refine (new_some w).mono ?_
  rintro e w' ⟨p, b, rfl, hp, hb, h1, h2⟩
  have := hM.1
  have := hL.1
  exact ⟨p, b, rfl, ⟨⟨0, _, Int.le_refl _, rq_nil, hp, fun _ => rfl⟩, hL.below hb, hM.below hb, by omega, by omega⟩, hb, h1, h2⟩
structure Beg (n i : Nat) (M : MV) : Prop where
  stk : Stk (maV M.V).ms (downS n) n
  hdr : ∀ z, (maV M.V).hdr z = 0
  spk : ∀ g, (maV M.V).spk g = 0
  sst : ∀ g : Int, 0 ≤ g → g < i → (maV M.V).sst g = 1
  off : ∀ g : Int, (i : Int) ≤ g → (maV M.V).sst g = 0
  era : M.V adEr = 0
  st : M.s.st = i + 3 * n
theorem Beg.start : Beg 0 0 mv0 := by
  refine ⟨?_, fun z => ?_, fun g => ?_, fun g h0 h1 => by omega, fun g _ => ?_, rfl, rfl⟩
  · have : (maV mv0.V).ms = ⟨0, fun _ => 0⟩ := by
      show (⟨0, fun s => if 0 ≤ s ∧ s < 256 then 0 else 0⟩ : MS) = _
      congr 1
      funext s
      split <;> rfl
    rw [this]
    exact Stk.start
  · show (if 0 ≤ z ∧ z < 256 then 0 else 0) = 0
    split <;> rfl
  · show (if 0 ≤ g ∧ g < 32 then 0 else 0) = 0
    split <;> rfl
  · show (if 0 ≤ g ∧ g < 32 then 0 else 0) = 0
    split <;> rfl
theorem Beg.seg {n i : Nat} {M : MV} (h : Beg n i M) (hi : i < 32) : Beg n (i + 1) (stM M (adG i) 1) := by
  have hg : 0 ≤ (i : Int) ∧ (i : Int) < 32 := by omega
  have e : maV (stM M (adG i) 1).V = (maV M.V).setD i 1 := ma_setD hg 1
  refine ⟨by rw [e]; exact h.stk, by rw [e]; exact h.hdr, by rw [e]; exact h.spk, fun g h0 h1 => ?_, fun g h0 => ?_, ?_, ?_⟩
  · rw [e]
    show (if g = (i : Int) then (1 : Int) else (maV M.V).sst g) = 1
    by_cases hgi : g = i
    · rw [if_pos hgi]
    · rw [if_neg hgi]; exact h.sst g h0 (by omega)
  · rw [e]
    show (if g = (i : Int) then (1 : Int) else (maV M.V).sst g) = 0
    rw [if_neg (by push_cast at h0; omega)]
    exact h.off g (by push_cast at h0; omega)
  · exact (setV_other (er_neG hg).1 _).trans h.era
  · show M.s.st + 1 = _
    rw [h.st]
    push_cast
    omega
def pushM (M : MV) (x : Int) : MV := csM (stM (ldM M adF) (adS x) (headW (wSlot (M.V adF)) 0)) adF (M.V adF) (nextW (M.V adF) x)
theorem Beg.push {n i : Nat} {M : MV} (h : Beg n i M) (hn : n < 256) : Beg (n + 1) i (pushM M n) := by
  have hs : 0 ≤ (n : Int) ∧ (n : Int) < 256 := by omega
  obtain ⟨_, _, _, p4, p5⟩ := push_alone h.stk (down_notin n) hs (by omega)
  have e : maV (pushM M n).V = { maV M.V with ms := (maV (pushM M n).V).ms } := by
    have e0 : (pushM M n).V = setV (setV M.V (adS n) (headW (wSlot (M.V adF)) 0)) adF (nextW (M.V adF) n) := p5
    rw [e0, ma_head, ma_link hs]
  have e3 : (maV (pushM M n).V).hdr = (maV M.V).hdr := by rw [e]
  have e4 : (maV (pushM M n).V).spk = (maV M.V).spk := by rw [e]
  have e5 : (maV (pushM M n).V).sst = (maV M.V).sst := by rw [e]
  refine ⟨by exact_mod_cast p4, by rw [e3]; exact h.hdr, by rw [e4]; exact h.spk, by rw [e5]; exact h.sst, by rw [e5]; exact h.off, ?_, ?_⟩
  · show (csM _ _ _ _).V adEr = 0
    rw [p5, setV_other er_ne, setV_other (er_neS hs).1]
    exact h.era
  · show M.s.st + 1 + 1 + 1 = _
    rw [h.st]
    push_cast
    omega
section
variable {p b q : Nat} {M M' : MV} {nx h to nx' h' to' : Int} {w : World}
theorem pushX_to (hq : 1 < q) (F : VX p b M w) (hs : M.s.st < 1000000) (hh : U64 h) (hnx : 0 ≤ nx ∧ nx ≤ 3) (hto : nx = 2 → I64w to) (ho : OpAt 198 q nx h to w) (e : pushX ⟨nx, h, to⟩ M = (⟨nx', h', to'⟩, M')) {c : Bool} (ec : (nx' == 0) = c) :
    Calls Tryz.prog 83 #[.pointer (some ⟨q, 0, none⟩), .pointer (some ⟨p, 0, none⟩)] w fun e w' => e = .returned (.bool c) ∧ OpAt 198 q nx' h' to' w' ∧ VX p b M' w' ∧ Only3 p b q w w' := by
  subst ec
  have := push_stepX (o := ⟨nx, h, to⟩) hq F hs hh hnx hto ho
  rw [e] at this
  exact this
end
def BegP (n : Nat) (W : World) (e : Ending) (w' : World) : Prop := ∃ p b M, e = .returned (.tuple #[.pointer (some ⟨p, 0, none⟩), .bool true]) ∧ Beg (8 * n) n M ∧ VX p b M w' ∧ Below W.heap.size W w' ∧ W.heap.size ≤ p ∧ W.heap.size ≤ b
theorem vx_storeG {p b i : Nat} {M : MV} {w : World} (hi : i < 32) (F : VX p b M w) (hs : M.s.st < 1000000) :
    Calls Tryz.prog 32 #[.pointer (some ⟨p, 0, none⟩), .agg #[.int .u8 6, .int .i64 i, .int .i64 0], .int .u64 1] w fun e w' => e = .returned (.tuple #[]) ∧ VX p b (stM M (adG i) 1) w' ∧ Only p b w w' := by
  have := F.store hs (adG i) 1 ⟨by decide, by decide⟩
  have h := g_i64 (show 0 ≤ (i : Int) ∧ (i : Int) < 32 by omega)
  rw [(adG_at h).1, (adG_at h).2.1, (adG_at h).2.2] at this
  exact this
set_option maxRecDepth 100000 in
set_option maxHeartbeats 4000000 in
theorem begin8_any (n : Nat) (hn : n ≤ 3) (W : World) (hL : Lay W) (hM : LayM W) : Calls Tryz.prog 45 #[.int .i64 n] W (BegP n W) := by
  have h1W : 1 < W.heap.size := by have := hM.1; have := hL.1; omega
  have hn' : (n : Int) ≤ 3 := by omega
  have hnew := new_vx hL hM
  clear hL hM
  go_enter Tryz.func45, Tryz.ntmps45
  go_wp2_with fail
  ((with_reducible refine hnew.mono ?_); rintro e w1 ⟨p, b, rfl, F1, hb1, hwb, hbp⟩)
  have HR := Lib.hid (show ∃ M, Beg (8 * 0) 0 M ∧ VX p b M w1 ∧ Below W.heap.size W w1 from ⟨mv0, Beg.start, F1, hb1⟩)
  have hpW : W.heap.size ≤ p := by omega
  clear hnew F1 hb1
  go_wp2_with fail
  go_loopw [5] (fun j wr => ∃ i : Nat, i ≤ n ∧ j = .int .i64 (i : Int) ∧ Hid (∃ M, Beg (8 * i) i M ∧ VX p b M wr ∧ Below W.heap.size W wr)) (fun j _ => n - (intOf j).toNat)
  case atStart => exact ⟨0, Nat.zero_le _, rfl, HR⟩
  case round =>
    clear HR
    obtain ⟨i, hi, rfl, hr⟩ := hrel
    have hge : (0 : Int) ≤ (i : Int) := by omega
    have hi32 : (i : Int) < 32 := by omega
    by_cases hlt : i < n
    · obtain ⟨M, hB, F, hlow⟩ := hr.out
      have hlt' : (i : Int) < (n : Int) := by omega
      have hst := hB.st
      have HB := Lib.hid hB
      have HF := Lib.hid F
      have HLOW := Lib.hid hlow
      clear hB F hlow hr
      go_wp2_with fail
      ((with_reducible refine (vx_storeG (by omega) HF.out (by omega)).mono ?_); rintro e w2 ⟨rfl, F2, h2⟩)
      have HR := Lib.hid (show ∃ M', Beg (8 * i + 0) (i + 1) M' ∧ VX p b M' w2 ∧ Below W.heap.size W w2 from ⟨_, HB.out.seg (by omega), F2, HLOW.out.trans ((Only3.of_only (q := p) h2).below (B := W.heap.size) hpW hwb hpW HLOW.out.size)⟩)
      clear HB HF HLOW F2 h2 hst M
      go_wp2_with fail
      rename World => wA
      go_loopw [6] (fun j wr => ∃ k : Nat, k ≤ 8 ∧ j = .int .i64 (k : Int) ∧ Hid (∃ M, Beg (8 * i + k) (i + 1) M ∧ VX p b M wr ∧ Below W.heap.size W wr)) (fun j _ => 8 - (intOf j).toNat)
      case atStart => exact ⟨0, Nat.zero_le _, rfl, HR⟩
      case round =>
        clear HR
        obtain ⟨k, hk, rfl, hr⟩ := hrel
        rename World => wA
        have hkg : (0 : Int) ≤ (k : Int) := by omega
        by_cases hk8 : k < 8
        · have hk8' : (k : Int) < 8 := by omega
          obtain ⟨M, hB, F, hlow⟩ := hr.out
          have hst := hB.st
          have HB := Lib.hid hB
          have HF := Lib.hid F
          have HLOW := Lib.hid hlow
          obtain ⟨p1, p2, p3, _, _⟩ := push_alone hB.stk (down_notin (8 * i + k)) (show 0 ≤ ((8 * i + k : Nat) : Int) ∧ ((8 * i + k : Nat) : Int) < 256 by omega) (by push_cast; omega)
          have hx : ((8 * i + k : Nat) : Int) = 8 * (i : Int) + (k : Int) := by omega
          rw [hx] at p1 p2 p3
          have P1 := Lib.hid p1
          have P2 := Lib.hid p2
          have P3 := Lib.hid p3
          have e1 : IntKind.i64.wrap ((i : Int) * 8) = (i : Int) * 8 := by simp [IntKind.wrap, IntKind.bits, IntKind.signed]; omega
          have e2 : IntKind.i64.wrap ((i : Int) * 8 + (k : Int)) = 8 * (i : Int) + (k : Int) := by simp [IntKind.wrap, IntKind.bits, IntKind.signed]; omega
          have hW1 : W.heap.size ≤ wA.heap.size := hlow.size
          clear hB F hlow hr p1 p2 p3
          have HX := Lib.hid hx
          clear hx
          go_wp2_with fail
          ((with_reducible refine (newPush_any (8 * (i : Int) + (k : Int)) (by omega) (by omega) wA).mono ?_); rintro e w3 ⟨rfl, o3, hb3, -⟩)
          have HF3 := Lib.hid (HF.out.below hb3)
          have HLOW3 := Lib.hid (HLOW.out.trans (hb3.mono HLOW.out.size))
          have HO3 := Lib.hid o3
          have hU := HF.out.u64 adF
          have hs1 : (ldM M adF).s.st < 1000000 := by show M.s.st + 1 < 1000000; omega
          have hs2 : (stM (ldM M adF) (adS (8 * (i : Int) + (k : Int))) (headW (wSlot (M.V adF)) 0)).s.st < 1000000 := by show M.s.st + 1 + 1 < 1000000; omega
          clear o3 hb3 HF HLOW e1 e2
          generalize wA.heap.size = q at *
          have h1q : 1 < q := by omega
          go_wp2_with fail
          ((with_reducible refine (pushX_to (c := false) h1q HF3.out (by omega) u64_0 (by decide) (fun h => absurd h (by decide)) HO3.out P1.out rfl).mono ?_); rintro e w4 ⟨rfl, o4, F4, k4⟩)
          have HF4 := Lib.hid F4
          have HO4 := Lib.hid o4
          have HLOW4 := Lib.hid (HLOW3.out.trans (k4.below (B := W.heap.size) hpW hwb hW1 (by have := HLOW3.out.size; omega)))
          clear o4 F4 k4 HF3 HO3 HLOW3
          go_wp2_with fail
          ((with_reducible refine (pushX_to (c := false) h1q HF4.out hs1 hU (by decide) (fun _ => i64w_in (by omega) (by omega)) HO4.out P2.out rfl).mono ?_); rintro e w5 ⟨rfl, o5, F5, k5⟩)
          have HF5 := Lib.hid F5
          have HO5 := Lib.hid o5
          have HLOW5 := Lib.hid (HLOW4.out.trans (k5.below (B := W.heap.size) hpW hwb hW1 (by have := HLOW4.out.size; omega)))
          clear o5 F5 k5 HF4 HO4 HLOW4
          go_wp2_with fail
          ((with_reducible refine (pushX_to (c := true) h1q HF5.out hs2 hU (by decide) (fun h => absurd h (by decide)) HO5.out P3.out rfl).mono ?_); rintro e w6 ⟨rfl, o6, F6, k6⟩)
          have HR := Lib.hid (show ∃ M', Beg (8 * i + (k + 1)) (i + 1) M' ∧ VX p b M' w6 ∧ Below W.heap.size W w6 from ⟨_, HB.out.push (by omega), (by unfold pushM; rw [HX.out]; exact F6), HLOW5.out.trans (k6.below (B := W.heap.size) hpW hwb hW1 (by have := HLOW5.out.size; omega))⟩)
          clear o6 F6 k6 HF5 HO5 HLOW5 HB P1 P2 P3 hst hU hs1 hs2
          go_wp2_with fail
          go_roundw
          case rel => exact ⟨k + 1, by omega, by go_num, HR⟩
          case measure => simp [intOf]; omega
        · have hkk : k = 8 := by omega
          have hk8' : (8 : Int) ≤ (k : Int) := by omega
          have hr2 := hr.out
          rw [hkk, show 8 * i + 8 = 8 * (i + 1) by omega] at hr2
          have HR := Lib.hid hr2
          clear hr hr2 hkk
          go_wp2_with fail
          go_roundw
          case rel => exact ⟨i + 1, by omega, by go_num, HR⟩
          case measure => simp [intOf]; omega
    · have hin : i = n := by omega
      have hge' : (n : Int) ≤ (i : Int) := by omega
      have hr2 := hr.out
      rw [hin] at hr2
      obtain ⟨M, hB, F, hlow⟩ := hr2
      have HB := Lib.hid hB
      have HF := Lib.hid F
      have HLOW := Lib.hid hlow
      clear hr hin hB F hlow
      go_wp2_with fail
      go_ret2
      exact ⟨p, b, M, rfl, HB.out, HF.out, HLOW.out, hpW, hwb⟩
end Go.Proofs.YtmjcbjcnmgleaaaGreatDoor
namespace Go.Proofs.YtmjcbjcnmgleaaaGreatDoor
open Go.RowKit Go.Maps
theorem ld_st (M : MV) (x : Ad) : (ldM M x).s.st = M.s.st + 1 := rfl
theorem popX_st (o : OS) (M : MV) : (popX o M).2.s.st ≤ M.s.st + 1 := by
  unfold popX
  by_cases h : o.nx = 1
  · rw [if_pos h]; exact Int.le_refl _
  rw [if_neg h]
  by_cases h : o.nx = 2
  · rw [if_pos h]; exact Int.le_refl _
  rw [if_neg h]
  by_cases h : o.nx = 3
  · rw [if_pos h]; exact Int.le_refl _
  rw [if_neg h]
  show M.s.st ≤ M.s.st + 1
  omega
theorem pushX_st (o : OS) (M : MV) : (pushX o M).2.s.st ≤ M.s.st + 1 := by
  unfold pushX
  by_cases h : o.nx = 1
  · rw [if_pos h]; exact Int.le_refl _
  rw [if_neg h]
  by_cases h : o.nx = 2
  · rw [if_pos h]; exact Int.le_refl _
  rw [if_neg h]
  by_cases h : o.nx = 3
  · rw [if_pos h]; exact Int.le_refl _
  rw [if_neg h]
  show M.s.st ≤ M.s.st + 1
  omega
theorem parkX_st (o : PO) (M : MV) : (parkX o M).2.s.st ≤ M.s.st + 1 := by
  unfold parkX
  by_cases h : o.ln = 1
  · rw [if_pos h]; exact Int.le_refl _
  rw [if_neg h]
  clear h
  by_cases h : o.ln = 2
  · rw [if_pos h]; exact Int.le_refl _
  rw [if_neg h]
  clear h
  by_cases h : o.ln = 3
  · rw [if_pos h]; exact Int.le_refl _
  rw [if_neg h]
  clear h
  by_cases h : o.ln = 4
  · rw [if_pos h]; exact Int.le_refl _
  rw [if_neg h]
  clear h
  by_cases h : o.ln = 5
  · rw [if_pos h]; exact Int.le_refl _
  rw [if_neg h]
  clear h
  by_cases h : o.ln = 6
  · rw [if_pos h]; exact Int.le_refl _
  rw [if_neg h]
  clear h
  by_cases h : o.ln = 7
  · rw [if_pos h]; exact Int.le_refl _
  rw [if_neg h]
  clear h
  by_cases h : o.ln = 8
  · rw [if_pos h]; exact Int.le_refl _
  rw [if_neg h]
  clear h
  by_cases h : o.ln = 9
  · rw [if_pos h]; exact Int.le_refl _
  rw [if_neg h]
  clear h
  by_cases h : o.ln = 10
  · rw [if_pos h]; exact pushX_st _ _
  rw [if_neg h]
  clear h
  by_cases h : o.ln = 11
  · rw [if_pos h]; exact Int.le_refl _
  rw [if_neg h]
  clear h
  by_cases h : o.ln = 12
  · rw [if_pos h]; exact Int.le_refl _
  rw [if_neg h]
  show M.s.st ≤ M.s.st + 1
  omega
theorem alX_st (o : AX) (M : MV) : (alX o M).2.s.st ≤ M.s.st + 1 := by
  unfold alX
  by_cases h : o.o.ln = 1
  · rw [if_pos h]; exact popX_st _ _
  rw [if_neg h]
  clear h
  by_cases h : o.o.ln = 2
  · rw [if_pos h]; exact Int.le_refl _
  rw [if_neg h]
  clear h
  by_cases h : o.o.ln = 3
  · rw [if_pos h]; exact parkX_st _ _
  rw [if_neg h]
  clear h
  by_cases h : o.o.ln = 4
  · rw [if_pos h]; exact Int.le_refl _
  rw [if_neg h]
  clear h
  by_cases h : o.o.ln = 5
  · rw [if_pos h]; exact Int.le_refl _
  rw [if_neg h]
  clear h
  by_cases h : o.o.ln = 6
  · rw [if_pos h]; exact Int.le_refl _
  rw [if_neg h]
  clear h
  by_cases h : o.o.ln = 7
  · rw [if_pos h]; exact Int.le_refl _
  rw [if_neg h]
  show M.s.st ≤ M.s.st + 1
  omega
section
variable {p b q r r1 g : Nat} {E : List Nat} {o : AX} {f : FX} {M : MV} {W w w' X Y : World}
theorem Onl.past (h : Onl p b [] W X) (k : Onl p b E X Y) (hE : ∀ x ∈ E, W.heap.size ≤ x) : Onl p b [] W Y :=
  ⟨k.os.trans h.os, k.tape.trans h.tape, k.output.trans h.output, Nat.le_trans h.size k.size, fun j hj h1 h2 h3 => (k.block j (Nat.lt_of_lt_of_le hj h.size) h1 h2 (fun e => by have := hE j e; omega)).trans (h.block j hj h1 h2 h3)⟩
theorem AlRep.on (h : AlRep q r r1 o w) (hn : o.o.ln ≠ 0) : ∃ t v0 v1 v2 v3 v4, Bq q 167 [.iface t v0, v1, v2, v3, v4] w := by
  rcases h with ⟨h, _⟩ | ⟨pt, bt, cs, s, g, hp, h1, h2, kq, kr⟩ | ⟨h, g, kq, P⟩
  · exact absurd h hn
  · exact ⟨_, _, _, _, _, _, kq⟩
  · exact ⟨_, _, _, _, _, _, kq⟩
theorem AlRep.off (h : AlRep q r r1 o w) (hn : o.o.ln = 0) : ∃ s g, (o.o.got = true → s = o.o.sl ∧ g = gW o.o.w) ∧ Bq q 167 [.nilIface, .int .i64 s, .int .u32 g, .bool false, .bool o.o.got] w := by
  rcases h with ⟨h, s, g, hg, k⟩ | ⟨pt, bt, cs, s, g, hp, h1, h2, kq, kr⟩ | ⟨h, g, kq, P⟩
  · exact ⟨s, g, hg, k⟩
  · exfalso; cases hp <;> omega
  · exfalso; omega
theorem alOver (h : AlRep q r r1 o w) : Calls Tryz.prog 58 #[.pointer (some ⟨q, 0, none⟩)] w fun e w' => e = .returned (.bool (o.o.ln == 0)) ∧ w' = w := by
  by_cases hn : o.o.ln = 0
  · obtain ⟨s, g, _, k⟩ := h.off hn
    rw [hn]
    exact overAlloc_yes k
  · obtain ⟨t, v0, v1, v2, v3, v4, k⟩ := h.on hn
    rw [fls hn]
    exact overAlloc_no k
def refV (o : AX) : Value := if o.o.got = true then .agg #[.int .i64 o.o.sl, .int .u32 (gW o.o.w), .bool false] else .agg #[.int .i64 (-1), .int .u32 0, .bool false]
theorem alGot (h : AlRep q r r1 o w) (hg : o.o.got = true → o.o.ln = 0) : Calls Tryz.prog 53 #[.pointer (some ⟨q, 0, none⟩)] w fun e w' => e = .returned (.tuple #[refV o, .bool o.o.got]) ∧ Below w.heap.size w w' := by
  by_cases hgo : o.o.got = true
  · obtain ⟨s, g, h2, k⟩ := h.off (hg hgo)
    obtain ⟨rfl, rfl⟩ := h2 hgo
    rw [hgo] at k
    unfold refV
    rw [if_pos hgo, hgo]
    exact gotAlloc_yes k
  · have hf : o.o.got = false := by simpa using hgo
    unfold refV
    rw [if_neg hgo, hf]
    rcases h with ⟨h, s, g, _, k⟩ | ⟨pt, bt, cs, s, g, hp, h1, h2, kq, kr⟩ | ⟨h, g, kq, P⟩
    · rw [hf] at k; exact gotAlloc_no k
    · exact gotAlloc_no kq
    · exact gotAlloc_no kq
structure Sole (W : World) (p b g q : Nat) (o : AX) (M : MV) (w : World) : Prop where
  rep : ∃ r r1, AlRep q r r1 o w ∧ g < r ∧ g < r1
  num : AlNum o
  mem : VX p b M w
  low : Onl p b [] W w
  gq : g < q
  old : W.heap.size ≤ g
  got : o.o.got = true → o.o.ln = 0
  res : Bq g 85 [.int .i64 0, .int .u32 0, .bool false] w
theorem alX_got {o : AX} {M : MV} (ok : AlNum o) (hM : ∀ x, U64 (M.V x)) (_ : o.o.got = true → o.o.ln = 0) : (alX o M).1.o.got = true → (alX o M).1.o.ln = 0 := by
  intro hg
  by_cases hn : o.o.ln = 0
  · have e : alX o M = (o, M) := by unfold alX; rw [if_neg (by omega), if_neg (by omega), if_neg (by omega), if_neg (by omega), if_neg (by omega), if_neg (by omega), if_neg (by omega)]
    rw [e]; exact hn
  · exact Classical.byContradiction fun hc => by rw [(ok.step hM).got hc] at hg; cases hg
theorem Sole.step (h : Sole W p b g q o M w) (h1 : 1 < W.heap.size) (hs : M.s.st < 1000000) :
    Calls Tryz.prog 52 #[.pointer (some ⟨q, 0, none⟩), .pointer (some ⟨p, 0, none⟩)] w fun e w' => e = .returned (.bool ((alX o M).1.o.ln == 0)) ∧ Sole W p b g q (alX o M).1 (alX o M).2 w' := by
  obtain ⟨⟨r, r1, hr, g1, g2⟩, hn, F, low, gq, old, got, res⟩ := h
  refine (alloc_stepX (by omega) (by omega) (by omega) F hs hn hr).mono ?_
  rintro e w' ⟨rfl, r', r1', k1, k2, k3, k4, k5⟩
  have hg := F.ne (by decide) res
  have hgs := res.lt
  refine ⟨rfl, ⟨r', r1', k1, by omega, by omega⟩, hn.step F.u64, k2, low.past k3 (fun x hx => ?_), gq, old, alX_got hn F.u64 got, res.onl k3 hg.1 hg.2 (fun hx => ?_)⟩
  · simp only [List.mem_cons, List.not_mem_nil, or_false] at hx
    omega
  · simp only [List.mem_cons, List.not_mem_nil, or_false] at hx
    omega
theorem Sole.begin {W w1 w2 : World} (F : VX p b M W) (hW : W.heap.size ≤ g) (hgw : g < w1.heap.size) (hb1 : Below W.heap.size W w1) (hg : Bq g 85 [.int .i64 0, .int .u32 0, .bool false] w1) (hr : w1.heap.size ≤ r) (hq : r < q) (k : Bq q 167 [.iface 164 (.pointer (some ⟨r, 0, none⟩)), .int .i64 0, .int .u32 0, .bool false, .bool false] w2) (o2 : OpAt 210 r 1 0 0 w2) (hb2 : Below w1.heap.size w1 w2) :
    Sole W p b g q ⟨newAl, 0⟩ M w2 :=
  ⟨⟨r, r, .inr (.inl ⟨_, _, _, _, _, .l1 rfl, fun hh => absurd rfl hh, fun hh => absurd (show (1 : Int) = 7 from hh) (by decide), k, o2⟩), by omega, by omega⟩, AlNum.new, F.below (hb1.trans (hb2.mono hb1.size)), .of_below (hb1.trans (hb2.mono hb1.size)), by omega, hW, fun h => (by cases h), hg.below hb2⟩
theorem Bq.s3 {t : TypeId} {c0 c1 c2 : Value} (k : Bq q t [c0, c1, c2] w) : w.cell? ⟨q, 0, none⟩ = some c0 ∧ w.cell? ⟨q, 1, none⟩ = some c1 ∧ w.cell? ⟨q, 2, none⟩ = some c2 ∧ w.frozen? ⟨q, 0, none⟩ = false ∧ w.frozen? ⟨q, 1, none⟩ = false ∧ w.frozen? ⟨q, 2, none⟩ = false := ⟨k.cell 0, k.cell 1, k.cell 2, k.free 0, k.free 1, k.free 2⟩
def fill3 (e : Nat) (d0 d1 d2 : Value) (W : World) : World := ((W.setCell ⟨e, 0, none⟩ d0).setCell ⟨e, 1, none⟩ d1).setCell ⟨e, 2, none⟩ d2
theorem Bq.fill3 {t : TypeId} {c0 c1 c2 d0 d1 d2 : Value} {e : Nat} (k : Bq e t [c0, c1, c2] w) : Bq e t [d0, d1, d2] (fill3 e d0 d1 d2 w) :=
  ((k.set 0 d0 (cs' := [d0, c1, c2]) rfl).set 1 d1 (cs' := [d0, d1, c2]) rfl).set 2 d2 rfl
theorem onl_fill3 {d0 d1 d2 : Value} (h : Onl p b [] W w) (hg : W.heap.size ≤ g) : Onl p b [] W (fill3 g d0 d1 d2 w) := by
  refine h.past (E := [g]) (((Onl.setCell w (by simp) 0 d0).trans (.setCell _ (by simp) 1 d1)).trans (.setCell _ (by simp) 2 d2)) (fun x hx => ?_)
  simp only [List.mem_cons, List.not_mem_nil, or_false] at hx
  omega
theorem vx_fill3 {d0 d1 d2 : Value} (F : VX p b M w) (h1 : g ≠ p) (h2 : g ≠ b) (h3 : 1 < g) : VX p b M (fill3 g d0 d1 d2 w) := ((F.setQ h1 h2 h3 0 d0).setQ h1 h2 h3 1 d1).setQ h1 h2 h3 2 d2
theorem ref_parts (o : AX) : ∃ s u : Int, refV o = .agg #[.int .i64 s, .int .u32 u, .bool false] := by
  unfold refV
  split
  · exact ⟨_, _, rfl⟩
  · exact ⟨_, _, rfl⟩
theorem results_two {P : Program} {fn : Func} {p0 q0 : Tmp} {ty : TypeId} (h : fn.results = #[.cell p0 ty, .tmp q0]) (tmps : Array Value) (w : World) (g : Nat) (t : TypeId) (cs : Array Value) (fr : Nat × Nat) (d : TypeDesc)
    (hp : tmps.getD p0 undef = .pointer (some ⟨g, 0, none⟩)) (hg : w.heap[g]? = some (.cells cs t fr))
    (hu : P.underlying ty = some d) (hd : (match d with | .struct _ | .array _ _ => true | _ => false) = true) (hi : (P.info? ty).map (·.size) = some cs.size) :
    (results fn tmps).run P w = .ok (.tuple #[.agg cs, tmps.getD q0 undef]) w := by
  have hp' : tmps[p0]?.getD undef = .pointer (some ⟨g, 0, none⟩) := by simpa using hp
  simp [results, h, hp', asAddr, run_loadVar_row w g t ty cs fr d hg hu hd hi]
end
end Go.Proofs.YtmjcbjcnmgleaaaGreatDoor
namespace Go.Proofs.YtmjcbjcnmgleaaaGreatDoor
open Go.RowKit
section
variable {P : Program} (w : World)
theorem step_append_at {ops : Array Oper} {o : Oper} {a : Act} {K : Act → World → Prop} {Q : Exit → Act → World → Prop} {E : Prop} (hgd : o.guard = none) (s x : Operand) (t : TypeId)
    (ho : o.op = .call { callee := .builtin .append, args := #[s, x], argTypes := #[t, t] })
    (base : Nat) (e : TypeId) (i : TypeInfo) (z : Value) (size bytes : Nat) (ht : P.underlying t = some (.slice e)) (hi : P.info? e = some i) (hz : i.zero = some z)
    (hsize : i.size = size) (hby : i.bytes = bytes) (hzs : z.cells.size = size) (hsz : 0 < size)
    (v : Value) (n : Nat) (xs : List Value) (hs : a.eval s = v) (hown : w.ownsRow base e size v n xs)
    (ad : Addr) (m c : Nat) (news : List Value) (hx : a.eval x = .slice (some ad) m c) (hl : news.length = m * size) (hnews : ∀ j u, news[j]? = some u → w.cell? (ad.add j) = some u) (h1 : ∀ u ∈ news, u.oneCell' = true)
    (h63 : n + m ≤ maxLen) (hbytes : (n + m) * bytes ≤ 140737488355328) (hbase : base ≤ w.heap.size)
    (h : ∀ v' w', w'.ownsRow base e size v' (n + m) (xs ++ news) → w.grownBy w' v.ownBlock → (v'.ownBlock = v.ownBlock ∨ v'.ownBlock = some w.heap.size) → K (a.put o.dst v') w') :
    if Region.wanted o (yielded ops a.tmps) = true then Oper.wp P o a w K Q else E := by
  have hw : Region.wanted o (yielded ops a.tmps) = true := by simp [Region.wanted, hgd]
  rw [if_pos hw]
  obtain ⟨v', w', hr, h2, h3, _, h5⟩ := run_append_own_at (P := P) w base t o.type e i z size bytes ht hi hz hsize hby hzs hsz v n xs hown ad m c news hl hnews h1 h63 hbytes hbase
  unfold Oper.wp execOp
  simp only [ho, resolve, invoke, builtin, Sem.run_bind, Sem.run_pure, Result.andThen_ok, List.map_toArray, List.map_cons, List.map_nil, hs, hx, hr]
  exact h v' w' h2 h3 h5
theorem run_append_none (base : Nat) (t ty e : TypeId) (i : TypeInfo) (size : Nat) (ht : P.underlying t = some (.slice e)) (hi : P.info? e = some i) (v : Value) (n : Nat) (xs : List Value) (hown : w.ownsRow base e size v n xs) :
    (Builtin.append_ #[t, t] ty #[v, .slice none 0 0]).run P w = .ok v w := by
  rcases hown.2 with ⟨rfl, rfl⟩ | ⟨g, cap, cur, rfl, hbg, hg, hnc, hcm, hcs, htake⟩
  · simp [Builtin.append_, run_underlying ht, sizeOf, typeInfo, hi, Builtin.lenOf, Builtin.firstCells]
  · simp [Builtin.append_, run_underlying ht, sizeOf, typeInfo, hi, Builtin.lenOf, Builtin.firstCells, loadCells, hnc, storeCells]
theorem step_append_none {ops : Array Oper} {o : Oper} {a : Act} {K : Act → World → Prop} {Q : Exit → Act → World → Prop} {E : Prop} (hgd : o.guard = none) (s x : Operand) (t : TypeId)
    (ho : o.op = .call { callee := .builtin .append, args := #[s, x], argTypes := #[t, t] })
    (base : Nat) (e : TypeId) (i : TypeInfo) (size : Nat) (ht : P.underlying t = some (.slice e)) (hi : P.info? e = some i) (v : Value) (n : Nat) (xs : List Value) (hs : a.eval s = v) (hown : w.ownsRow base e size v n xs)
    (hx : a.eval x = .slice none 0 0) (h : K (a.put o.dst v) w) :
    if Region.wanted o (yielded ops a.tmps) = true then Oper.wp P o a w K Q else E := by
  have hw : Region.wanted o (yielded ops a.tmps) = true := by simp [Region.wanted, hgd]
  rw [if_pos hw]
  unfold Oper.wp execOp
  simp only [ho, resolve, invoke, builtin, Sem.run_bind, Sem.run_pure, Result.andThen_ok, List.map_toArray, List.map_cons, List.map_nil, hs, hx, run_append_none (P := P) w base t o.type e i size ht hi v n xs hown]
  exact h
end
end Go.Proofs.YtmjcbjcnmgleaaaGreatDoor
