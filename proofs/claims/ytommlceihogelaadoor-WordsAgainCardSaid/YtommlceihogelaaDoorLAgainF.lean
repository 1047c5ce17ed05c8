/-
  The law WordsAgain walked at a word without a mark: it answers true, and changes nothing that was there; condition: the table of fields reads as the program lays it, and the argument is a word of 64 bits.
-/
import Derived.Test.YtommlceihogelaaDoorLAgainD
namespace Go.Proofs.YtommlceihogelaaDoor
open Go.RowKit

set_option maxRecDepth 100000 in
set_option maxHeartbeats 8000000 in
theorem again_f (x : Int) (w : World) (hL : Lay w) (hx : U64 x) (hd : (markW x == x) = false) (hu : (unmarkW x == x) = true) : Calls Tryd.prog 7 #[.int .u64 x] w fun e w' => e = .returned (.bool true) ∧ Below w.heap.size w w' := by
  have H := Lib.hid hL
  have HX := Lib.hid hx
  clear hL hx
  go_enter Tryd.func7, Tryd.ntmps7
  go_wp2_with fail
  refine (asRef_any x _ H.out HX.out).mono ?_
  rintro e a1 ⟨rfl, hba⟩
  go_wp2_with fail
  have hA := below_new a1 (.cells #[.int .i64 (wSlot x), .int .u32 (wGen x), .bool (wMark x)] 24)
  have hsA := size_new a1 (.cells #[.int .i64 (wSlot x), .int .u32 (wGen x), .bool (wMark x)] 24)
  have KA := box3_new a1 (wSlot x) (wGen x) (wMark x)
  have BA := Lib.hid (Below.next hba hA)
  have HA := Lib.hid (H.out.below BA.out)
  have LA := Lib.hid (Nat.le_trans hba.size (Nat.le_of_lt hsA))
  clear hA hba
  revert hsA KA BA HA LA
  generalize a1.alloc (.cells #[.int .i64 (wSlot x), .int .u32 (wGen x), .bool (wMark x)] 24) = v1
  intro hsA KA BA HA LA
  refine (quiet_b (asHead_any x _ HA.out HX.out)).mono ?_
  rintro e w1 ⟨rfl, hb1⟩
  have K_1 := Box3.step hsA KA hb1
  have H_1 := Lib.hid (K_1.lay HA.out)
  clear hb1
  go_wp2_with fail
  refine (quiet_b (asHeader_any x _ H_1.out HX.out)).mono ?_
  rintro e w2 ⟨rfl, hb2⟩
  have K_2 := Box3.step hsA K_1 hb2
  have H_2 := Lib.hid (K_2.lay HA.out)
  clear hb2
  go_wp2_with fail
  refine (quiet_b (asBlock_any x _ H_2.out HX.out)).mono ?_
  rintro e w3 ⟨rfl, hb3⟩
  have K_3 := Box3.step hsA K_2 hb3
  have H_3 := Lib.hid (K_3.lay HA.out)
  clear hb3
  go_wp2_with fail
  refine (asPhase_any x _ H_3.out HX.out).mono ?_
  rintro e a2 ⟨rfl, hba⟩
  go_wp2_with fail
  have K_4 := Box3.step hsA (Box3.step hsA K_3 hba) (below_new a2 (.cells #[.int .u8 (phS (fld x 0 3)), .int .u8 (fld x 3 3), .int .u8 (fld x 6 3), .int .u64 (fld x 16 48)] 48))
  have hsC := size_new a2 (.cells #[.int .u8 (phS (fld x 0 3)), .int .u8 (fld x 3 3), .int .u8 (fld x 6 3), .int .u64 (fld x 16 48)] 48)
  have hsD : a1.heap.size < (a2.alloc (.cells #[.int .u8 (phS (fld x 0 3)), .int .u8 (fld x 3 3), .int .u8 (fld x 6 3), .int .u64 (fld x 16 48)] 48)).heap.size := Nat.lt_of_lt_of_le hsA K_4.2.out.size
  have LC := box4_new a2 (phS (fld x 0 3)) (fld x 3 3) (fld x 6 3) (fld x 16 48)
  have HC := Lib.hid (K_4.lay HA.out)
  have BC := Lib.hid (K_4.done BA.out LA.out)
  have LL := Lib.hid (Nat.le_trans LA.out K_4.2.out.size)
  clear hba
  revert K_4 hsC hsD LC HC BC LL
  generalize a2.alloc (.cells #[.int .u8 (phS (fld x 0 3)), .int .u8 (fld x 3 3), .int .u8 (fld x 6 3), .int .u64 (fld x 16 48)] 48) = v2
  intro K_4 hsC hsD LC HC BC LL
  refine (quiet_b (head_any (wSlot x) (fld x 16 48) _ HC.out (fld_u64 x 16 48 (by decide)))).mono ?_
  rintro e w5 ⟨rfl, hb5⟩
  have K_5 := Box3.step hsA K_4 hb5
  have L_5 := Box4.step hsC LC hb5
  have H_5 := Lib.hid (L_5.lay HC.out)
  clear hb5
  go_wp2_with fail
  refine (asHead_of (wSlot x) (fld x 16 48) _ H_5.out (wSlot_in x).1 (wSlot_in x).2 (small_fld x 16 48 _ q48).1 (small_fld x 16 48 _ q48).2).mono ?_
  rintro e w6 ⟨rfl, hb6⟩
  have K_6 := Box3.step hsA K_5 hb6
  have L_6 := Box4.step hsC L_5 hb6
  have H_6 := Lib.hid (L_6.lay HC.out)
  clear hb6
  go_wp2_with fail
  refine (quiet_b (header_any (stS (fld x 0 3)) (fld x 3 32) _ H_6.out (stS_fld x).1 (fldU x 3 32 (by decide)))).mono ?_
  rintro e w7 ⟨rfl, hb7⟩
  have K_7 := Box3.step hsA K_6 hb7
  have L_7 := Box4.step hsC L_6 hb7
  have H_7 := Lib.hid (L_7.lay HC.out)
  clear hb7
  go_wp2_with fail
  refine (asHeader_of (stS (fld x 0 3)) (fld x 3 32) _ H_7.out (stS_fld x).1 (stS_fld x).2 (u32_fld x 3)).mono ?_
  rintro e w8 ⟨rfl, hb8⟩
  have K_8 := Box3.step hsA K_7 hb8
  have L_8 := Box4.step hsC L_7 hb8
  have H_8 := Lib.hid (L_8.lay HC.out)
  clear hb8
  go_wp2_with fail
  refine (quiet_b (block_any (fld x 0 32) (fld x 32 1 != 0) _ H_8.out (fldU x 0 32 (by decide)))).mono ?_
  rintro e w9 ⟨rfl, hb9⟩
  have K_9 := Box3.step hsA K_8 hb9
  have L_9 := Box4.step hsC L_8 hb9
  have H_9 := Lib.hid (L_9.lay HC.out)
  clear hb9
  go_wp2_with fail
  refine (asBlock_of (fld x 0 32) (fld x 32 1 != 0) _ H_9.out (u32_fld x 0)).mono ?_
  rintro e w10 ⟨rfl, hb10⟩
  have K_10 := Box3.step hsA K_9 hb10
  have L_10 := Box4.step hsC L_9 hb10
  have H_10 := Lib.hid (L_10.lay HC.out)
  clear hb10
  go_wp2_with fail
  have M := Box34.join K_10 L_10
  go_region_held3 (fun w1 => (w1.cell? ⟨a1.heap.size, 0, none⟩ = some (.int .i64 (wSlot x)) ∧ w1.cell? ⟨a1.heap.size, 1, none⟩ = some (.int .u32 (wGen x)) ∧ w1.cell? ⟨a1.heap.size, 2, none⟩ = some (.bool (wMark x)) ∧ w1.cell? ⟨a2.heap.size, 0, none⟩ = some (.int .u8 (phS (fld x 0 3))) ∧ w1.cell? ⟨a2.heap.size, 1, none⟩ = some (.int .u8 (fld x 3 3)) ∧ w1.cell? ⟨a2.heap.size, 2, none⟩ = some (.int .u8 (fld x 6 3)) ∧ w1.cell? ⟨a2.heap.size, 3, none⟩ = some (.int .u64 (fld x 16 48))) ∧ Hid (Below v2.heap.size v2 w1))
    (first | exact Box34.drew M | (refine Box34.step hsD hsC ?_ hb; assumption))
    (first
      | (go_at_call 11; refine (ref_any (wSlot x) (wGen x) (wMark x) _ ?_ (u64_small (wGen_u32 x).1 (wGen_u32 x).2)).mono ?_; (refine Box34.lay (w0 := v2) (q := a1.heap.size) (r := a2.heap.size) (s := wSlot x) (g := wGen x) (b := wMark x) (p := phS (fld x 0 3)) (o := fld x 3 3) (m := fld x 6 3) (k := fld x 16 48) ?_ HC.out; assumption); rintro e w' ⟨rfl, hb⟩)
      | (go_at_call 13; refine (asRef_of (wSlot x) (wGen x) (wMark x) _ ?_ (wSlot_in x).1 (wSlot_in x).2 (wGen_u32 x) wGen_none).mono ?_; (refine Box34.lay (w0 := v2) (q := a1.heap.size) (r := a2.heap.size) (s := wSlot x) (g := wGen x) (b := wMark x) (p := phS (fld x 0 3)) (o := fld x 3 3) (m := fld x 6 3) (k := fld x 16 48) ?_ HC.out; assumption); rintro e w' ⟨rfl, hb⟩)
      | (go_at_call 31; refine (phaseW_any (phS (fld x 0 3)) (fld x 3 3) (fld x 6 3) (fld x 16 48) _ ?_ (phS_u64 _ (phS_fld x).1 (phS_fld x).2) (fldU x 3 3 (by decide)) (fldU x 6 3 (by decide)) (fld_u64 x 16 48 (by decide))).mono ?_; (refine Box34.lay (w0 := v2) (q := a1.heap.size) (r := a2.heap.size) (s := wSlot x) (g := wGen x) (b := wMark x) (p := phS (fld x 0 3)) (o := fld x 3 3) (m := fld x 6 3) (k := fld x 16 48) ?_ HC.out; assumption); rintro e w' ⟨rfl, hb⟩)
      | (go_at_call 33; refine (asPhase_of (phS (fld x 0 3)) (fld x 3 3) (fld x 6 3) (fld x 16 48) _ ?_ (phS_fld x).1 (phS_fld x).2 (small_fld x 3 3 _ q3).1 (small_fld x 3 3 _ q3).2 (small_fld x 6 3 _ q3).1 (small_fld x 6 3 _ q3).2 (small_fld x 16 48 _ q48).1 (small_fld x 16 48 _ q48).2).mono ?_; (refine Box34.lay (w0 := v2) (q := a1.heap.size) (r := a2.heap.size) (s := wSlot x) (g := wGen x) (b := wMark x) (p := phS (fld x 0 3)) (o := fld x 3 3) (m := fld x 6 3) (k := fld x 16 48) ?_ HC.out; assumption); rintro e w' ⟨rfl, hb⟩))
  have M2 : Box34 v2 a1.heap.size a2.heap.size (wSlot x) (wGen x) (wMark x) (phS (fld x 0 3)) (fld x 3 3) (fld x 6 3) (fld x 16 48) w' := by assumption
  have K := M2.ref
  have HK := Lib.hid (M2.lay HC.out)
  clear M M2 hb KA LC
  go_wp2_with fail
  refine (quiet_b (mark_any x _ HK.out HX.out)).mono ?_
  rintro e w11 ⟨rfl, hb11⟩
  have K_11 := Box3.step hsD K hb11
  have H_11 := Lib.hid (K_11.lay HC.out)
  clear hb11
  go_wp2_with fail
  refine (asRef_mark x _ H_11.out HX.out).mono ?_
  rintro e a3 ⟨rfl, hba⟩
  go_wp2_with fail
  have K_12 := Box3.step hsD (Box3.step hsD K_11 hba) (below_new a3 (.cells #[.int .i64 (wSlot x), .int .u32 (wGen x), .bool true] 24))
  have hsE := size_new a3 (.cells #[.int .i64 (wSlot x), .int .u32 (wGen x), .bool true] 24)
  have EE := box3_new a3 (wSlot x) (wGen x) true
  have HE := Lib.hid (K_12.lay HC.out)
  clear hba
  revert K_12 hsE EE HE
  generalize a3.alloc (.cells #[.int .i64 (wSlot x), .int .u32 (wGen x), .bool true] 24) = v3
  intro K_12 hsE EE HE
  refine (quiet_b (unmark_any x _ HE.out HX.out)).mono ?_
  rintro e w13 ⟨rfl, hb13⟩
  have K_13 := Box3.step hsD K_12 hb13
  have E_13 := Box3.step hsE EE hb13
  have H_13 := Lib.hid (K_13.lay HC.out)
  clear hb13
  go_wp2_with fail
  refine (asRef_unmark x _ H_13.out HX.out).mono ?_
  rintro e a4 ⟨rfl, hba⟩
  go_wp2_with fail
  have K_14 := Box3.step hsD (Box3.step hsD K_13 hba) (below_new a4 (.cells #[.int .i64 (wSlot x), .int .u32 (wGen x), .bool false] 24))
  have E_14 := Box3.step hsE (Box3.step hsE E_13 hba) (below_new a4 (.cells #[.int .i64 (wSlot x), .int .u32 (wGen x), .bool false] 24))
  have hsF := size_new a4 (.cells #[.int .i64 (wSlot x), .int .u32 (wGen x), .bool false] 24)
  have hsG : a1.heap.size < (a4.alloc (.cells #[.int .i64 (wSlot x), .int .u32 (wGen x), .bool false] 24)).heap.size := Nat.lt_of_lt_of_le hsD K_14.2.out.size
  have hsH : a3.heap.size < (a4.alloc (.cells #[.int .i64 (wSlot x), .int .u32 (wGen x), .bool false] 24)).heap.size := Nat.lt_of_lt_of_le hsE E_14.2.out.size
  have FF := box3_new a4 (wSlot x) (wGen x) false
  have M := Box333.join K_14 E_14 FF
  have HF := Lib.hid (K_14.lay HC.out)
  have BF := Lib.hid (K_14.done BC.out LL.out)
  have LF := Lib.hid (Nat.le_trans LL.out K_14.2.out.size)
  clear hba K_14 E_14 FF
  revert hsF hsG hsH M HF BF LF
  generalize a4.alloc (.cells #[.int .i64 (wSlot x), .int .u32 (wGen x), .bool false] 24) = v4
  intro hsF hsG hsH M HF BF LF
  simp only [List.append_eq, List.cons_append, List.nil_append]
  go_region_held3 (fun w1 => (w1.cell? ⟨a1.heap.size, 0, none⟩ = some (.int .i64 (wSlot x)) ∧ w1.cell? ⟨a1.heap.size, 1, none⟩ = some (.int .u32 (wGen x)) ∧ w1.cell? ⟨a1.heap.size, 2, none⟩ = some (.bool (wMark x)) ∧ w1.cell? ⟨a3.heap.size, 0, none⟩ = some (.int .i64 (wSlot x)) ∧ w1.cell? ⟨a3.heap.size, 1, none⟩ = some (.int .u32 (wGen x)) ∧ w1.cell? ⟨a3.heap.size, 2, none⟩ = some (.bool true) ∧ w1.cell? ⟨a4.heap.size, 0, none⟩ = some (.int .i64 (wSlot x)) ∧ w1.cell? ⟨a4.heap.size, 1, none⟩ = some (.int .u32 (wGen x)) ∧ w1.cell? ⟨a4.heap.size, 2, none⟩ = some (.bool false)) ∧ Hid (Below v4.heap.size v4 w1))
    (first | exact Box333.drew M | (refine Box333.step hsG hsH hsF ?_ hb; assumption))
    (first
      | (go_at_call 18; refine (quiet_b (marked_any x _ ?_ HX.out)).mono ?_; (refine Box333.lay (w0 := v4) (q := a1.heap.size) (r := a3.heap.size) (z := a4.heap.size) (s := wSlot x) (g := wGen x) (b := wMark x) (b1 := true) (b2 := false) ?_ HF.out; assumption); rintro e w' ⟨rfl, hb⟩)
      | (go_at_call_of 19 (Value.int IntKind.u64 (markW x)); refine (unmark_of_mark x _ ?_).mono ?_; (refine Box333.lay (w0 := v4) (q := a1.heap.size) (r := a3.heap.size) (z := a4.heap.size) (s := wSlot x) (g := wGen x) (b := wMark x) (b1 := true) (b2 := false) ?_ HF.out; assumption); rintro e w' ⟨rfl, hb⟩)
      | (go_at_call 19; refine (quiet_b (unmark_any x _ ?_ HX.out)).mono ?_; (refine Box333.lay (w0 := v4) (q := a1.heap.size) (r := a3.heap.size) (z := a4.heap.size) (s := wSlot x) (g := wGen x) (b := wMark x) (b1 := true) (b2 := false) ?_ HF.out; assumption); rintro e w' ⟨rfl, hb⟩)
      | (go_at_call_of 20 (Value.int IntKind.u64 (unmarkW x)); refine (mark_of_unmark x _ ?_).mono ?_; (refine Box333.lay (w0 := v4) (q := a1.heap.size) (r := a3.heap.size) (z := a4.heap.size) (s := wSlot x) (g := wGen x) (b := wMark x) (b1 := true) (b2 := false) ?_ HF.out; assumption); rintro e w' ⟨rfl, hb⟩)
      | (go_at_call 20; refine (quiet_b (mark_any x _ ?_ HX.out)).mono ?_; (refine Box333.lay (w0 := v4) (q := a1.heap.size) (r := a3.heap.size) (z := a4.heap.size) (s := wSlot x) (g := wGen x) (b := wMark x) (b1 := true) (b2 := false) ?_ HF.out; assumption); rintro e w' ⟨rfl, hb⟩)
      | (go_at_call 22; refine (lives_any _ ?_).mono ?_; (refine Box333.lay (w0 := v4) (q := a1.heap.size) (r := a3.heap.size) (z := a4.heap.size) (s := wSlot x) (g := wGen x) (b := wMark x) (b1 := true) (b2 := false) ?_ HF.out; assumption); rintro e w' ⟨rfl, hb⟩))
  go_wp2
  go_ret
  exact ⟨rfl, Box333.done (w0 := v4) (q := a1.heap.size) (r := a3.heap.size) (z := a4.heap.size) (s := wSlot x) (g := wGen x) (b := wMark x) (b1 := true) (b2 := false) BF.out LF.out (by assumption)⟩

end Go.Proofs.YtommlceihogelaaDoor
