/-
  The program's inBounds and code of layer 3: what each gives back; no condition.
-/
import Derived.Test.YtlgfdemggkiojaaDoorF1
import Derived.StillTailTactics
namespace Go.Proofs.YtlgfdemggkiojaaDoor
open Go.RowKit

set_option maxHeartbeats 1000000 in
theorem inB_any (k fr to a t s o ky v : Int) (w : World) :
    Calls Tryd.prog 29 #[.agg #[.int .u8 k, .int .i64 fr, .int .i64 to, .int .i64 a, .int .i64 t, .int .u8 s, .int .u8 o, .int .u64 ky, .int .u64 v]] w fun e w' => e = .returned (.bool (inB ⟨k, fr, to, a, t, s, o, ky, v⟩)) ∧ Below w.heap.size w w' := by
  go_enter Tryd.func29, Tryd.ntmps29
  go_wp2_with (go_at_call 24; refine (below_any _ _ _).mono ?_; rintro e w' ⟨rfl, rfl⟩)
  all_goals
    go_ret
    refine ⟨ret_bool ?_, (Below.refl _ _).alloc (Nat.le_refl _) _⟩
    simp only [beq_iff_eq, beq_eq_false_iff_ne, ne_eq, belowB, decide_eq_true_eq] at *
    unfold inB
    first | (simp [*]; done) | (rw [Bool.eq_iff_iff]; simp [*])
/-- Where code's parameter and its result lie. -/
def codeW (w : World) (k fr to a t s o ky v : Int) : World := ((w.alloc (.cells #[.int .u8 k, .int .i64 fr, .int .i64 to, .int .i64 a, .int .i64 t, .int .u8 s, .int .u8 o, .int .u64 ky, .int .u64 v] 34)).alloc (.cells #[.int .u8 0, .int .u8 0, .int .u8 0, .int .u8 0, .int .u8 0] 61)).drew
theorem below_two (w : World) (x y : Obj) : Below w.heap.size w ((w.alloc x).alloc y) := ((Below.refl _ _).alloc (Nat.le_refl _) _).alloc (by simp) _
set_option maxHeartbeats 1000000 in
theorem code1 (fr to a t s o ky v : Int) (w : World) :
    Calls Tryd.prog 28 #[.agg #[.int .u8 1, .int .i64 fr, .int .i64 to, .int .i64 a, .int .i64 t, .int .u8 s, .int .u8 o, .int .u64 ky, .int .u64 v]] w fun e w' => e = .returned (.agg #[.int .u8 (a % 256), .int .u8 0, .int .u8 0, .int .u8 0, .int .u8 0]) ∧ Below w.heap.size w w' := by
  go_enter Tryd.func28, Tryd.ntmps28
  go_wp2_with fail
  exact bodyPost_ret (v := .agg #[.int .u8 (a % 256), .int .u8 0, .int .u8 0, .int .u8 0, .int .u8 0]) (by simp [results, Tryd.results28, go_sem]) rfl ⟨rfl, below_two _ _ _⟩
set_option maxHeartbeats 1000000 in
theorem code2 (fr to a t s o ky v : Int) (w : World) :
    Calls Tryd.prog 28 #[.agg #[.int .u8 2, .int .i64 fr, .int .i64 to, .int .i64 a, .int .i64 t, .int .u8 s, .int .u8 o, .int .u64 ky, .int .u64 v]] w fun e w' => e = .returned (.agg #[.int .u8 128, .int .u8 0, .int .u8 0, .int .u8 0, .int .u8 0]) ∧ Below w.heap.size w w' := by
  go_enter Tryd.func28, Tryd.ntmps28
  go_wp2_with (go_at_call 35; refine (first_any 2 _ (by omega) (by omega)).mono ?_; rintro e w' ⟨rfl, rfl⟩)
  exact bodyPost_ret (v := .agg #[.int .u8 128, .int .u8 0, .int .u8 0, .int .u8 0, .int .u8 0]) (by simp [results, Tryd.results28, go_sem]) rfl ⟨rfl, below_two _ _ _⟩
set_option maxHeartbeats 1000000 in
theorem code7 (fr to a t s o ky v : Int) (w : World) :
    Calls Tryd.prog 28 #[.agg #[.int .u8 7, .int .i64 fr, .int .i64 to, .int .i64 a, .int .i64 t, .int .u8 s, .int .u8 o, .int .u64 ky, .int .u64 v]] w fun e w' => e = .returned (.agg #[.int .u8 133, .int .u8 0, .int .u8 0, .int .u8 0, .int .u8 0]) ∧ Below w.heap.size w w' := by
  go_enter Tryd.func28, Tryd.ntmps28
  go_wp2_with (go_at_call 35; refine (first_any 7 _ (by omega) (by omega)).mono ?_; rintro e w' ⟨rfl, rfl⟩)
  exact bodyPost_ret (v := .agg #[.int .u8 133, .int .u8 0, .int .u8 0, .int .u8 0, .int .u8 0]) (by simp [results, Tryd.results28, go_sem]) rfl ⟨rfl, below_two _ _ _⟩
set_option maxHeartbeats 1000000 in
theorem code8 (fr to a t s o ky v : Int) (w : World) :
    Calls Tryd.prog 28 #[.agg #[.int .u8 8, .int .i64 fr, .int .i64 to, .int .i64 a, .int .i64 t, .int .u8 s, .int .u8 o, .int .u64 ky, .int .u64 v]] w fun e w' => e = .returned (.agg #[.int .u8 134, .int .u8 0, .int .u8 0, .int .u8 0, .int .u8 0]) ∧ Below w.heap.size w w' := by
  go_enter Tryd.func28, Tryd.ntmps28
  go_wp2_with (go_at_call 35; refine (first_any 8 _ (by omega) (by omega)).mono ?_; rintro e w' ⟨rfl, rfl⟩)
  exact bodyPost_ret (v := .agg #[.int .u8 134, .int .u8 0, .int .u8 0, .int .u8 0, .int .u8 0]) (by simp [results, Tryd.results28, go_sem]) rfl ⟨rfl, below_two _ _ _⟩
set_option maxHeartbeats 1000000 in
theorem code3 (fr to a t s o ky v : Int) (w : World) :
    Calls Tryd.prog 28 #[.agg #[.int .u8 3, .int .i64 fr, .int .i64 to, .int .i64 a, .int .i64 t, .int .u8 s, .int .u8 o, .int .u64 ky, .int .u64 v]] w fun e w' => e = .returned (.agg #[.int .u8 129, .int .u8 (t % 256), .int .u8 0, .int .u8 0, .int .u8 0]) ∧ Below w.heap.size w w' := by
  go_enter Tryd.func28, Tryd.ntmps28
  go_wp2_with fail
  refine wp_region_still_tail 7 (by kernel_rfl) (by kernel_rfl) ?_
  change wpStill _ _ (codeW w 3 fr to a t s o ky v) (fun a' => wpList _ _ _ _ a' (codeW w 3 fr to a t s o ky v)) _ _
  have c0 : (codeW w 3 fr to a t s o ky v).cell? ⟨w.heap.size, 0, none⟩ = some (.int .u8 3) := by simp [codeW, go_sem]
  have c4 : (codeW w 3 fr to a t s o ky v).cell? ⟨w.heap.size, 4, none⟩ = some (.int .i64 t) := by simp [codeW, go_sem]
  simp only [List.take_succ_cons, List.take_zero, List.drop_succ_cons, List.drop_zero]
  iterate 2 still_step
  still_call ((first_any 3 _ (by omega) (by omega)).mono fun _ _ h => ⟨h.1, h.2.symm⟩)
  iterate 4 still_step
  refine wpStill_nil ?_
  unfold codeW
  go_wp2_with fail
  exact bodyPost_ret (v := .agg #[.int .u8 129, .int .u8 (t % 256), .int .u8 0, .int .u8 0, .int .u8 0]) (by simp [results, Tryd.results28, go_sem]) rfl ⟨rfl, (below_two _ _ _).drew⟩
set_option maxHeartbeats 1000000 in
theorem code4 (fr to a t s o ky v : Int) (w : World) :
    Calls Tryd.prog 28 #[.agg #[.int .u8 4, .int .i64 fr, .int .i64 to, .int .i64 a, .int .i64 t, .int .u8 s, .int .u8 o, .int .u64 ky, .int .u64 v]] w fun e w' => e = .returned (.agg #[.int .u8 130, .int .u8 s, .int .u8 0, .int .u8 0, .int .u8 0]) ∧ Below w.heap.size w w' := by
  go_enter Tryd.func28, Tryd.ntmps28
  go_wp2_with fail
  refine wp_region_still_tail 6 (by kernel_rfl) (by kernel_rfl) ?_
  change wpStill _ _ (codeW w 4 fr to a t s o ky v) (fun a' => wpList _ _ _ _ a' (codeW w 4 fr to a t s o ky v)) _ _
  have c0 : (codeW w 4 fr to a t s o ky v).cell? ⟨w.heap.size, 0, none⟩ = some (.int .u8 4) := by simp [codeW, go_sem]
  have c5 : (codeW w 4 fr to a t s o ky v).cell? ⟨w.heap.size, 5, none⟩ = some (.int .u8 s) := by simp [codeW, go_sem]
  simp only [List.take_succ_cons, List.take_zero, List.drop_succ_cons, List.drop_zero]
  iterate 2 still_step
  still_call ((first_any 4 _ (by omega) (by omega)).mono fun _ _ h => ⟨h.1, h.2.symm⟩)
  iterate 3 still_step
  refine wpStill_nil ?_
  unfold codeW
  go_wp2_with fail
  exact bodyPost_ret (v := .agg #[.int .u8 130, .int .u8 s, .int .u8 0, .int .u8 0, .int .u8 0]) (by simp [results, Tryd.results28, go_sem]) rfl ⟨rfl, (below_two _ _ _).drew⟩
set_option maxHeartbeats 1000000 in
theorem code5 (fr to a t s o ky v : Int) (w : World) :
    Calls Tryd.prog 28 #[.agg #[.int .u8 5, .int .i64 fr, .int .i64 to, .int .i64 a, .int .i64 t, .int .u8 s, .int .u8 o, .int .u64 ky, .int .u64 v]] w fun e w' => e = .returned (.agg #[.int .u8 131, .int .u8 (a % 256), .int .u8 0, .int .u8 0, .int .u8 0]) ∧ Below w.heap.size w w' := by
  go_enter Tryd.func28, Tryd.ntmps28
  go_wp2_with fail
  refine wp_region_still_tail 7 (by kernel_rfl) (by kernel_rfl) ?_
  change wpStill _ _ (codeW w 5 fr to a t s o ky v) (fun a' => wpList _ _ _ _ a' (codeW w 5 fr to a t s o ky v)) _ _
  have c0 : (codeW w 5 fr to a t s o ky v).cell? ⟨w.heap.size, 0, none⟩ = some (.int .u8 5) := by simp [codeW, go_sem]
  have c3 : (codeW w 5 fr to a t s o ky v).cell? ⟨w.heap.size, 3, none⟩ = some (.int .i64 a) := by simp [codeW, go_sem]
  simp only [List.take_succ_cons, List.take_zero, List.drop_succ_cons, List.drop_zero]
  iterate 2 still_step
  still_call ((first_any 5 _ (by omega) (by omega)).mono fun _ _ h => ⟨h.1, h.2.symm⟩)
  iterate 4 still_step
  refine wpStill_nil ?_
  unfold codeW
  go_wp2_with fail
  exact bodyPost_ret (v := .agg #[.int .u8 131, .int .u8 (a % 256), .int .u8 0, .int .u8 0, .int .u8 0]) (by simp [results, Tryd.results28, go_sem]) rfl ⟨rfl, (below_two _ _ _).drew⟩
set_option maxHeartbeats 1000000 in
theorem code6 (fr to a t s o ky v : Int) (w : World) :
    Calls Tryd.prog 28 #[.agg #[.int .u8 6, .int .i64 fr, .int .i64 to, .int .i64 a, .int .i64 t, .int .u8 s, .int .u8 o, .int .u64 ky, .int .u64 v]] w fun e w' => e = .returned (.agg #[.int .u8 132, .int .u8 (a % 256), .int .u8 0, .int .u8 0, .int .u8 0]) ∧ Below w.heap.size w w' := by
  go_enter Tryd.func28, Tryd.ntmps28
  go_wp2_with fail
  refine wp_region_still_tail 7 (by kernel_rfl) (by kernel_rfl) ?_
  change wpStill _ _ (codeW w 6 fr to a t s o ky v) (fun a' => wpList _ _ _ _ a' (codeW w 6 fr to a t s o ky v)) _ _
  have c0 : (codeW w 6 fr to a t s o ky v).cell? ⟨w.heap.size, 0, none⟩ = some (.int .u8 6) := by simp [codeW, go_sem]
  have c3 : (codeW w 6 fr to a t s o ky v).cell? ⟨w.heap.size, 3, none⟩ = some (.int .i64 a) := by simp [codeW, go_sem]
  simp only [List.take_succ_cons, List.take_zero, List.drop_succ_cons, List.drop_zero]
  iterate 2 still_step
  still_call ((first_any 6 _ (by omega) (by omega)).mono fun _ _ h => ⟨h.1, h.2.symm⟩)
  iterate 4 still_step
  refine wpStill_nil ?_
  unfold codeW
  go_wp2_with fail
  exact bodyPost_ret (v := .agg #[.int .u8 132, .int .u8 (a % 256), .int .u8 0, .int .u8 0, .int .u8 0]) (by simp [results, Tryd.results28, go_sem]) rfl ⟨rfl, (below_two _ _ _).drew⟩
set_option maxHeartbeats 1000000 in
theorem code9 (fr to a t s o ky v : Int) (w : World) :
    Calls Tryd.prog 28 #[.agg #[.int .u8 9, .int .i64 fr, .int .i64 to, .int .i64 a, .int .i64 t, .int .u8 s, .int .u8 o, .int .u64 ky, .int .u64 v]] w fun e w' => e = .returned (.agg #[.int .u8 135, .int .u8 (t % 256), .int .u8 o, .int .u8 (ky % 256), .int .u8 (v % 256)]) ∧ Below w.heap.size w w' := by
  go_enter Tryd.func28, Tryd.ntmps28
  go_wp2_with fail
  refine wp_region_still_tail 15 (by kernel_rfl) (by kernel_rfl) ?_
  change wpStill _ _ (codeW w 9 fr to a t s o ky v) (fun a' => wpList _ _ _ _ a' (codeW w 9 fr to a t s o ky v)) _ _
  have c0 : (codeW w 9 fr to a t s o ky v).cell? ⟨w.heap.size, 0, none⟩ = some (.int .u8 9) := by simp [codeW, go_sem]
  have c4 : (codeW w 9 fr to a t s o ky v).cell? ⟨w.heap.size, 4, none⟩ = some (.int .i64 t) := by simp [codeW, go_sem]
  have c6 : (codeW w 9 fr to a t s o ky v).cell? ⟨w.heap.size, 6, none⟩ = some (.int .u8 o) := by simp [codeW, go_sem]
  have c7 : (codeW w 9 fr to a t s o ky v).cell? ⟨w.heap.size, 7, none⟩ = some (.int .u64 ky) := by simp [codeW, go_sem]
  have c8 : (codeW w 9 fr to a t s o ky v).cell? ⟨w.heap.size, 8, none⟩ = some (.int .u64 v) := by simp [codeW, go_sem]
  simp only [List.take_succ_cons, List.take_zero, List.drop_succ_cons, List.drop_zero]
  iterate 2 still_step
  still_call ((first_any 9 _ (by omega) (by omega)).mono fun _ _ h => ⟨h.1, h.2.symm⟩)
  iterate 12 still_step
  refine wpStill_nil ?_
  unfold codeW
  go_wp2_with fail
  exact bodyPost_ret (v := .agg #[.int .u8 135, .int .u8 (t % 256), .int .u8 o, .int .u8 (ky % 256), .int .u8 (v % 256)]) (by simp [results, Tryd.results28, go_sem]) rfl ⟨rfl, (below_two _ _ _).drew⟩
end Go.Proofs.YtlgfdemggkiojaaDoor
