/-
  The program's order of addresses: its call of compare gives back -1, 0 or 1 by kind, place and field, and only makes memory of its own; no condition.
  The program's order of addresses: its call of compare gives back -1, 0 or 1 by kind, place and field, and only makes memory of its own; no condition.
-/
import Derived.Test.YtapcgikamldchaaDoorR1
import Derived.StillTailTactics
import Derived.Shelf.Abstract
import Derived.Shelf.GgSortFunc.InsertionK
import Derived.Outline
namespace Go.Proofs.YtapcgikamldchaaDoor
open Go.RowKit Go.Shelf

def cmpI (x y : Int) : Int := if x < y then -1 else if y < x then 1 else 0
theorem cmpI_lt {x y : Int} (h : x < y) : cmpI x y = -1 := by simp [cmpI, h]
theorem cmpI_gt {x y : Int} (h : y < x) : cmpI x y = 1 := by
  unfold cmpI
  rw [if_neg (by omega), if_pos h]
theorem cmpI_eq (x : Int) : cmpI x x = 0 := by simp [cmpI]
theorem ret_num {a b : Int} (h : a = b) : Ending.returned (.int .i64 a) = .returned (.int .i64 b) := by rw [h]

theorem nan_kind (x : Int) (w : World) : Calls Tryd.prog 59 #[.int .u8 x] w fun e w' => e = .returned (.bool false) ∧ w = w' := by
  go_enter Tryd.func59, Tryd.ntmps59
  go_wp2
  go_ret
  exact ⟨ret_bool (by simp), rfl⟩
theorem nan_int (x : Int) (w : World) : Calls Tryd.prog 60 #[.int .i64 x] w fun e w' => e = .returned (.bool false) ∧ w = w' := by
  go_enter Tryd.func60, Tryd.ntmps60
  go_wp2
  go_ret
  exact ⟨ret_bool (by simp), rfl⟩

set_option maxHeartbeats 1000000 in
theorem cmp_kind (x y : Int) (w : World) : Calls Tryd.prog 51 #[.int .u8 x, .int .u8 y] w fun e w' => e = .returned (.int .i64 (cmpI x y)) ∧ w = w' := by
  go_enter Tryd.func51, Tryd.ntmps51
  go_wp2_with (go_at_call 59; refine (nan_kind _ _).mono ?_; rintro e w' ⟨rfl, rfl⟩)
  all_goals
    go_ret
    refine ⟨ret_num ?_, rfl⟩
    unfold cmpI
    first | (rw [if_pos (by assumption)]; done) | (rw [if_neg (by omega), if_pos (by assumption)]; done) | (rw [if_neg (by omega), if_neg (by omega)])
set_option maxHeartbeats 1000000 in
theorem cmp_int (x y : Int) (w : World) : Calls Tryd.prog 52 #[.int .i64 x, .int .i64 y] w fun e w' => e = .returned (.int .i64 (cmpI x y)) ∧ w = w' := by
  go_enter Tryd.func52, Tryd.ntmps52
  go_wp2_with (go_at_call 60; refine (nan_int _ _).mono ?_; rintro e w' ⟨rfl, rfl⟩)
  all_goals
    go_ret
    refine ⟨ret_num ?_, rfl⟩
    unfold cmpI
    first | (rw [if_pos (by assumption)]; done) | (rw [if_neg (by omega), if_pos (by assumption)]; done) | (rw [if_neg (by omega), if_neg (by omega)])
end Go.Proofs.YtapcgikamldchaaDoor
namespace Go.Proofs.YtapcgikamldchaaDoor
open Go.RowKit Go.Shelf Go.Lib Go.Sort

def or3 (x y z : Int) : Int := if x ≠ 0 then x else if y ≠ 0 then y else z
set_option maxHeartbeats 1000000 in
theorem or_any (g : Nat) (x y z : Int) (w : World) (h0 : w.cell? ⟨g, 0, none⟩ = some (.int .i64 x)) (h1 : w.cell? ⟨g, 1, none⟩ = some (.int .i64 y)) (h2 : w.cell? ⟨g, 2, none⟩ = some (.int .i64 z)) :
    Calls Tryd.prog 50 #[.slice (some ⟨g, 0, none⟩) 3 3] w fun e w' => e = .returned (.int .i64 (or3 x y z)) ∧ w = w' := by
  by_cases hx : x = 0
  · by_cases hy : y = 0
    · by_cases hz : z = 0
      · subst hx; subst hy; subst hz
        go_enter Tryd.func50, Tryd.ntmps50
        go_wp2
        refine wp_loop_rounds 4 ?_
        rw [rounds_succ]
        go_wp2
        rw [rounds_succ]
        go_wp2
        rw [rounds_succ]
        go_wp2
        rw [rounds_succ]
        go_wp2
        go_ret
        exact ⟨ret_num (by simp [or3]), rfl⟩
      · have kz : (z != 0) = true := by simpa using hz
        have HZ : Hid (or3 0 0 z = z) := Lib.hid (by simp [or3])
        subst hx; subst hy
        clear hz
        go_enter Tryd.func50, Tryd.ntmps50
        go_wp2
        refine wp_loop_rounds 3 ?_
        rw [rounds_succ]
        go_wp2
        rw [rounds_succ]
        go_wp2
        rw [rounds_succ]
        go_wp2
        go_ret
        exact ⟨ret_num HZ.out.symm, rfl⟩
    · have ky : (y != 0) = true := by simpa using hy
      have HZ : Hid (or3 0 y z = y) := Lib.hid (by simp [or3, hy])
      subst hx
      clear hy
      go_enter Tryd.func50, Tryd.ntmps50
      go_wp2
      refine wp_loop_rounds 2 ?_
      rw [rounds_succ]
      go_wp2
      rw [rounds_succ]
      go_wp2
      go_ret
      exact ⟨ret_num HZ.out.symm, rfl⟩
  · have kx : (x != 0) = true := by simpa using hx
    have HZ : Hid (or3 x y z = x) := Lib.hid (by simp [or3, hx])
    clear hx
    go_enter Tryd.func50, Tryd.ntmps50
    go_wp2
    refine wp_loop_rounds 1 ?_
    rw [rounds_succ]
    go_wp2
    go_ret
    exact ⟨ret_num HZ.out.symm, rfl⟩

def cmp3 (k a f k' a' f' : Int) : Int := or3 (cmpI k k') (cmpI a a') (cmpI f f')
set_option maxHeartbeats 2000000 in
set_option maxRecDepth 100000 in
theorem compare_any (k a f k' a' f' : Int) (w : World) :
    Calls Tryd.prog 44 #[.agg #[.int .u8 k, .int .i64 a, .int .i64 f], .agg #[.int .u8 k', .int .i64 a', .int .i64 f']] w fun e w' => e = .returned (.int .i64 (cmp3 k a f k' a' f')) ∧ ∃ q os', w' = grow (w.drewN q) os' := by
  obtain ⟨w0, HW⟩ : ∃ w0, w0 = (w.alloc (.cells #[.int .u8 k, .int .i64 a, .int .i64 f] 42)).alloc (.cells #[.int .u8 k', .int .i64 a', .int .i64 f'] 42) := ⟨_, rfl⟩
  have e0 : w0.drew.cell? ⟨w.heap.size, 0, none⟩ = some (.int .u8 k) := by rw [HW]; simp [go_sem]
  have e1 : w0.drew.cell? ⟨w.heap.size, 1, none⟩ = some (.int .i64 a) := by rw [HW]; simp [go_sem]
  have e2 : w0.drew.cell? ⟨w.heap.size, 2, none⟩ = some (.int .i64 f) := by rw [HW]; simp [go_sem]
  have e3 : w0.drew.cell? ⟨w.heap.size + 1, 0, none⟩ = some (.int .u8 k') := by rw [HW]; simp [go_sem]
  have e4 : w0.drew.cell? ⟨w.heap.size + 1, 1, none⟩ = some (.int .i64 a') := by rw [HW]; simp [go_sem]
  have e5 : w0.drew.cell? ⟨w.heap.size + 1, 2, none⟩ = some (.int .i64 f') := by rw [HW]; simp [go_sem]
  have HW' := Lib.hid HW
  have HC := Lib.hid (show cmp3 k a f k' a' f' = or3 (cmpI k k') (cmpI a a') (cmpI f f') from rfl)
  generalize cmp3 k a f k' a' f' = r at HC ⊢
  go_enter Tryd.func44, Tryd.ntmps44
  go_wp2_with fail
  rw [← HW]
  clear HW
  refine wp_region_still_tail 15 (by kernel_rfl) (by kernel_rfl) ?_
  change wpStill _ _ w0.drew _ _ _
  change wpStill _ _ w0.drew (fun a' => wpList _ _ _ _ a' w0.drew) _ _
  simp only [List.take_succ_cons, List.take_zero, List.drop_succ_cons, List.drop_zero]
  have hcK := cmp_kind k k' w0.drew
  have hcA := cmp_int a a' w0.drew
  have hcF := cmp_int f f' w0.drew
  generalize cmpI k k' = x at HC hcK
  generalize cmpI a a' = y at HC hcA
  generalize cmpI f f' = z at HC hcF
  generalize hwd : w0.drew = wd at e0 e1 e2 e3 e4 e5 hcK hcA hcF ⊢
  have HD := Lib.hid hwd
  clear hwd
  still_step
  still_step
  still_step
  still_step
  still_call (hcK.mono fun _ _ h => ⟨h.1, h.2.symm⟩)
  still_step
  still_step
  still_step
  still_step
  still_call (hcA.mono fun _ _ h => ⟨h.1, h.2.symm⟩)
  still_step
  still_step
  still_step
  still_step
  still_call (hcF.mono fun _ _ h => ⟨h.1, h.2.symm⟩)
  refine wpStill_nil ?_
  clear hcK hcA hcF
  go_wp2_with (go_at_call 50; refine (or_any wd.heap.size x y z _ (by simp [go_sem]) (by simp [go_sem]) (by simp [go_sem])).mono ?_; rintro e w' ⟨rfl, rfl⟩)
  go_ret
  refine ⟨ret_num HC.out.symm, 1, #[.cells #[.int .u8 k, .int .i64 a, .int .i64 f] 42, .cells #[.int .u8 k', .int .i64 a', .int .i64 f'] 42, .cells #[.int .i64 x, .int .i64 y, .int .i64 z] 3], ?_⟩
  rw [← HD.out, HW'.out]
  simp only [alloc_eq_grow, World.drewN, World.drew, grow]
  simp [← Array.toList_inj]
end Go.Proofs.YtapcgikamldchaaDoor
