/-
  The program's small calls of layer 6: a slot's segment, a segment's slots, the words' addresses, what a segment's words may be, how many are put aside; condition: the arguments are numbers of their kinds.
-/
import Derived.Test.YtelehpegnjbcaaaDoorGE1
namespace Go.Proofs.YtelehpegnjbcaaaDoor
open Go.RowKit

theorem low_refl (w : World) : Below w.heap.size w w := Below.refl _ _
set_option maxHeartbeats 1000000 in
theorem pof_any (n : Int) (w : World) : Calls Tryd.prog 11 #[.int .i64 n] w fun e w' => e = .returned (.int .i64 (ofG n)) ∧ Below w.heap.size w w' := by
  by_cases h0 : n < 0
  · have HP := Lib.hid (show ofG n = -1 by unfold ofG; rw [if_neg (by omega)])
    go_enter Tryd.func11, Tryd.ntmps11
    go_wp2
    go_ret
    exact ⟨ret_int HP.out.symm, low_refl _⟩
  · by_cases h1 : n < 256
    · have HP := Lib.hid (show ofG n = n / 8 by unfold ofG; rw [if_pos (by omega)])
      have h0' : 0 ≤ n := by omega
      go_enter Tryd.func11, Tryd.ntmps11
      go_wp2
      go_ret
      exact ⟨ret_int HP.out.symm, low_refl _⟩
    · have HP := Lib.hid (show ofG n = -1 by unfold ofG; rw [if_neg (by omega)])
      have h1' : 256 ≤ n := by omega
      go_enter Tryd.func11, Tryd.ntmps11
      go_wp2
      go_ret
      exact ⟨ret_int HP.out.symm, low_refl _⟩
set_option maxHeartbeats 1000000 in
theorem pslots_any (n : Int) (w : World) : Calls Tryd.prog 9 #[.int .i64 n] w fun e w' => e = .returned (.tuple #[.int .i64 (fromG n), .int .i64 (toG n)]) ∧ Below w.heap.size w w' := by
  by_cases h0 : n < 0
  · have HP := Lib.hid (show fromG n = 0 ∧ toG n = 0 by unfold fromG toG; rw [if_neg (by omega), if_neg (by omega)]; exact ⟨rfl, rfl⟩)
    go_enter Tryd.func9, Tryd.ntmps9
    go_wp2
    go_ret2
    exact ⟨ret_pair HP.out.1.symm HP.out.2.symm, low_refl _⟩
  · by_cases h1 : n < 32
    · have HP := Lib.hid (show fromG n = n * 8 ∧ toG n = n * 8 + 8 by unfold fromG toG; rw [if_pos (by omega), if_pos (by omega)]; omega)
      have h0' : 0 ≤ n := by omega
      have e1 : IntKind.i64.wrap (n * 8) = n * 8 := by rw [IntKind.wrap_i64]; omega
      have e2 : IntKind.i64.wrap (n * 8 + 8) = n * 8 + 8 := by rw [IntKind.wrap_i64]; omega
      go_enter Tryd.func9, Tryd.ntmps9
      go_wp2
      go_ret2
      exact ⟨ret_pair HP.out.1.symm HP.out.2.symm, low_refl _⟩
    · have HP := Lib.hid (show fromG n = 0 ∧ toG n = 0 by unfold fromG toG; rw [if_neg (by omega), if_neg (by omega)]; exact ⟨rfl, rfl⟩)
      have h1' : 32 ≤ n := by omega
      go_enter Tryd.func9, Tryd.ntmps9
      go_wp2
      go_ret2
      exact ⟨ret_pair HP.out.1.symm HP.out.2.symm, low_refl _⟩
theorem isz27 : (Tryd.prog.info? 27).map (·.size) = some 3 := by kernel_rfl
set_option maxHeartbeats 1000000 in
theorem pword_any (n f : Int) (w : World) : Calls Tryd.prog 13 #[.int .i64 n, .int .i64 f] w fun e w' => e = .returned (.agg #[.int .u8 6, .int .i64 n, .int .i64 f]) ∧ Below w.heap.size w w' := by
  go_enter Tryd.func13, Tryd.ntmps13
  go_wp2
  refine bodyPost_ret (results_cell_row rfl _ _ w.heap.size 27 #[.int .u8 6, .int .i64 n, .int .i64 f] (0, 0) _ rfl (heap_alloc_new w _) Tryd.underlying27 rfl isz27) rfl ⟨rfl, (Below.refl _ _).alloc (Nat.le_refl _) _⟩
set_option maxHeartbeats 1000000 in
theorem pslot_any (n f : Int) (w : World) : Calls Tryd.prog 14 #[.int .i64 n, .int .i64 f] w fun e w' => e = .returned (.agg #[.int .u8 9, .int .i64 n, .int .i64 f]) ∧ Below w.heap.size w w' := by
  go_enter Tryd.func14, Tryd.ntmps14
  go_wp2
  refine bodyPost_ret (results_cell_row rfl _ _ w.heap.size 27 #[.int .u8 9, .int .i64 n, .int .i64 f] (0, 0) _ rfl (heap_alloc_new w _) Tryd.underlying27 rfl isz27) rfl ⟨rfl, (Below.refl _ _).alloc (Nat.le_refl _) _⟩
set_option maxHeartbeats 2000000 in
theorem pmay_any (s p : Int) (w : World) : Calls Tryd.prog 16 #[.int .u64 s, .int .u64 p] w fun e w' => e = .returned (.bool (maySeg s p)) ∧ w = w' := by
  by_cases h0 : s = 0
  · subst h0
    go_enter Tryd.func16, Tryd.ntmps16
    go_wp2
    go_ret
    exact ⟨ret_bool (by rw [Bool.eq_iff_iff]; simp [maySeg]), rfl⟩
  · by_cases h1 : s = 1
    · subst h1
      go_enter Tryd.func16, Tryd.ntmps16
      go_wp2
      go_ret
      exact ⟨ret_bool (by rw [Bool.eq_iff_iff]; simp [maySeg]), rfl⟩
    · by_cases h2 : s = 2
      · subst h2
        go_enter Tryd.func16, Tryd.ntmps16
        go_wp2
        go_ret
        exact ⟨ret_bool (by rw [Bool.eq_iff_iff]; simp [maySeg]), rfl⟩
      · have b0 : (s == 0) = false := beq_eq_false_iff_ne.2 h0
        have b1 : (s == 1) = false := beq_eq_false_iff_ne.2 h1
        have b2 : (s == 2) = false := beq_eq_false_iff_ne.2 h2
        go_enter Tryd.func16, Tryd.ntmps16
        go_wp2
        go_ret
        exact ⟨ret_bool (by rw [Bool.eq_iff_iff]; simp [maySeg, h0, h1, h2]), rfl⟩
set_option maxHeartbeats 1000000 in
theorem paside_any (a b c p g : Int) (w : World) (h0 : 0 ≤ p) (h1 : p ≤ 1099511627776) (h2 : 0 ≤ g) (h3 : g ≤ 1099511627776) : Calls Tryd.prog 22 #[.agg #[.int .i64 a, .int .i64 b, .int .i64 c, .int .i64 p, .int .i64 g]] w fun e w' => e = .returned (.int .i64 (p + g)) ∧ Below w.heap.size w w' := by
  have e1 : IntKind.i64.wrap (p + g) = p + g := by rw [IntKind.wrap_i64]; omega
  have HB := Lib.hid ((Below.refl w.heap.size w).alloc (Nat.le_refl _) (.cells #[.int .i64 a, .int .i64 b, .int .i64 c, .int .i64 p, .int .i64 g] 36))
  go_enter Tryd.func22, Tryd.ntmps22
  go_wp2
  go_ret
  exact ⟨rfl, HB.out⟩
end Go.Proofs.YtelehpegnjbcaaaDoor
