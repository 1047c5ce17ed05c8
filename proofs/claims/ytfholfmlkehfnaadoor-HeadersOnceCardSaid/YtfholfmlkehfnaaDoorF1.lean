/-
  The program's small functions of layer 5: may a header be, a header so many generations on; condition: the arguments are numbers of their kinds.
-/
import Derived.Test.YtfholfmlkehfnaaDoorHE1
namespace Go.Proofs.YtfholfmlkehfnaaDoor
open Go.RowKit

/-- May it be, by state and generation? -/
def hm (s g most : Int) : Bool := decide (g = most ∨ (g < most ∧ s ≠ 4))
/-- A header as the program holds it. -/
def hV (s g : Int) : Value := .agg #[.int .u8 s, .int .u64 g]
theorem ret_bool {a b : Bool} (h : a = b) : Ending.returned (.bool a) = .returned (.bool b) := by rw [h]
theorem isz48 : (Tryd.prog.info? 48).map (·.size) = some 2 := by kernel_rfl
set_option maxHeartbeats 1000000 in
theorem hmay_any (s g most : Int) (w : World) (hm' : U32 most) : Calls Tryd.prog 30 #[.agg #[.int .u8 s, .int .u64 g], .int .u32 most] w fun e w' => e = .returned (.bool (hm s g most)) ∧ Below w.heap.size w w' := by
  have e1 : IntKind.u64.wrap most = most := wrap_of_u64 most (by unfold U32 at hm'; unfold U64; omega)
  have HB := Lib.hid ((Below.refl w.heap.size w).alloc (Nat.le_refl _) (.cells #[.int .u8 s, .int .u64 g] 48))
  clear hm'
  by_cases h1 : g = most
  · subst h1
    go_enter Tryd.func30, Tryd.ntmps30
    go_wp2
    go_ret
    exact ⟨ret_bool (by simp [hm]), HB.out⟩
  · by_cases h2 : g < most
    · by_cases h3 : s = 4
      · subst h3
        go_enter Tryd.func30, Tryd.ntmps30
        go_wp2
        go_ret
        exact ⟨ret_bool (by rw [Bool.eq_iff_iff]; simp only [hm, beq_iff_eq, decide_eq_true_eq]; omega), HB.out⟩
      · go_enter Tryd.func30, Tryd.ntmps30
        go_wp2
        go_ret
        exact ⟨ret_bool (by rw [Bool.eq_iff_iff]; simp only [hm, beq_iff_eq, decide_eq_true_eq, Bool.or_eq_true, bne_iff_ne]; omega), HB.out⟩
    · go_enter Tryd.func30, Tryd.ntmps30
      go_wp2
      go_ret
      exact ⟨ret_bool (by rw [Bool.eq_iff_iff]; simp only [hm, beq_iff_eq, decide_eq_true_eq]; omega), HB.out⟩
set_option maxHeartbeats 1000000 in
theorem on_any (s g k : Int) (w : World) (h : U64 (g + k)) : Calls Tryd.prog 33 #[.agg #[.int .u8 s, .int .u64 g], .int .u64 k] w fun e w' => e = .returned (hV s (g + k)) ∧ Below w.heap.size w w' := by
  have e1 : IntKind.u64.wrap (g + k) = g + k := wrap_of_u64 _ h
  clear h
  go_enter Tryd.func33, Tryd.ntmps33
  go_wp2
  refine bodyPost_ret (results_cell_row rfl _ _ (w.heap.size + 1) 48 #[.int .u8 s, .int .u64 (g + k)] (0, 0) _ rfl ?_ Tryd.underlying48 rfl isz48) rfl ⟨rfl, ((Below.refl _ _).alloc (Nat.le_refl _) _).alloc (by simp) _⟩
  have := heap_alloc_new (w.alloc (.cells #[.int .u8 s, .int .u64 (g + k)] 48)) (.cells #[.int .u8 s, .int .u64 (g + k)] 48)
  rw [World.size_alloc] at this
  exact this
end Go.Proofs.YtfholfmlkehfnaaDoor
