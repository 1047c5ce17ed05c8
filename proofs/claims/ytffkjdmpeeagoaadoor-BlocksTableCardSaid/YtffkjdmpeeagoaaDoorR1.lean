/-
  The document's own answers for layer 2: may an address be, and which of two stands ahead: each call gives back the plain answer and only makes memory of its own; no condition.
-/
import Derived.Test.YtffkjdmpeeagoaaDoorProg
import Derived.WalkKit
import Derived.WalkSpells
import Derived.WalkLawsBesides
import Derived.Deep.QuietTactic
import Derived.BigQuiet
import Derived.Lib.Hide
namespace Go.Proofs.YtffkjdmpeeagoaaDoor
open Go.RowKit

theorem ret_bool {a b : Bool} (h : a = b) : Ending.returned (.bool a) = .returned (.bool b) := by rw [h]
def atRoom (k : Int) : Int := if k = 6 then 32 else if k = 7 then 4 else if k = 8 then 16 else if k = 9 then 256 else if k = 10 then 9 else 1
def fieldRoom (k : Int) : Int := if k = 6 then 2 else if k = 8 then 10 else if k = 9 then 8 else if k = 11 then 2 else 1
def mayB (k a f : Int) : Bool := decide (k ≤ 11) && decide (0 ≤ a) && decide (a < atRoom k) && decide (0 ≤ f) && decide (f < fieldRoom k)
def lessB (k a f k' a' f' : Int) : Bool := if k ≠ k' then decide (k < k') else if a ≠ a' then decide (a < a') else decide (f < f')

set_option maxHeartbeats 1000000 in
theorem less_any (k a f k' a' f' : Int) (w : World) :
    Calls Tryd.prog 72 #[.agg #[.int .u8 k, .int .i64 a, .int .i64 f], .agg #[.int .u8 k', .int .i64 a', .int .i64 f']] w fun e w' => e = .returned (.bool (lessB k a f k' a' f')) ∧ Below w.heap.size w w' := by
  by_cases h1 : k = k'
  · subst h1
    by_cases h2 : a = a'
    · subst h2
      go_enter Tryd.func72, Tryd.ntmps72
      go_wp2
      go_ret
      exact ⟨ret_bool (by simp [lessB]), ((Below.refl _ _).alloc (Nat.le_refl _) _).alloc (by simp) _⟩
    · have h2' : (a != a') = true := by rw [bne_iff_ne]; exact h2
      go_enter Tryd.func72, Tryd.ntmps72
      go_wp2
      go_ret
      exact ⟨ret_bool (by simp [lessB, h2]), ((Below.refl _ _).alloc (Nat.le_refl _) _).alloc (by simp) _⟩
  · have h1' : (k != k') = true := by rw [bne_iff_ne]; exact h1
    go_enter Tryd.func72, Tryd.ntmps72
    go_wp2
    go_ret
    exact ⟨ret_bool (by simp [lessB, h1]), ((Below.refl _ _).alloc (Nat.le_refl _) _).alloc (by simp) _⟩

set_option maxHeartbeats 1000000 in
theorem may_any (k a f : Int) (w : World) :
    Calls Tryd.prog 89 #[.agg #[.int .u8 k, .int .i64 a, .int .i64 f]] w fun e w' => e = .returned (.bool (mayB k a f)) ∧ Below w.heap.size w w' := by
  go_enter Tryd.func89, Tryd.ntmps89
  go_wp2
  all_goals
    go_ret
    refine ⟨ret_bool ?_, (Below.refl _ _).alloc (Nat.le_refl _) _⟩
    simp only [beq_iff_eq, beq_eq_false_iff_ne, ne_eq] at *
    unfold mayB atRoom fieldRoom
    first | (simp [*]; done) | (simp [*]; omega)
end Go.Proofs.YtffkjdmpeeagoaaDoor
