/-
  The law's table of rooms of layer 2 as it lies: what stands in it at each kind, and the remainders that the law's maker of addresses takes; condition: numbers of their kinds.
-/
import Derived.Test.YtfnlkapiflkceaaDoorR1
namespace Go.Proofs.YtfnlkapiflkceaaDoor
open Go.RowKit

/-- The law's table of rooms, as it lies: two numbers a kind. -/
def roomsL : List Value := [.int .i64 1, .int .i64 1, .int .i64 1, .int .i64 1, .int .i64 1, .int .i64 1, .int .i64 1, .int .i64 1, .int .i64 1, .int .i64 1, .int .i64 1, .int .i64 1, .int .i64 32, .int .i64 2, .int .i64 4, .int .i64 1, .int .i64 16, .int .i64 10, .int .i64 256, .int .i64 8, .int .i64 9, .int .i64 1, .int .i64 1, .int .i64 2]
theorem rooms_at (q : Int) (h0 : 0 ≤ q) (h1 : q < 12) : roomsL[q.toNat * 2]? = some (.int .i64 (atRoom q)) ∧ roomsL[q.toNat * 2 + 1]? = some (.int .i64 (fieldRoom q)) := by
  obtain h | h | h | h | h | h | h | h | h | h | h | h : q = 0 ∨ q = 1 ∨ q = 2 ∨ q = 3 ∨ q = 4 ∨ q = 5 ∨ q = 6 ∨ q = 7 ∨ q = 8 ∨ q = 9 ∨ q = 10 ∨ q = 11 := by omega
  all_goals
    subst h
    exact ⟨rfl, rfl⟩
theorem rooms_low (q : Int) : 1 ≤ atRoom q ∧ atRoom q ≤ 256 ∧ 1 ≤ fieldRoom q ∧ fieldRoom q ≤ 10 := by
  unfold atRoom fieldRoom
  refine ⟨?_, ?_, ?_, ?_⟩
  all_goals
    repeat' split
    all_goals omega
theorem rem_of (x y : Int) (hx : 0 ≤ x) (hx' : x ≤ 255) (hy : 1 ≤ y) : Int.tmod x y = x % y ∧ IntKind.i64.wrap (x % y) = x % y ∧ 0 ≤ x % y ∧ x % y ≤ 255 := by
  have h0 : 0 ≤ x % y := Int.emod_nonneg x (by omega)
  have h1 : x % y ≤ 255 := by
    rcases (show x < y ∨ y ≤ x by omega) with h | h
    · rw [Int.emod_eq_of_lt hx h]; exact hx'
    · have := Int.emod_lt_of_pos x (show 0 < y by omega); omega
  exact ⟨Int.tmod_eq_emod_of_nonneg hx, by simp [IntKind.wrap, IntKind.bits]; omega, h0, h1⟩

end Go.Proofs.YtfnlkapiflkceaaDoor
