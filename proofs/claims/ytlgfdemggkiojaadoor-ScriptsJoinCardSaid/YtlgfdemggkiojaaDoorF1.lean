/-
  The program's small functions of layer 3: below, first, kindOf, inBounds: what each gives back; no condition.
-/
import Derived.Test.YtlgfdemggkiojaaDoorProg
import Derived.Test.YtlgfdemggkiojaaDoorPlain2
import Derived.WalkKit
import Derived.WalkSpells
import Derived.WalkLawsBesides
import Derived.Deep.QuietTactic
import Derived.BigQuiet
import Derived.Lib.Hide
import Derived.Outline
namespace Go.Proofs.YtlgfdemggkiojaaDoor
open Go.RowKit

theorem ret_bool {a b : Bool} (h : a = b) : Ending.returned (.bool a) = .returned (.bool b) := by rw [h]
theorem ret_int {k : IntKind} {a b : Int} (h : a = b) : Ending.returned (.int k a) = .returned (.int k b) := by rw [h]
theorem below_drewN' {B : Nat} {a w : World} (h : Below B a w) (n : Nat) : Below B a (w.drewN n) := ⟨h.os, h.tape, h.output, h.size, h.block⟩

def belowB (n many : Int) : Bool := decide (0 ≤ n ∧ n < many)
set_option maxHeartbeats 1000000 in
theorem below_any (n many : Int) (w : World) : Calls Tryd.prog 24 #[.int .i64 n, .int .i64 many] w fun e w' => e = .returned (.bool (belowB n many)) ∧ w = w' := by
  go_enter Tryd.func24, Tryd.ntmps24
  go_wp2
  all_goals
    go_ret
    refine ⟨ret_bool ?_, rfl⟩
    unfold belowB
    simp
    try omega
set_option maxHeartbeats 1000000 in
theorem first_any (k : Int) (w : World) (h0 : 2 ≤ k) (h1 : k ≤ 9) : Calls Tryd.prog 35 #[.int .u8 k] w fun e w' => e = .returned (.int .u8 (k + 126)) ∧ w = w' := by
  go_enter Tryd.func35, Tryd.ntmps35
  go_wp2
  go_ret
  exact ⟨ret_int (by omega), rfl⟩
set_option maxHeartbeats 1000000 in
theorem kindOf_any (n : Int) (w : World) (h0 : 0 ≤ n) (h1 : n ≤ 255) : Calls Tryd.prog 34 #[.int .u8 n] w fun e w' => e = .returned (.int .u8 (kindOf n)) ∧ w = w' := by
  go_enter Tryd.func34, Tryd.ntmps34
  go_wp2
  all_goals
    go_ret
    refine ⟨ret_int ?_, rfl⟩
    unfold kindOf
    repeat' split
    all_goals omega
end Go.Proofs.YtlgfdemggkiojaaDoor
