/-
  The law WordsAgain: it answers true, and changes nothing that was there; condition: the table of fields reads as the program lays it, and the argument is a word of 64 bits.
-/
import Derived.Test.YtommlceihogelaaDoorLAgainF
import Derived.Test.YtommlceihogelaaDoorLAgainT
namespace Go.Proofs.YtommlceihogelaaDoor
open Go.RowKit

theorem lawAgain (x : Int) (w : World) (hL : Lay w) (hx : U64 x) : Calls Tryd.prog 7 #[.int .u64 x] w fun e w' => e = .returned (.bool true) ∧ Below w.heap.size w w' := by
  by_cases h : markW x = x
  · exact again_t x w hL hx (beq_iff_eq.2 h)
  · exact again_f x w hL hx (beq_eq_false_iff_ne.2 h) (beq_iff_eq.2 ((mark_or_unmark x hx).resolve_left h))
end Go.Proofs.YtommlceihogelaaDoor
