/-
  Numbers as values; no condition.
-/
import Derived.Test.YtlcbinckbkdgdaaDoorP4
import Derived.Outline
namespace Go.Proofs.YtlcbinckbkdgdaaDoor
open Go.RowKit Go.Maps

def iV (n : Int) : Value := .int .i64 n
theorem ints_at {l : List Int} {k : Nat} (d : Int) (h : k < l.length) : (l.map iV)[k]? = some (.int .i64 (l.getD k d)) := by
  simp [iV, List.getD_eq_getElem?_getD, List.getElem?_eq_getElem h]
theorem Tryd_infoI : (Tryd.prog.info? 3).map (fun i => (i.zero, i.size, i.bytes)) = some (some (.int .i64 0), 1, 8) := by kernel_rfl
end Go.Proofs.YtlcbinckbkdgdaaDoor
