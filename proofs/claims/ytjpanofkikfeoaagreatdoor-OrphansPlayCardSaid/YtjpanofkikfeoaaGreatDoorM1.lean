/-
  Addresses as keys of a map: the map's laws hold of them, and each address has a key of its own; condition: numbers of their kinds.
-/
import Derived.Test.YtjpanofkikfeoaaGreatDoorProg
import Derived.WalkKit
import Derived.Maps.Own
import Derived.Maps.OwnOps
import Derived.DeepKeys4
namespace Go.Proofs.YtjpanofkikfeoaaGreatDoor
open Go.RowKit Go.Maps
theorem laidOut : laidOutB Tryz.prog = true := by kernel_rfl
theorem row31 : 34 < Tryz.prog.types.size := of_decide_eq_true (by kernel_rfl)
theorem addr_law : WideMaps.KeyLaw Tryz.prog 34 := deep_law_laid laidOut (m := 5) (by decide) row31 (by kernel_rfl) (by kernel_rfl)
theorem addr_keyed : Keyed Tryz.prog 34 := Keyed.of_law addr_law
theorem keyType31 : Tryz.prog.keyType 34 = true := by kernel_rfl
theorem cells31 : Tryz.prog.cellsOf 34 = 3 := by kernel_rfl
theorem cells29 : Tryz.prog.cellsOf 32 = 1 := by kernel_rfl
theorem cells3 : Tryz.prog.cellsOf 3 = 1 := by kernel_rfl
def addrV (k a f : Int) : Value := .agg #[.int .u8 k, .int .i64 a, .int .i64 f]
theorem addr_key (k a f : Int) (hk : (Lit.int .u8 k).wf = true) (ha : (Lit.int .i64 a).wf = true) (hf : (Lit.int .i64 f).wf = true) : ∃ l, keyOf Tryz.prog 34 (addrV k a f) = some l := by
  unfold keyOf addrV
  rw [Tryz.underlying34]
  simp only [keyType31, Bool.true_and]
  have hform : Value.formed Tryz.prog 34 (.agg #[.int .u8 k, .int .i64 a, .int .i64 f]) = true := by
    simp [Value.formed, Tryz.underlying34, cells31]
  obtain ⟨d, hd⟩ : ∃ d, Tryz.prog.types.size + 1 = d + 2 := ⟨Tryz.prog.types.size - 1, by have := row31; omega⟩
  rw [if_pos hform, hd]
  simp [Program.keyLits, Tryz.underlying34, Tryz.underlying32, Tryz.underlying3, cells31, cells29, cells3, Value.cells, hk, ha, hf]
end Go.Proofs.YtjpanofkikfeoaaGreatDoor
