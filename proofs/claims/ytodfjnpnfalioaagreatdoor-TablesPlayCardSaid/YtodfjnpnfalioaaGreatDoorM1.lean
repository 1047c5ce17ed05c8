/-
  Addresses as keys of a map: the map's laws hold of them, and each address has a key of its own; condition: numbers of their kinds.
-/
import Derived.Test.YtodfjnpnfalioaaGreatDoorProg
import Derived.WalkKit
import Derived.Maps.Own
import Derived.Maps.OwnOps
import Derived.DeepKeys4
namespace Go.Proofs.YtodfjnpnfalioaaGreatDoor
open Go.RowKit Go.Maps
theorem laidOut : laidOutB Tryz.prog = true := by kernel_rfl
theorem row31 : 33 < Tryz.prog.types.size := of_decide_eq_true (by kernel_rfl)
theorem addr_law : WideMaps.KeyLaw Tryz.prog 33 := deep_law_laid laidOut (m := 5) (by decide) row31 (by kernel_rfl) (by kernel_rfl)
theorem addr_keyed : Keyed Tryz.prog 33 := Keyed.of_law addr_law
theorem keyType31 : Tryz.prog.keyType 33 = true := by kernel_rfl
theorem cells31 : Tryz.prog.cellsOf 33 = 3 := by kernel_rfl
theorem cells29 : Tryz.prog.cellsOf 31 = 1 := by kernel_rfl
theorem cells3 : Tryz.prog.cellsOf 3 = 1 := by kernel_rfl
def addrV (k a f : Int) : Value := .agg #[.int .u8 k, .int .i64 a, .int .i64 f]
theorem addr_key (k a f : Int) (hk : (Lit.int .u8 k).wf = true) (ha : (Lit.int .i64 a).wf = true) (hf : (Lit.int .i64 f).wf = true) : ∃ l, keyOf Tryz.prog 33 (addrV k a f) = some l := by
  unfold keyOf addrV
  rw [Tryz.underlying33]
  simp only [keyType31, Bool.true_and]
  have hform : Value.formed Tryz.prog 33 (.agg #[.int .u8 k, .int .i64 a, .int .i64 f]) = true := by
    simp [Value.formed, Tryz.underlying33, cells31]
  obtain ⟨d, hd⟩ : ∃ d, Tryz.prog.types.size + 1 = d + 2 := ⟨Tryz.prog.types.size - 1, by have := row31; omega⟩
  rw [if_pos hform, hd]
  simp [Program.keyLits, Tryz.underlying33, Tryz.underlying31, Tryz.underlying3, cells31, cells29, cells3, Value.cells, hk, ha, hf]
end Go.Proofs.YtodfjnpnfalioaaGreatDoor
