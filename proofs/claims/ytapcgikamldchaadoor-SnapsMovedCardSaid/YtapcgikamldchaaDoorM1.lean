/-
  Addresses as keys of a map: the map's laws hold of them, and each address has a key of its own; condition: numbers of their kinds.
-/
import Derived.Test.YtapcgikamldchaaDoorProg
import Derived.WalkKit
import Derived.Maps.Own
import Derived.Maps.OwnOps
import Derived.DeepKeys4
namespace Go.Proofs.YtapcgikamldchaaDoor
open Go.RowKit Go.Maps
theorem laidOut : laidOutB Tryd.prog = true := by kernel_rfl
theorem row31 : 42 < Tryd.prog.types.size := of_decide_eq_true (by kernel_rfl)
theorem addr_law : WideMaps.KeyLaw Tryd.prog 42 := deep_law_laid laidOut (m := 5) (by decide) row31 (by kernel_rfl) (by kernel_rfl)
theorem addr_keyed : Keyed Tryd.prog 42 := Keyed.of_law addr_law
theorem keyType31 : Tryd.prog.keyType 42 = true := by kernel_rfl
theorem cells31 : Tryd.prog.cellsOf 42 = 3 := by kernel_rfl
theorem cells29 : Tryd.prog.cellsOf 40 = 1 := by kernel_rfl
theorem cells3 : Tryd.prog.cellsOf 3 = 1 := by kernel_rfl
def addrV (k a f : Int) : Value := .agg #[.int .u8 k, .int .i64 a, .int .i64 f]
theorem addr_key (k a f : Int) (hk : (Lit.int .u8 k).wf = true) (ha : (Lit.int .i64 a).wf = true) (hf : (Lit.int .i64 f).wf = true) : ∃ l, keyOf Tryd.prog 42 (addrV k a f) = some l := by
  unfold keyOf addrV
  rw [Tryd.underlying42]
  simp only [keyType31, Bool.true_and]
  have hform : Value.formed Tryd.prog 42 (.agg #[.int .u8 k, .int .i64 a, .int .i64 f]) = true := by
    simp [Value.formed, Tryd.underlying42, cells31]
  obtain ⟨d, hd⟩ : ∃ d, Tryd.prog.types.size + 1 = d + 2 := ⟨Tryd.prog.types.size - 1, by have := row31; omega⟩
  rw [if_pos hform, hd]
  simp [Program.keyLits, Tryd.underlying42, Tryd.underlying40, Tryd.underlying3, cells31, cells29, cells3, Value.cells, hk, ha, hf]
end Go.Proofs.YtapcgikamldchaaDoor
