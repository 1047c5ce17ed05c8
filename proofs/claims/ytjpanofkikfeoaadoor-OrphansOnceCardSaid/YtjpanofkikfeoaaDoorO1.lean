/-
  What the law MemsOne asks of the memory, in plain words, and the calls that it makes one by one; condition: two unlike addresses that may be, numbers of their kinds.
-/
import Derived.Test.YtjpanofkikfeoaaDoorO0
import Derived.Laws.StructEq
namespace Go.Proofs.YtjpanofkikfeoaaDoor
open Go.RowKit Go.Maps

def Ad.same (x y : Ad) : Bool := x.k == y.k && x.a == y.a && x.f == y.f
theorem Ad.same_iff (x y : Ad) : x.same y = true ↔ x = y := by
  unfold Ad.same
  constructor
  · intro h
    simp at h
    exact Ad.ext ⟨h.1.1, h.1.2, h.2⟩
  · rintro rfl
    simp
set_option maxRecDepth 100000 in
theorem eq_addr (k a f k' a' f' : Int) (w : World) : (binOp .eql 33 (.agg #[.int .u8 k, .int .i64 a, .int .i64 f]) (.agg #[.int .u8 k', .int .i64 a', .int .i64 f'])).run Tryd.prog w = .ok (.bool (k == k' && a == a' && f == f')) w := by
  have hS : Tryd.prog.underlying 33 = some (.struct (Tryd.prog.fieldsOf 33)) := by kernel_rfl
  have hp : Tryd.prog.stoodInHeld 33 = false := by kernel_rfl
  have u3 := Tryd.underlying3
  have a3 := Tryd.isAgg3
  have z3 := Tryd.sizeOf3
  have u29 := Tryd.underlying31
  have a29 := Tryd.isAgg31
  have z29 := Tryd.sizeOf31
  rw [run_eql_struct, show (10000 : Nat) = 9999 + 1 from rfl, run_equalIn_agg w 9999 33 _ _ hS hp]
  simp only [Program.fieldsOf, Tryd.underlying33]
  go_simp
  by_cases h1 : k = k' <;> by_cases h2 : a = a' <;> by_cases h3 : f = f' <;> simp [h1, h2, h3]
end Go.Proofs.YtjpanofkikfeoaaDoor
