/-
  What the law MemsOne asks of the memory, in plain words, and the calls that it makes one by one; condition: two unlike addresses that may be, numbers of their kinds.
-/
import Derived.Test.YtodfjnpnfalioaaGreatDoorO0
import Derived.Laws.StructEq
namespace Go.Proofs.YtodfjnpnfalioaaGreatDoor
open Go.RowKit Go.Maps

def Ad.same (x y : Ad) : Bool := x.k == y.k && x.a == y.a && x.f == y.f
theorem Ad.same_iff (x y : Ad) : x.same y = true ↔ x = y := by
  unfold Ad.same
  constructor
  · intro h
    simp at h
    exact Ad.ext ⟨h.1.1, h.1.2, h.2⟩
  · rintro rfl
    simp
set_option maxRecDepth 100000 in
theorem eq_addr (k a f k' a' f' : Int) (w : World) : (binOp .eql 33 (.agg #[.int .u8 k, .int .i64 a, .int .i64 f]) (.agg #[.int .u8 k', .int .i64 a', .int .i64 f'])).run Tryz.prog w = .ok (.bool (k == k' && a == a' && f == f')) w := by
  have hS : Tryz.prog.underlying 33 = some (.struct (Tryz.prog.fieldsOf 33)) := by kernel_rfl
  have hp : Tryz.prog.stoodInHeld 33 = false := by kernel_rfl
  have u3 := Tryz.underlying3
  have a3 := Tryz.isAgg3
  have z3 := Tryz.sizeOf3
  have u29 := Tryz.underlying31
  have a29 := Tryz.isAgg31
  have z29 := Tryz.sizeOf31
  rw [run_eql_struct, show (10000 : Nat) = 9999 + 1 from rfl, run_equalIn_agg w 9999 33 _ _ hS hp]
  simp only [Program.fieldsOf, Tryz.underlying33]
  go_simp
  by_cases h1 : k = k' <;> by_cases h2 : a = a' <;> by_cases h3 : f = f' <;> simp [h1, h2, h3]
set_option maxRecDepth 100000 in
theorem eq_word (k a f v : Int) (w : World) : (binOp .eql 86 (.agg #[.int .u8 k, .int .i64 a, .int .i64 f, .int .u64 v]) (.agg #[.int .u8 k, .int .i64 a, .int .i64 f, .int .u64 v])).run Tryz.prog w = .ok (.bool true) w := by
  have hS : Tryz.prog.underlying 86 = some (.struct (Tryz.prog.fieldsOf 86)) := by kernel_rfl
  have hp : Tryz.prog.stoodInHeld 86 = false := by kernel_rfl
  have hS1 : Tryz.prog.underlying 33 = some (.struct (Tryz.prog.fieldsOf 33)) := by kernel_rfl
  have hp1 : Tryz.prog.stoodInHeld 33 = false := by kernel_rfl
  have u3 := Tryz.underlying3
  have a3 := Tryz.isAgg3
  have z3 := Tryz.sizeOf3
  have u29 := Tryz.underlying31
  have a29 := Tryz.isAgg31
  have z29 := Tryz.sizeOf31
  have a31 := Tryz.isAgg33
  have z31 := Tryz.sizeOf33
  have u32 := Tryz.underlying34
  have a32 := Tryz.isAgg34
  have z32 := Tryz.sizeOf34
  have e31 : ∀ w, (Op.equalIn 9999 33 (.agg #[.int .u8 k, .int .i64 a, .int .i64 f]) (.agg #[.int .u8 k, .int .i64 a, .int .i64 f])).run Tryz.prog w = .ok true w := fun w => by
    rw [show (9999 : Nat) = 9998 + 1 from rfl, run_equalIn_agg w 9998 33 _ _ hS1 hp1]
    simp only [Program.fieldsOf, Tryz.underlying33]
    go_simp
  rw [run_eql_struct, show (10000 : Nat) = 9999 + 1 from rfl, run_equalIn_agg w 9999 86 _ _ hS hp]
  clear hS1 hp1
  simp only [Program.fieldsOf, Tryz.underlying86]
  go_simp

end Go.Proofs.YtodfjnpnfalioaaGreatDoor
