/-
  What the law MemsOne asks of the memory, in plain words, and the calls that it makes one by one; condition: two unlike addresses that may be, numbers of their kinds.
-/
import Derived.Test.YtjpanofkikfeoaaGreatDoorO0
import Derived.Laws.StructEq
namespace Go.Proofs.YtjpanofkikfeoaaGreatDoor
open Go.RowKit Go.Maps

def Ad.same (x y : Ad) : Bool := x.k == y.k && x.a == y.a && x.f == y.f
theorem Ad.same_iff (x y : Ad) : x.same y = true ↔ x = y := by
  unfold Ad.same
  constructor
  · intro h
    simp at h
    exact Ad.ext ⟨h.1.1, h.1.2, h.2⟩
  · rintro rfl
    simp
set_option maxRecDepth 100000 in
theorem eq_addr (k a f k' a' f' : Int) (w : World) : (binOp .eql 34 (.agg #[.int .u8 k, .int .i64 a, .int .i64 f]) (.agg #[.int .u8 k', .int .i64 a', .int .i64 f'])).run Tryz.prog w = .ok (.bool (k == k' && a == a' && f == f')) w := by
  have hS : Tryz.prog.underlying 34 = some (.struct (Tryz.prog.fieldsOf 34)) := by kernel_rfl
  have hp : Tryz.prog.stoodInHeld 34 = false := by kernel_rfl
  have u3 := Tryz.underlying3
  have a3 := Tryz.isAgg3
  have z3 := Tryz.sizeOf3
  have u29 := Tryz.underlying32
  have a29 := Tryz.isAgg32
  have z29 := Tryz.sizeOf32
  rw [run_eql_struct, show (10000 : Nat) = 9999 + 1 from rfl, run_equalIn_agg w 9999 34 _ _ hS hp]
  simp only [Program.fieldsOf, Tryz.underlying34]
  go_simp
  by_cases h1 : k = k' <;> by_cases h2 : a = a' <;> by_cases h3 : f = f' <;> simp [h1, h2, h3]
set_option maxRecDepth 100000 in
theorem eq_word (k a f v : Int) (w : World) : (binOp .eql 92 (.agg #[.int .u8 k, .int .i64 a, .int .i64 f, .int .u64 v]) (.agg #[.int .u8 k, .int .i64 a, .int .i64 f, .int .u64 v])).run Tryz.prog w = .ok (.bool true) w := by
  have hS : Tryz.prog.underlying 92 = some (.struct (Tryz.prog.fieldsOf 92)) := by kernel_rfl
  have hp : Tryz.prog.stoodInHeld 92 = false := by kernel_rfl
  have hS1 : Tryz.prog.underlying 34 = some (.struct (Tryz.prog.fieldsOf 34)) := by kernel_rfl
  have hp1 : Tryz.prog.stoodInHeld 34 = false := by kernel_rfl
  have u3 := Tryz.underlying3
  have a3 := Tryz.isAgg3
  have z3 := Tryz.sizeOf3
  have u29 := Tryz.underlying32
  have a29 := Tryz.isAgg32
  have z29 := Tryz.sizeOf32
  have a31 := Tryz.isAgg34
  have z31 := Tryz.sizeOf34
  have u32 := Tryz.underlying35
  have a32 := Tryz.isAgg35
  have z32 := Tryz.sizeOf35
  have e31 : ∀ w, (Op.equalIn 9999 34 (.agg #[.int .u8 k, .int .i64 a, .int .i64 f]) (.agg #[.int .u8 k, .int .i64 a, .int .i64 f])).run Tryz.prog w = .ok true w := fun w => by
    rw [show (9999 : Nat) = 9998 + 1 from rfl, run_equalIn_agg w 9998 34 _ _ hS1 hp1]
    simp only [Program.fieldsOf, Tryz.underlying34]
    go_simp
  rw [run_eql_struct, show (10000 : Nat) = 9999 + 1 from rfl, run_equalIn_agg w 9999 92 _ _ hS hp]
  clear hS1 hp1
  simp only [Program.fieldsOf, Tryz.underlying92]
  go_simp

end Go.Proofs.YtjpanofkikfeoaaGreatDoor
