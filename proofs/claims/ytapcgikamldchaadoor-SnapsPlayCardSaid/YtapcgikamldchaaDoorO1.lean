/-
  What the law MemsOne asks of the memory, in plain words, and the calls that it makes one by one; condition: two unlike addresses that may be, numbers of their kinds.
-/
import Derived.Test.YtapcgikamldchaaDoorO0
import Derived.Laws.StructEq
namespace Go.Proofs.YtapcgikamldchaaDoor
open Go.RowKit Go.Maps

def Ad.same (x y : Ad) : Bool := x.k == y.k && x.a == y.a && x.f == y.f
theorem Ad.same_iff (x y : Ad) : x.same y = true ↔ x = y := by
  unfold Ad.same
  constructor
  · intro h
    simp at h
    exact Ad.ext ⟨h.1.1, h.1.2, h.2⟩
  · rintro rfl
    simp
set_option maxRecDepth 100000 in
theorem eq_addr (k a f k' a' f' : Int) (w : World) : (binOp .eql 42 (.agg #[.int .u8 k, .int .i64 a, .int .i64 f]) (.agg #[.int .u8 k', .int .i64 a', .int .i64 f'])).run Tryd.prog w = .ok (.bool (k == k' && a == a' && f == f')) w := by
  have hS : Tryd.prog.underlying 42 = some (.struct (Tryd.prog.fieldsOf 42)) := by kernel_rfl
  have hp : Tryd.prog.stoodInHeld 42 = false := by kernel_rfl
  have u3 := Tryd.underlying3
  have a3 := Tryd.isAgg3
  have z3 := Tryd.sizeOf3
  have u29 := Tryd.underlying40
  have a29 := Tryd.isAgg40
  have z29 := Tryd.sizeOf40
  rw [run_eql_struct, show (10000 : Nat) = 9999 + 1 from rfl, run_equalIn_agg w 9999 42 _ _ hS hp]
  simp only [Program.fieldsOf, Tryd.underlying42]
  go_simp
  by_cases h1 : k = k' <;> by_cases h2 : a = a' <;> by_cases h3 : f = f' <;> simp [h1, h2, h3]
set_option maxRecDepth 100000 in
theorem eq_word (k a f v : Int) (w : World) : (binOp .eql 67 (.agg #[.int .u8 k, .int .i64 a, .int .i64 f, .int .u64 v]) (.agg #[.int .u8 k, .int .i64 a, .int .i64 f, .int .u64 v])).run Tryd.prog w = .ok (.bool true) w := by
  have hS : Tryd.prog.underlying 67 = some (.struct (Tryd.prog.fieldsOf 67)) := by kernel_rfl
  have hp : Tryd.prog.stoodInHeld 67 = false := by kernel_rfl
  have hS1 : Tryd.prog.underlying 42 = some (.struct (Tryd.prog.fieldsOf 42)) := by kernel_rfl
  have hp1 : Tryd.prog.stoodInHeld 42 = false := by kernel_rfl
  have u3 := Tryd.underlying3
  have a3 := Tryd.isAgg3
  have z3 := Tryd.sizeOf3
  have u29 := Tryd.underlying40
  have a29 := Tryd.isAgg40
  have z29 := Tryd.sizeOf40
  have a31 := Tryd.isAgg42
  have z31 := Tryd.sizeOf42
  have u32 := Tryd.underlying34
  have a32 := Tryd.isAgg34
  have z32 := Tryd.sizeOf34
  have e31 : ∀ w, (Op.equalIn 9999 42 (.agg #[.int .u8 k, .int .i64 a, .int .i64 f]) (.agg #[.int .u8 k, .int .i64 a, .int .i64 f])).run Tryd.prog w = .ok true w := fun w => by
    rw [show (9999 : Nat) = 9998 + 1 from rfl, run_equalIn_agg w 9998 42 _ _ hS1 hp1]
    simp only [Program.fieldsOf, Tryd.underlying42]
    go_simp
  rw [run_eql_struct, show (10000 : Nat) = 9999 + 1 from rfl, run_equalIn_agg w 9999 67 _ _ hS hp]
  clear hS1 hp1
  simp only [Program.fieldsOf, Tryd.underlying67]
  go_simp

end Go.Proofs.YtapcgikamldchaaDoor
