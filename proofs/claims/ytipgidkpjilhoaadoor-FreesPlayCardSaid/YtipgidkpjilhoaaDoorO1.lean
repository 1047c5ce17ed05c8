/-
  What the law MemsOne asks of the memory, in plain words, and the calls that it makes one by one; condition: two unlike addresses that may be, numbers of their kinds.
-/
import Derived.Test.YtipgidkpjilhoaaDoorV1
import Derived.Test.YtipgidkpjilhoaaDoorP4
import Derived.Laws.StructEq
namespace Go.Proofs.YtipgidkpjilhoaaDoor
open Go.RowKit Go.Maps

def Ad.same (x y : Ad) : Bool := x.k == y.k && x.a == y.a && x.f == y.f
theorem Ad.same_iff (x y : Ad) : x.same y = true ↔ x = y := by
  unfold Ad.same
  constructor
  · intro h
    simp at h
    exact Ad.ext ⟨h.1.1, h.1.2, h.2⟩
  · rintro rfl
    simp
set_option maxRecDepth 100000 in
theorem eq_addr (k a f k' a' f' : Int) (w : World) : (binOp .eql 33 (.agg #[.int .u8 k, .int .i64 a, .int .i64 f]) (.agg #[.int .u8 k', .int .i64 a', .int .i64 f'])).run Tryd.prog w = .ok (.bool (k == k' && a == a' && f == f')) w := by
  have hS : Tryd.prog.underlying 33 = some (.struct (Tryd.prog.fieldsOf 33)) := by kernel_rfl
  have hp : Tryd.prog.stoodInHeld 33 = false := by kernel_rfl
  have u3 := Tryd.underlying3
  have a3 := Tryd.isAgg3
  have z3 := Tryd.sizeOf3
  have u29 := Tryd.underlying31
  have a29 := Tryd.isAgg31
  have z29 := Tryd.sizeOf31
  rw [run_eql_struct, show (10000 : Nat) = 9999 + 1 from rfl, run_equalIn_agg w 9999 33 _ _ hS hp]
  simp only [Program.fieldsOf, Tryd.underlying33]
  go_simp
  by_cases h1 : k = k' <;> by_cases h2 : a = a' <;> by_cases h3 : f = f' <;> simp [h1, h2, h3]
set_option maxRecDepth 100000 in
theorem eq_word (k a f v : Int) (w : World) : (binOp .eql 103 (.agg #[.int .u8 k, .int .i64 a, .int .i64 f, .int .u64 v]) (.agg #[.int .u8 k, .int .i64 a, .int .i64 f, .int .u64 v])).run Tryd.prog w = .ok (.bool true) w := by
  have hS : Tryd.prog.underlying 103 = some (.struct (Tryd.prog.fieldsOf 103)) := by kernel_rfl
  have hp : Tryd.prog.stoodInHeld 103 = false := by kernel_rfl
  have hS1 : Tryd.prog.underlying 33 = some (.struct (Tryd.prog.fieldsOf 33)) := by kernel_rfl
  have hp1 : Tryd.prog.stoodInHeld 33 = false := by kernel_rfl
  have u3 := Tryd.underlying3
  have a3 := Tryd.isAgg3
  have z3 := Tryd.sizeOf3
  have u29 := Tryd.underlying31
  have a29 := Tryd.isAgg31
  have z29 := Tryd.sizeOf31
  have a31 := Tryd.isAgg33
  have z31 := Tryd.sizeOf33
  have u32 := Tryd.underlying34
  have a32 := Tryd.isAgg34
  have z32 := Tryd.sizeOf34
  have e31 : ∀ w, (Op.equalIn 9999 33 (.agg #[.int .u8 k, .int .i64 a, .int .i64 f]) (.agg #[.int .u8 k, .int .i64 a, .int .i64 f])).run Tryd.prog w = .ok true w := fun w => by
    rw [show (9999 : Nat) = 9998 + 1 from rfl, run_equalIn_agg w 9998 33 _ _ hS1 hp1]
    simp only [Program.fieldsOf, Tryd.underlying33]
    go_simp
  rw [run_eql_struct, show (10000 : Nat) = 9999 + 1 from rfl, run_equalIn_agg w 9999 103 _ _ hS hp]
  clear hS1 hp1
  simp only [Program.fieldsOf, Tryd.underlying103]
  go_simp

theorem valOf_eq (D : DataW Unit) (x : Ad) : valOf D x = valD D x := by
  unfold valOf valD
  generalize D.atKey x.lit (.lit (.int .u64 0)) = d
  cases d with
  | lit l => cases l <;> rfl
  | _ => rfl
theorem new_some (w : World) : Calls Tryd.prog 27 #[] w fun e w' => ∃ p b, e = .returned (.pointer (some ⟨p, 0, none⟩)) ∧ PM p b 0 (.map []) 0 0 0 0 0 0 0 false w' ∧ Below w.heap.size w w' ∧ w.heap.size ≤ b ∧ b < p := by
  refine (new_prog w).mono ?_
  rintro e w' ⟨rfl, hp, hb⟩
  exact ⟨_, _, rfl, hp, hb, Nat.le_refl _, by omega⟩
end Go.Proofs.YtipgidkpjilhoaaDoor
