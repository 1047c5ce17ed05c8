/-
  Package frees: an operation as it lies in its block; whether it is over, its first slot, the address of a link, new operations; condition: the operation lies as it says, the table of fields as laid.
-/
import Derived.Test.YtffkjdmpeeagoaaDoorP4
import Derived.Test.YtffkjdmpeeagoaaDoorW2
import Derived.Deep.RegionHeld3
import Derived.Lib.SmallJoins
namespace Go.Proofs.YtffkjdmpeeagoaaDoor
open Go.RowKit Go.Maps

/-- Nothing that lay has turned but three blocks. -/
structure Only3 (p b q : Nat) (X Y : World) : Prop where
  os : Y.os = X.os
  tape : Y.tape = X.tape
  output : Y.output = X.output
  size : X.heap.size ≤ Y.heap.size
  block : ∀ k, k < X.heap.size → k ≠ p → k ≠ b → k ≠ q → Y.heap[k]? = X.heap[k]?
theorem Only3.trans {p b q : Nat} {X Y Z : World} (h : Only3 p b q X Y) (k : Only3 p b q Y Z) : Only3 p b q X Z :=
  ⟨k.os.trans h.os, k.tape.trans h.tape, k.output.trans h.output, Nat.le_trans h.size k.size, fun j hj h1 h2 h3 => (k.block j (Nat.lt_of_lt_of_le hj h.size) h1 h2 h3).trans (h.block j hj h1 h2 h3)⟩
theorem Only3.of_only {p b q : Nat} {X Y : World} (h : Only p b X Y) : Only3 p b q X Y := ⟨h.os, h.tape, h.output, h.size, fun k hk h1 h2 _ => h.block k hk h1 h2⟩
theorem Only3.of_below {p b q : Nat} {X Y : World} (h : Below X.heap.size X Y) : Only3 p b q X Y := .of_only (.of_below h)
theorem Only3.refl (p b q : Nat) (X : World) : Only3 p b q X X := .of_below (Below.refl _ X)
theorem Only3.setCell (p b q : Nat) (X : World) (i : Nat) (v : Value) : Only3 p b q X (X.setCell ⟨q, i, none⟩ v) :=
  ⟨rfl, rfl, rfl, by simp [World.setCell], fun k _ _ _ h3 => Below.heap_setCell X ⟨q, i, none⟩ v k h3⟩
theorem Only3.drewN (p b q : Nat) (X : World) (n : Nat) : Only3 p b q X (X.drewN n) := .of_below (below_drewN' (Below.refl _ _) n)

/-- An operation: its line, the head that it read, its slot. -/
def OpAt (t : TypeId) (q : Nat) (nx h to : Int) (w : World) : Prop := w.heap[q]? = some (.cells #[.int .i64 nx, .int .u64 h, .int .i64 to] t (0, 0))
section
variable {t : TypeId} {q : Nat} {nx h to : Int} {w w' : World}
theorem OpAt.cell (o : OpAt t q nx h to w) (i : Nat) : w.cell? ⟨q, i, none⟩ = [.int .i64 nx, .int .u64 h, .int .i64 to][i]? := by
  unfold OpAt at o
  simp [World.cell?, o]
theorem OpAt.free (o : OpAt t q nx h to w) (i : Nat) : w.frozen? ⟨q, i, none⟩ = false := by
  unfold OpAt at o
  simp [World.frozen?, o]
theorem OpAt.lt (o : OpAt t q nx h to w) : q < w.heap.size := (Array.getElem?_eq_some_iff.1 o).1
theorem OpAt.same (o : OpAt t q nx h to w) (hb : w'.heap[q]? = w.heap[q]?) : OpAt t q nx h to w' := hb.trans o
theorem OpAt.below (o : OpAt t q nx h to w) (hb : Below w.heap.size w w') : OpAt t q nx h to w' := o.same (hb.block q o.lt)
theorem OpAt.set0 (o : OpAt t q nx h to w) (v : Int) : OpAt t q v h to (w.setCell ⟨q, 0, none⟩ (.int .i64 v)) := by
  have := setCell_blk o 0 (.int .i64 v)
  unfold OpAt
  simpa using this
theorem OpAt.set1 (o : OpAt t q nx h to w) (v : Int) : OpAt t q nx v to (w.setCell ⟨q, 1, none⟩ (.int .u64 v)) := by
  have := setCell_blk o 1 (.int .u64 v)
  unfold OpAt
  simpa using this
theorem OpAt.set2 (o : OpAt t q nx h to w) (v : Int) : OpAt t q nx h v (w.setCell ⟨q, 2, none⟩ (.int .i64 v)) := by
  have := setCell_blk o 2 (.int .i64 v)
  unfold OpAt
  simpa using this
theorem OpAt.ne_p {p b n : Nat} {D : DataW Unit} {st ak k a f was is : Int} {done : Bool} (o : OpAt t q nx h to w) (m : PM p b n D st ak k a f was is done w) (ht : t ≠ 109) : q ≠ p := by
  rintro rfl
  have := m.blk.symm.trans o
  simp only [Option.some.injEq, Obj.cells.injEq] at this
  exact ht this.2.1.symm
theorem OpAt.ne_b {p b n : Nat} {D : DataW Unit} {st ak k a f was is : Int} {done : Bool} (o : OpAt t q nx h to w) (m : PM p b n D st ak k a f was is done w) : q ≠ b := by
  rintro rfl
  obtain ⟨es, clock, hb, _⟩ := m.own
  have := hb.symm.trans o
  simp at this
theorem OpAt.only {p b n : Nat} {D : DataW Unit} {st ak k a f was is : Int} {done : Bool} (o : OpAt t q nx h to w) (m : PM p b n D st ak k a f was is done w) (ht : t ≠ 109) (ho : Only p b w w') : OpAt t q nx h to w' := o.same (ho.block q o.lt (o.ne_p m ht) (o.ne_b m))

end
end Go.Proofs.YtffkjdmpeeagoaaDoor
