/-
  Package frees: an operation as it lies in its block; whether it is over, its first slot, the address of a link, new operations; condition: the operation lies as it says, the table of fields as laid.
  Package frees: what each line of a Pop and of a Push does; condition: the tables as laid, the operation and the memory lie as they say, numbers of their kinds.
  Package frees: the lines of a Push that hangs the list behind its slot, and of both that swap the head; condition: the tables as laid, the operation and the memory lie as they say, numbers of their kinds.
-/
import Derived.Test.YtapcgikamldchaaDoorP3
import Derived.Test.YtapcgikamldchaaDoorW1
import Derived.Deep.RegionHeld3
import Derived.Lib.SmallJoins
namespace Go.Proofs.YtapcgikamldchaaDoor
open Go.RowKit Go.Maps

/-- Nothing that lay has turned but three blocks. -/
structure Only3 (p b q : Nat) (X Y : World) : Prop where
  os : Y.os = X.os
  tape : Y.tape = X.tape
  output : Y.output = X.output
  size : X.heap.size ≤ Y.heap.size
  block : ∀ k, k < X.heap.size → k ≠ p → k ≠ b → k ≠ q → Y.heap[k]? = X.heap[k]?
theorem Only3.trans {p b q : Nat} {X Y Z : World} (h : Only3 p b q X Y) (k : Only3 p b q Y Z) : Only3 p b q X Z :=
  ⟨k.os.trans h.os, k.tape.trans h.tape, k.output.trans h.output, Nat.le_trans h.size k.size, fun j hj h1 h2 h3 => (k.block j (Nat.lt_of_lt_of_le hj h.size) h1 h2 h3).trans (h.block j hj h1 h2 h3)⟩
theorem Only3.of_only {p b q : Nat} {X Y : World} (h : Only p b X Y) : Only3 p b q X Y := ⟨h.os, h.tape, h.output, h.size, fun k hk h1 h2 _ => h.block k hk h1 h2⟩
theorem Only3.of_below {p b q : Nat} {X Y : World} (h : Below X.heap.size X Y) : Only3 p b q X Y := .of_only (.of_below h)
theorem Only3.refl (p b q : Nat) (X : World) : Only3 p b q X X := .of_below (Below.refl _ X)
theorem Only3.setCell (p b q : Nat) (X : World) (i : Nat) (v : Value) : Only3 p b q X (X.setCell ⟨q, i, none⟩ v) :=
  ⟨rfl, rfl, rfl, by simp [World.setCell], fun k _ _ _ h3 => Below.heap_setCell X ⟨q, i, none⟩ v k h3⟩
theorem Only3.drewN (p b q : Nat) (X : World) (n : Nat) : Only3 p b q X (X.drewN n) := .of_below (below_drewN' (Below.refl _ _) n)

/-- An operation: its line, the head that it read, its slot. -/
def OpAt (t : TypeId) (q : Nat) (nx h to : Int) (w : World) : Prop := w.heap[q]? = some (.cells #[.int .i64 nx, .int .u64 h, .int .i64 to] t (0, 0))
section
variable {t : TypeId} {q : Nat} {nx h to : Int} {w w' : World}
theorem OpAt.cell (o : OpAt t q nx h to w) (i : Nat) : w.cell? ⟨q, i, none⟩ = [.int .i64 nx, .int .u64 h, .int .i64 to][i]? := by
  unfold OpAt at o
  simp [World.cell?, o]
theorem OpAt.free (o : OpAt t q nx h to w) (i : Nat) : w.frozen? ⟨q, i, none⟩ = false := by
  unfold OpAt at o
  simp [World.frozen?, o]
theorem OpAt.lt (o : OpAt t q nx h to w) : q < w.heap.size := (Array.getElem?_eq_some_iff.1 o).1
theorem OpAt.same (o : OpAt t q nx h to w) (hb : w'.heap[q]? = w.heap[q]?) : OpAt t q nx h to w' := hb.trans o
theorem OpAt.below (o : OpAt t q nx h to w) (hb : Below w.heap.size w w') : OpAt t q nx h to w' := o.same (hb.block q o.lt)
theorem OpAt.set0 (o : OpAt t q nx h to w) (v : Int) : OpAt t q v h to (w.setCell ⟨q, 0, none⟩ (.int .i64 v)) := by
  have := setCell_blk o 0 (.int .i64 v)
  unfold OpAt
  simpa using this
theorem OpAt.set1 (o : OpAt t q nx h to w) (v : Int) : OpAt t q nx v to (w.setCell ⟨q, 1, none⟩ (.int .u64 v)) := by
  have := setCell_blk o 1 (.int .u64 v)
  unfold OpAt
  simpa using this
theorem OpAt.set2 (o : OpAt t q nx h to w) (v : Int) : OpAt t q nx h v (w.setCell ⟨q, 2, none⟩ (.int .i64 v)) := by
  have := setCell_blk o 2 (.int .i64 v)
  unfold OpAt
  simpa using this
theorem OpAt.ne_p {p b n : Nat} {D : DataW Unit} {st ak k a f was is : Int} {done : Bool} (o : OpAt t q nx h to w) (m : PM p b n D st ak k a f was is done w) (ht : t ≠ 90) : q ≠ p := by
  rintro rfl
  have := m.blk.symm.trans o
  simp only [Option.some.injEq, Obj.cells.injEq] at this
  exact ht this.2.1.symm
theorem OpAt.ne_b {p b n : Nat} {D : DataW Unit} {st ak k a f was is : Int} {done : Bool} (o : OpAt t q nx h to w) (m : PM p b n D st ak k a f was is done w) : q ≠ b := by
  rintro rfl
  obtain ⟨es, clock, hb, _⟩ := m.own
  have := hb.symm.trans o
  simp at this
theorem OpAt.only {p b n : Nat} {D : DataW Unit} {st ak k a f was is : Int} {done : Bool} (o : OpAt t q nx h to w) (m : PM p b n D st ak k a f was is done w) (ht : t ≠ 90) (ho : Only p b w w') : OpAt t q nx h to w' := o.same (ho.block q o.lt (o.ne_p m ht) (o.ne_b m))

end
end Go.Proofs.YtapcgikamldchaaDoor
namespace Go.Proofs.YtapcgikamldchaaDoor
open Go.RowKit Go.Maps

/-- The address of the list's head, and of a slot's link. -/
def adF : Ad := ⟨0, 0, 0, by decide, by decide, by decide⟩
def I64w (s : Int) : Prop := (Lit.int .i64 s).wf = true
def adL (s : Int) (h : I64w s) : Ad := ⟨9, s, 2, by decide, h, by decide⟩
theorem i64w_in {x : Int} (h0 : -1000000 ≤ x) (h1 : x ≤ 1000000) : I64w x := by
  unfold I64w
  simp only [Lit.wf, IntKind.min, IntKind.max, IntKind.signed, IntKind.bits]
  simp
  omega
theorem slot_in (h : Int) : -1 ≤ wSlot h ∧ wSlot h ≤ 255 := by
  have h1 := fld_nonneg h 0 16
  unfold wSlot slotS
  generalize fld h 0 16 = x at *
  split <;> omega
theorem i64w_slot (h : Int) : I64w (wSlot h) := i64w_in (by have := slot_in h; omega) (by have := slot_in h; omega)
theorem PM.val_u64 {p b n : Nat} {D : DataW Unit} {st ak k a f was is : Int} {done : Bool} {w : World} (h : PM p b n D st ak k a f was is done w) (x : Ad) : U64 (valD D x) := by
  have := (h.lookup x).2
  simp only [Lit.wf, IntKind.min, IntKind.max, IntKind.signed, IntKind.bits] at this
  simp at this
  exact ⟨by omega, by omega⟩
theorem u64w {x : Int} (h : U64 x) : (Lit.int .u64 x).wf = true := by
  obtain ⟨h0, h1⟩ := h
  simp [Lit.wf, IntKind.min, IntKind.max, IntKind.signed, IntKind.bits]
  omega
theorem p48 : (2 : Int) ^ 48 = 281474976710656 := by decide
theorem p16 : (2 : Int) ^ 16 = 65536 := by decide
theorem head_u64 (s t : Int) : U64 (headW s t) := by
  have h0 := numS_in s
  have a := Int.emod_lt_of_pos t (two_pow_pos 48)
  have b := Int.emod_nonneg t (b := 2 ^ 48) (by decide)
  unfold headW pw
  rw [p48, p16] at *
  have h1 := Int.emod_lt_of_pos (numS s) (show (0 : Int) < 65536 by decide)
  have h2 := Int.emod_nonneg (numS s) (b := 65536) (by decide)
  have h3 : (2 : Int) ^ 0 = 1 := by decide
  rw [h3]
  exact ⟨by omega, by omega⟩
theorem Lay.same3 {w w' : World} (_h : Lay w) (_hs : w.heap.size ≤ w'.heap.size) (_hb : w'.heap[0]? = w.heap[0]?) : Lay w' := Lay.all w'
theorem PM.keep3 {p b n : Nat} {D : DataW Unit} {st ak k a f was is : Int} {done : Bool} {X Y : World} (h : PM p b n D st ak k a f was is done X) (hp : Y.heap[p]? = X.heap[p]?) (hb : Y.heap[b]? = X.heap[b]?) : PM p b n D st ak k a f was is done Y := by
  obtain ⟨h1, es, clock, hm, rest⟩ := h
  exact ⟨hp.trans h1, es, clock, hb.trans hm, rest⟩
theorem PM.setQ {p b q n : Nat} {D : DataW Unit} {st ak k a f was is : Int} {done : Bool} {X : World} (h : PM p b n D st ak k a f was is done X) (hp : q ≠ p) (hb : q ≠ b) (i : Nat) (v : Value) : PM p b n D st ak k a f was is done (X.setCell ⟨q, i, none⟩ v) :=
  h.keep3 (Below.heap_setCell X ⟨q, i, none⟩ v p (Ne.symm hp)) (Below.heap_setCell X ⟨q, i, none⟩ v b (Ne.symm hb))

section
variable {t : TypeId} {p b q n : Nat} {nx h to : Int} {D : DataW Unit} {st ak k a f was is : Int} {done : Bool} {w w' : World}
end
end Go.Proofs.YtapcgikamldchaaDoor
namespace Go.Proofs.YtapcgikamldchaaDoor
open Go.RowKit Go.Maps

section
variable {t : TypeId} {p b q n : Nat} {nx h to : Int} {D : DataW Unit} {st ak k a f was is : Int} {done : Bool} {w w' : World}
theorem below_drew_n (w : World) (n : Nat) : Below w.drew.heap.size w.drew (w.drewN n) := ⟨rfl, rfl, rfl, Nat.le_refl _, fun _ _ => rfl⟩
theorem u64_0 : U64 0 := ⟨by decide, by decide⟩
/-- What a drawn region reads of an operation. -/
def OpS (q : Nat) (nx h to : Int) (W : World) : Prop := W.cell? ⟨q, 0, none⟩ = some (.int .i64 nx) ∧ W.cell? ⟨q, 1, none⟩ = some (.int .u64 h) ∧ W.cell? ⟨q, 2, none⟩ = some (.int .i64 to)
theorem OpAt.s (o : OpAt t q nx h to w) : OpS q nx h to w := ⟨by simpa using o.cell 0, by simpa using o.cell 1, by simpa using o.cell 2⟩

theorem store9 (hto : I64w to) {v : Int} (hv : (Lit.int .u64 v).wf = true) (hs0 : 0 ≤ st) (hs1 : st < 4611686018427387904) (hn : n < 4611686018427387904) (hl : LayM w) (m : PM p b n D st ak k a f was is done w) :
    Calls Tryd.prog 25 #[.pointer (some ⟨p, 0, none⟩), .agg #[.int .u8 9, .int .i64 to, .int .i64 2], .int .u64 v] w fun e w' => e = .returned (.tuple #[]) ∧ PM p b (n + 1) (storeD D (adL to hto) v) (st + 1) 2 9 to 2 (valD D (adL to hto)) (valD (storeD D (adL to hto) v) (adL to hto)) false w' ∧ Only p b w w' :=
  store_prog p b n D st ak k a f was is done (adL to hto) v hv hs0 hs1 hn w hl m
theorem tag_wrap (h : Int) : IntKind.u64.wrap (fld h 16 48 + 1) = fld h 16 48 + 1 := by
  have h1 := fld_nonneg h 16 48
  have h2 := fld_lt h 16 48
  rw [p48] at h2
  rw [IntKind.wrap_u64]
  omega
theorem tag_u64 (h : Int) : U64 (fld h 16 48 + 1) := by
  have h1 := fld_nonneg h 16 48
  have h2 := fld_lt h 16 48
  rw [p48] at h2
  exact ⟨by omega, by omega⟩
/-- What both swap the head h to, for slot s. -/
def nextW (h s : Int) : Int := headW s (fld h 16 48 + 1)
end
end Go.Proofs.YtapcgikamldchaaDoor
