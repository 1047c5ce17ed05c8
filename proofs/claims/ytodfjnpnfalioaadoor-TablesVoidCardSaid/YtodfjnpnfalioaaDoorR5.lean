/-
  The document's memory of layer 2: what Load and Store answer and leave; condition: at most 999 words, numbers of their kinds, fewer than 2^62 steps.
-/
import Derived.Test.YtodfjnpnfalioaaDoorR4
namespace Go.Proofs.YtodfjnpnfalioaaDoor
open Go.RowKit

/-- The count of steps and the last access, as they lie behind the list. -/
def rest8 (st ak k a f was is : Int) (done : Bool) : List Value := [.int .i64 st, .int .u8 ak, .int .u8 k, .int .i64 a, .int .i64 f, .int .u64 was, .int .u64 is, .bool done]
theorem R2.cell8 {B b : Nat} {l : List Wd} {v : Value} {st ak k a f was is : Int} {done : Bool} {w : World} (h : R2 B b l v (rest8 st ak k a f was is done) w) (j : Nat) : w.cell? ⟨b, j, none⟩ = (v :: rest8 st ak k a f was is done)[j]? := by
  rw [Joins.cell_of_block h.blk]
  simp
theorem R2.free8 {B b : Nat} {l : List Wd} {v : Value} {rest : List Value} {w : World} (h : R2 B b l v rest w) (j : Nat) : w.frozen? ⟨b, j, none⟩ = false := Joins.unfrozen_of_block h.blk j

/-- A store behind the list's slice, into the struct. -/
theorem R2.set {B b : Nat} {l : List Wd} {v : Value} {rest : List Value} {w : World} (h : R2 B b l v rest w) (j : Nat) (u : Value) : R2 B b l v (rest.set j u) (w.setCell ⟨b, j + 1, none⟩ u) := by
  refine ⟨?_, ⟨h.own.1, ?_⟩, h.pos⟩
  · rw [Joins.block_setCell h.blk]
    simp
  · rcases h.own.2 with hn | ⟨g, cap, cur, hv, hB, hg, r⟩
    · exact .inl hn
    · have hgb : g ≠ b := by
        rintro rfl
        have := h.blk.symm.trans hg
        simp at this
      exact .inr ⟨g, cap, cur, hv, hB, (Below.heap_setCell w _ _ g (by simpa using hgb)).trans hg, r⟩
/-- The count and the last access, stored anew. -/
def eight (w : World) (b : Nat) (st ak k a f was is : Int) (done : Bool) : World :=
  (((((((w.setCell ⟨b, 1, none⟩ (.int .i64 st)).setCell ⟨b, 2, none⟩ (.int .u8 ak)).setCell ⟨b, 3, none⟩ (.int .u8 k)).setCell ⟨b, 4, none⟩ (.int .i64 a)).setCell ⟨b, 5, none⟩ (.int .i64 f)).setCell ⟨b, 6, none⟩ (.int .u64 was)).setCell ⟨b, 7, none⟩ (.int .u64 is)).setCell ⟨b, 8, none⟩ (.bool done)
theorem R2.eight {B b : Nat} {l : List Wd} {v : Value} {st' ak' k' a' f' was' is' : Int} {done' : Bool} {w : World} (h : R2 B b l v (rest8 st' ak' k' a' f' was' is' done') w) (st ak k a f was is : Int) (done : Bool) :
    R2 B b l v (rest8 st ak k a f was is done) (eight w b st ak k a f was is done) :=
  (((((((h.set 0 (.int .i64 st)).set 1 (.int .u8 ak)).set 2 (.int .u8 k)).set 3 (.int .i64 a)).set 4 (.int .i64 f)).set 5 (.int .u64 was)).set 6 (.int .u64 is)).set 7 (.bool done)
theorem below_eight {B b : Nat} {u w : World} (h : Below B u w) (hBb : B ≤ b) (st ak k a f was is : Int) (done : Bool) : Below B u (eight w b st ak k a f was is done) :=
  (((((((h.setCell hBb _).setCell hBb _).setCell hBb _).setCell hBb _).setCell hBb _).setCell hBb _).setCell hBb _).setCell hBb _

/-- What a call on the document's memory leaves alone: all but its struct, the row of its list, and what it makes. -/
structure Sp (B b : Nat) (v : Value) (X Y : World) : Prop where
  low : Below B X Y
  far : ∀ q, q < X.heap.size → q ≠ b → v.ownBlock ≠ some q → Y.heap[q]? = X.heap[q]?
  le : B ≤ X.heap.size
theorem Sp.of_below {B b : Nat} {v : Value} {X Y : World} (h : Below X.heap.size X Y) (hB : B ≤ X.heap.size) : Sp B b v X Y := ⟨h.mono hB, fun q hq _ _ => h.block q hq, hB⟩
theorem Sp.put {B b : Nat} {v : Value} {X Y Z : World} (h : Below X.heap.size X Y) (hB : B ≤ X.heap.size) (h2 : Below B Y Z) (hap : ∀ q, q < Y.heap.size → q ≠ b → v.ownBlock ≠ some q → Z.heap[q]? = Y.heap[q]?) : Sp B b v X Z :=
  ⟨(h.mono hB).trans h2, fun q hq h1 h3 => (hap q (Nat.lt_of_lt_of_le hq h.size) h1 h3).trans (h.block q hq), hB⟩
theorem Sp.drew {B b : Nat} {v : Value} {X Y : World} (h : Sp B b v X Y) : Sp B b v X Y.drew := ⟨h.low.drew, h.far, h.le⟩
theorem Sp.next {B b : Nat} {v : Value} {X Y Z : World} (h : Sp B b v X Y) (hb : Below Y.heap.size Y Z) : Sp B b v X Z :=
  ⟨h.low.trans (hb.mono (Nat.le_trans h.le h.low.size)), fun q hq h1 h2 => (hb.block q (Nat.lt_of_lt_of_le hq h.low.size)).trans (h.far q hq h1 h2), h.le⟩
theorem Sp.setC {B b : Nat} {v : Value} {X Y : World} (h : Sp B b v X Y) (hBb : B ≤ b) (j : Nat) (u : Value) : Sp B b v X (Y.setCell ⟨b, j, none⟩ u) :=
  ⟨h.low.setCell (p := ⟨b, j, none⟩) hBb u, fun q hq h1 h2 => (Below.heap_setCell Y _ _ q (by simpa using h1)).trans (h.far q hq h1 h2), h.le⟩
theorem Sp.eight {B b : Nat} {v : Value} {u w : World} (h : Sp B b v u w) (hBb : B ≤ b) (st ak k a f was is : Int) (done : Bool) : Sp B b v u (eight w b st ak k a f was is done) :=
  (((((((h.setC hBb 1 _).setC hBb 2 _).setC hBb 3 _).setC hBb 4 _).setC hBb 5 _).setC hBb 6 _).setC hBb 7 _).setC hBb 8 _

end Go.Proofs.YtodfjnpnfalioaaDoor
