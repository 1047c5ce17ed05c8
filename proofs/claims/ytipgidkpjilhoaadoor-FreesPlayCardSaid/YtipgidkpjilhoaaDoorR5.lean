/-
  The document's memory of layer 2: what Load and Store answer and leave; condition: at most 999 words, numbers of their kinds, fewer than 2^62 steps.
-/
import Derived.Test.YtipgidkpjilhoaaDoorR4
namespace Go.Proofs.YtipgidkpjilhoaaDoor
open Go.RowKit

/-- The count of steps and the last access, as they lie behind the list. -/
def rest8 (st ak k a f was is : Int) (done : Bool) : List Value := [.int .i64 st, .int .u8 ak, .int .u8 k, .int .i64 a, .int .i64 f, .int .u64 was, .int .u64 is, .bool done]
theorem R2.cell8 {B b : Nat} {l : List Wd} {v : Value} {st ak k a f was is : Int} {done : Bool} {w : World} (h : R2 B b l v (rest8 st ak k a f was is done) w) (j : Nat) : w.cell? ⟨b, j, none⟩ = (v :: rest8 st ak k a f was is done)[j]? := by
  rw [Joins.cell_of_block h.blk]
  simp
theorem R2.free8 {B b : Nat} {l : List Wd} {v : Value} {rest : List Value} {w : World} (h : R2 B b l v rest w) (j : Nat) : w.frozen? ⟨b, j, none⟩ = false := Joins.unfrozen_of_block h.blk j

/-- A store behind the list's slice, into the struct. -/
theorem R2.set {B b : Nat} {l : List Wd} {v : Value} {rest : List Value} {w : World} (h : R2 B b l v rest w) (j : Nat) (u : Value) : R2 B b l v (rest.set j u) (w.setCell ⟨b, j + 1, none⟩ u) := by
  refine ⟨?_, ⟨h.own.1, ?_⟩, h.pos⟩
  · rw [Joins.block_setCell h.blk]
    simp
  · rcases h.own.2 with hn | ⟨g, cap, cur, hv, hB, hg, r⟩
    · exact .inl hn
    · have hgb : g ≠ b := by
        rintro rfl
        have := h.blk.symm.trans hg
        simp at this
      exact .inr ⟨g, cap, cur, hv, hB, (Below.heap_setCell w _ _ g (by simpa using hgb)).trans hg, r⟩
/-- The count and the last access, stored anew. -/
def eight (w : World) (b : Nat) (st ak k a f was is : Int) (done : Bool) : World :=
  (((((((w.setCell ⟨b, 1, none⟩ (.int .i64 st)).setCell ⟨b, 2, none⟩ (.int .u8 ak)).setCell ⟨b, 3, none⟩ (.int .u8 k)).setCell ⟨b, 4, none⟩ (.int .i64 a)).setCell ⟨b, 5, none⟩ (.int .i64 f)).setCell ⟨b, 6, none⟩ (.int .u64 was)).setCell ⟨b, 7, none⟩ (.int .u64 is)).setCell ⟨b, 8, none⟩ (.bool done)
theorem R2.eight {B b : Nat} {l : List Wd} {v : Value} {st' ak' k' a' f' was' is' : Int} {done' : Bool} {w : World} (h : R2 B b l v (rest8 st' ak' k' a' f' was' is' done') w) (st ak k a f was is : Int) (done : Bool) :
    R2 B b l v (rest8 st ak k a f was is done) (eight w b st ak k a f was is done) :=
  (((((((h.set 0 (.int .i64 st)).set 1 (.int .u8 ak)).set 2 (.int .u8 k)).set 3 (.int .i64 a)).set 4 (.int .i64 f)).set 5 (.int .u64 was)).set 6 (.int .u64 is)).set 7 (.bool done)
theorem below_eight {B b : Nat} {u w : World} (h : Below B u w) (hBb : B ≤ b) (st ak k a f was is : Int) (done : Bool) : Below B u (eight w b st ak k a f was is done) :=
  (((((((h.setCell hBb _).setCell hBb _).setCell hBb _).setCell hBb _).setCell hBb _).setCell hBb _).setCell hBb _).setCell hBb _

/-- What a call on the document's memory leaves alone: all but its struct, the row of its list, and what it makes. -/
structure Sp (B b : Nat) (v : Value) (X Y : World) : Prop where
  low : Below B X Y
  far : ∀ q, q < X.heap.size → q ≠ b → v.ownBlock ≠ some q → Y.heap[q]? = X.heap[q]?
  le : B ≤ X.heap.size
theorem Sp.of_below {B b : Nat} {v : Value} {X Y : World} (h : Below X.heap.size X Y) (hB : B ≤ X.heap.size) : Sp B b v X Y := ⟨h.mono hB, fun q hq _ _ => h.block q hq, hB⟩
theorem Sp.put {B b : Nat} {v : Value} {X Y Z : World} (h : Below X.heap.size X Y) (hB : B ≤ X.heap.size) (h2 : Below B Y Z) (hap : ∀ q, q < Y.heap.size → q ≠ b → v.ownBlock ≠ some q → Z.heap[q]? = Y.heap[q]?) : Sp B b v X Z :=
  ⟨(h.mono hB).trans h2, fun q hq h1 h3 => (hap q (Nat.lt_of_lt_of_le hq h.size) h1 h3).trans (h.block q hq), hB⟩
theorem Sp.drew {B b : Nat} {v : Value} {X Y : World} (h : Sp B b v X Y) : Sp B b v X Y.drew := ⟨h.low.drew, h.far, h.le⟩
theorem Sp.next {B b : Nat} {v : Value} {X Y Z : World} (h : Sp B b v X Y) (hb : Below Y.heap.size Y Z) : Sp B b v X Z :=
  ⟨h.low.trans (hb.mono (Nat.le_trans h.le h.low.size)), fun q hq h1 h2 => (hb.block q (Nat.lt_of_lt_of_le hq h.low.size)).trans (h.far q hq h1 h2), h.le⟩
theorem Sp.setC {B b : Nat} {v : Value} {X Y : World} (h : Sp B b v X Y) (hBb : B ≤ b) (j : Nat) (u : Value) : Sp B b v X (Y.setCell ⟨b, j, none⟩ u) :=
  ⟨h.low.setCell (p := ⟨b, j, none⟩) hBb u, fun q hq h1 h2 => (Below.heap_setCell Y _ _ q (by simpa using h1)).trans (h.far q hq h1 h2), h.le⟩
theorem Sp.eight {B b : Nat} {v : Value} {u w : World} (h : Sp B b v u w) (hBb : B ≤ b) (st ak k a f was is : Int) (done : Bool) : Sp B b v u (eight w b st ak k a f was is done) :=
  (((((((h.setC hBb 1 _).setC hBb 2 _).setC hBb 3 _).setC hBb 4 _).setC hBb 5 _).setC hBb 6 _).setC hBb 7 _).setC hBb 8 _

set_option maxHeartbeats 2000000 in
theorem load_any (B b : Nat) (l : List Wd) (v : Value) (st ak k' a' f' was is : Int) (done : Bool) (k a f : Int) (w : World) (h : R2 B b l v (rest8 st ak k' a' f' was is done) w) (hn : l.length ≤ 1000) (hBb : B ≤ b) (hBw : B ≤ w.heap.size) (hs0 : 0 ≤ st) (hs1 : st < 4611686018427387904) :
    Calls Tryd.prog 33 #[.pointer (some ⟨b, 0, none⟩), .agg #[.int .u8 k, .int .i64 a, .int .i64 f]] w fun e w' => e = .returned (.int .u64 (look l k a f)) ∧ R2 B b l v (rest8 (st + 1) 1 k a f (look l k a f) (look l k a f) false) w' ∧ Sp B b v w w' := by
  have hbb : Below w.heap.size w (w.alloc (.cells #[.int .u8 k, .int .i64 a, .int .i64 f] 33)) := (Below.refl _ _).alloc (Nat.le_refl _) _
  have e0 : (w.alloc (.cells #[.int .u8 k, .int .i64 a, .int .i64 f] 33)).cell? ⟨w.heap.size, 0, none⟩ = some (.int .u8 k) := by simp [go_sem]
  have e1 : (w.alloc (.cells #[.int .u8 k, .int .i64 a, .int .i64 f] 33)).cell? ⟨w.heap.size, 1, none⟩ = some (.int .i64 a) := by simp [go_sem]
  have e2 : (w.alloc (.cells #[.int .u8 k, .int .i64 a, .int .i64 f] 33)).cell? ⟨w.heap.size, 2, none⟩ = some (.int .i64 f) := by simp [go_sem]
  have hs : w.heap.size < (w.alloc (.cells #[.int .u8 k, .int .i64 a, .int .i64 f] 33)).heap.size := by simp
  have hbw : b ≠ w.heap.size := by have := h.size; omega
  have HR := Lib.hid (h.below hbb)
  have HB := Lib.hid hbb
  clear hbb h
  go_enter Tryd.func33, Tryd.ntmps33
  go_wp2_with fail
  revert e0 e1 e2 hs HR HB
  generalize w.alloc (.cells #[.int .u8 k, .int .i64 a, .int .i64 f] 33) = w0
  intro e0 e1 e2 hs HR HB
  refine (word_any B b l v _ k a f _ HR.out hn).mono ?_
  rintro e w1 ⟨rfl, hb1⟩
  have d0 := (hb1.cell (p := ⟨w.heap.size, 0, none⟩) hs).trans e0
  have d1 := (hb1.cell (p := ⟨w.heap.size, 1, none⟩) hs).trans e1
  have d2 := (hb1.cell (p := ⟨w.heap.size, 2, none⟩) hs).trans e2
  have HR1 := Lib.hid (HR.out.below hb1)
  have HB1 := Lib.hid (HB.out.trans (hb1.mono HB.out.size))
  have r1 : w1.cell? ⟨b, 1, none⟩ = some (.int .i64 st) := HR1.out.cell8 1
  have r2 : w1.cell? ⟨b, 2, none⟩ = some (.int .u8 ak) := HR1.out.cell8 2
  have r3 : w1.cell? ⟨b, 3, none⟩ = some (.int .u8 k') := HR1.out.cell8 3
  have r4 : w1.cell? ⟨b, 4, none⟩ = some (.int .i64 a') := HR1.out.cell8 4
  have r5 : w1.cell? ⟨b, 5, none⟩ = some (.int .i64 f') := HR1.out.cell8 5
  have r6 : w1.cell? ⟨b, 6, none⟩ = some (.int .u64 was) := HR1.out.cell8 6
  have r7 : w1.cell? ⟨b, 7, none⟩ = some (.int .u64 is) := HR1.out.cell8 7
  have r8 : w1.cell? ⟨b, 8, none⟩ = some (.bool done) := HR1.out.cell8 8
  have z1 := HR1.out.free8 1
  have z2 := HR1.out.free8 2
  have z3 := HR1.out.free8 3
  have z4 := HR1.out.free8 4
  have z5 := HR1.out.free8 5
  have z6 := HR1.out.free8 6
  have z7 := HR1.out.free8 7
  have z8 := HR1.out.free8 8
  clear hb1 e0 e1 e2
  go_wp2_with fail
  go_ret
  exact ⟨rfl, HR1.out.eight (st + 1) 1 k a f (look l k a f) (look l k a f) false, (Sp.of_below HB1.out hBw).eight hBb (st + 1) 1 k a f (look l k a f) (look l k a f) false⟩
end Go.Proofs.YtipgidkpjilhoaaDoor
