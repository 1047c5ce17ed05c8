/-
  What a loop's body that appends leaves alone, and what an iterator that has captured bytes keeps of its own; no condition.
-/
import Derived.Test.YtlgfdemggkiojaaDoorV0
import Derived.Test.YtlgfdemggkiojaaDoorR7
import Derived.RangeFuncBox
namespace Go.Proofs.YtlgfdemggkiojaaDoor
open Go.RowKit

/-- The block of the row whose slice lies in block B. -/
def RowOf (B : Nat) (W : World) (k : Nat) : Prop := ∃ v, W.cell? ⟨B, 0, none⟩ = some v ∧ v.ownBlock = some k
theorem RowOf.same {B k : Nat} {X Y : World} (h : RowOf B Y k) (hb : Y.heap[B]? = X.heap[B]?) : RowOf B X k := by
  obtain ⟨v, hv, hk⟩ := h
  exact ⟨v, by rw [← World.cell?_of_block (a := ⟨B, 0, none⟩) hb]; exact hv, hk⟩
/-- All cells but those of block B and of its row are left alone; the row stays where it is, or is new. -/
structure Kept (B : Nat) (X Y : World) : Prop where
  size : X.heap.size ≤ Y.heap.size
  same : B < X.heap.size → ∀ (k : Nat) (o : Obj), X.heap[k]? = some o → o.isCells = true → k ≠ B → ¬ RowOf B X k → Y.heap[k]? = some o
  row : B < X.heap.size → ∀ k, RowOf B Y k → RowOf B X k ∨ X.heap.size ≤ k
theorem Kept.trans {B : Nat} {X Y Z : World} (h : Kept B X Y) (k : Kept B Y Z) : Kept B X Z := by
  refine ⟨Nat.le_trans h.size k.size, fun hB q o ho hc hq hr => ?_, fun hB q hq => ?_⟩
  · refine k.same (Nat.lt_of_lt_of_le hB h.size) q o (h.same hB q o ho hc hq hr) hc hq fun hy => ?_
    rcases h.row hB q hy with hx | hx
    · exact hr hx
    · have := (Array.getElem?_eq_some_iff.1 ho).1
      omega
  · rcases k.row (Nat.lt_of_lt_of_le hB h.size) q hq with hy | hy
    · exact h.row hB q hy
    · exact .inr (Nat.le_trans h.size hy)
theorem Kept.of_grown {B : Nat} {X Y : World} (h : Grown X Y) : Kept B X Y :=
  ⟨h.size, fun _ k _ ho _ _ _ => (h.block k (Array.getElem?_eq_some_iff.1 ho).1).trans ho, fun hB _ hk => .inl (hk.same (h.block B hB))⟩
theorem Kept.loop {B l : Nat} (W : World) (r r' : Loop) (h : W.heap[l]? = some (.loop r)) : Kept B W (W.putObj l (.loop r')) := by
  have hl := (Array.getElem?_eq_some_iff.1 h).1
  refine ⟨by simp, fun _ k o ho hc _ _ => ?_, fun _ k hk => ?_⟩
  · refine (World.putObj_heap_other fun e => ?_).trans ho
    subst e
    rw [h] at ho
    cases ho
    cases hc
  · by_cases e : B = l
    · subst e
      obtain ⟨v, hv, _⟩ := hk
      have hs : (W.putObj B (.loop r')).heap[B]? = some (.loop r') := World.putObj_heap_same hl
      simp [World.cell?, hs] at hv
    · exact .inl (hk.same (World.putObj_heap_other e))

/-- What the iterator keeps of its own: what lies below B as it lay; what it captured; its variable, in block q. -/
structure Core (w0 : World) (B bx q : Nat) (sv : Value) (W : World) : Prop where
  hB : B < W.heap.size
  hBx : B < bx
  hbq : bx < q
  low : ∀ (k : Nat) (o : Obj), k < B → w0.heap[k]? = some o → o.isCells = true → W.heap[k]? = some o
  box : W.heap[bx]? = some (.cells #[sv] 22 (0, 0))
  cur : ∃ c : Cm, W.heap[q]? = some (.cells (vC c).toArray 34 (0, 0))
  rows : ∀ k, RowOf B W k → B < k ∧ k ≠ bx ∧ k ≠ q
section
variable {w0 X Y : World} {B bx q : Nat} {sv : Value}
theorem Core.grown (h : Core w0 B bx q sv X) (hg : Grown X Y) : Core w0 B bx q sv Y := by
  obtain ⟨c, hc⟩ := h.cur
  have old : ∀ {k : Nat} {o : Obj}, X.heap[k]? = some o → Y.heap[k]? = some o := fun {k o} ho => (hg.block k (Array.getElem?_eq_some_iff.1 ho).1).trans ho
  exact ⟨Nat.lt_of_lt_of_le h.hB hg.size, h.hBx, h.hbq, fun k o hk ho hc => old (h.low k o hk ho hc), old h.box, ⟨c, old hc⟩, fun k hk => h.rows k (hk.same (hg.block B h.hB))⟩
theorem Core.kept (h : Core w0 B bx q sv X) (hk : Kept B X Y) : Core w0 B bx q sv Y := by
  obtain ⟨c, hc⟩ := h.cur
  have hbxl := (Array.getElem?_eq_some_iff.1 h.box).1
  have hql := (Array.getElem?_eq_some_iff.1 hc).1
  have hlt := h.hBx
  have hlt2 := h.hbq
  refine ⟨Nat.lt_of_lt_of_le h.hB hk.size, hlt, hlt2, fun k o hkB ho hoc => ?_, ?_, ⟨c, ?_⟩, fun k hr => ?_⟩
  · exact hk.same h.hB k o (h.low k o hkB ho hoc) hoc (by omega) fun hr => by have := (h.rows k hr).1; omega
  · exact hk.same h.hB bx _ h.box rfl (by omega) fun hr => (h.rows bx hr).2.1 rfl
  · exact hk.same h.hB q _ hc rfl (by omega) fun hr => (h.rows q hr).2.2 rfl
  · rcases hk.row h.hB k hr with hx | hx
    · exact h.rows k hx
    · have := h.hB
      omega
theorem Core.var (h : Core w0 B bx q sv X) (hk : Kept B X Y) {o : Obj} (ho : X.heap[q]? = some o) : Y.heap[q]? = some o := by
  obtain ⟨c, hc⟩ := h.cur
  have hlt := h.hBx
  have hlt2 := h.hbq
  rw [hc] at ho
  cases ho
  exact hk.same h.hB q _ hc rfl (by omega) fun hr => (h.rows q hr).2.2 rfl
theorem Core.put (h : Core w0 B bx q sv X) {c : Cm} (hp : Put X Y q 34 (vC c).toArray) : Core w0 B bx q sv Y := by
  have hlt := h.hBx
  have hlt2 := h.hbq
  refine ⟨by rw [hp.size]; exact h.hB, hlt, hlt2, fun k o hkB ho hoc => (hp.far k (by omega)).trans (h.low k o hkB ho hoc), (hp.far bx (by omega)).trans h.box, ⟨c, hp.at_⟩, fun k hr => h.rows k (hr.same (hp.far B (by omega)))⟩
theorem Core.lay (h : Core w0 B bx q sv X) (hB0 : 0 < B) (hl : Lay w0) : Lay X := by
  have hc0 := hl.2 0 (by omega)
  obtain ⟨o, ho, hoc⟩ := cells_of_cell hc0
  have hx := h.low 0 o hB0 ho hoc
  refine ⟨(Array.getElem?_eq_some_iff.1 hx).1, fun k hk => ?_⟩
  exact (World.cell?_of_block (a := ⟨0, k, none⟩) (hx.trans ho.symm)).trans (hl.2 k hk)
theorem Core.sl (h : Core w0 B bx q sv X) {A : Option Addr} {l : List UInt8} (hs : Sl w0 A l) (hA : l ≠ [] → ∀ a, A = some a → a.block < B) : Sl X A l := fun hl => by
  obtain ⟨g, off, rfl, hb⟩ := hs hl
  refine ⟨g, off, rfl, fun i hi => ?_⟩
  obtain ⟨o, ho, hoc⟩ := cells_of_cell (hb i hi)
  exact (World.cell?_of_block (a := ⟨g, off + i, none⟩) ((h.low g o (hA hl _ rfl) ho hoc).trans ho.symm)).trans (hb i hi)
end
/-- The command at a place, or none. -/
def curC (l : List UInt8) (p : Nat) : Cm := if p < (l.take most).length then (dec ((l.take most).drop p)).shift p else bareC 0
theorem curC_in {l : List UInt8} {p : Nat} (h : p < (l.take most).length) : curC l p = (dec ((l.take most).drop p)).shift p := if_pos h
theorem next_any (A : Option Addr) (cap : Nat) (l : List UInt8) (p : Nat) (w : World) (hl : Lay w) (hs : Sl w A l) (hn : l.length ≤ cap) (hc : cap ≤ 9223372036854775807) :
    Calls Tryd.prog 12 #[.slice A l.length cap, .int .i64 p] w fun e w' => e = .returned (.tuple #[(curC l p).v, .bool (decide (p < (l.take most).length))]) ∧ Below w.heap.size w w' := by
  by_cases h : p < (l.take most).length
  · rw [curC_in h, decide_eq_true h]
    exact next_some A cap l p _ w hl hs hn hc (nextC_in l p h)
  · rw [show curC l p = bareC 0 from if_neg h, decide_eq_false h]
    exact next_none A cap l p w hn hc (nextC_out l p h)
/-- Where the iterator is, between two rounds. -/
structure It (w0 : World) (B bx q : Nat) (sv : Value) (l : List UInt8) (J : List Cm → World → Prop) (pre : List Cm) (p : Nat) (ok : Bool) (W : World) : Prop where
  core : Core w0 B bx q sv W
  is : ok = decide (p < (l.take most).length)
  cur : W.heap[q]? = some (.cells (vC (curC l p)).toArray 34 (0, 0))
  le : p ≤ (l.take most).length
  eq : parseC l = pre ++ parseFrom p ((l.take most).drop p)
  j : J pre W
/-- How far the variable's command is from the end. -/
def leftOf (l : List UInt8) (q : Nat) (ok : Value) (W : World) : Nat := match ok with
  | .bool true => (match W.cell? ⟨q, 1, none⟩ with | some (.int _ n) => (l.take most).length + 1 - n.toNat | _ => 0)
  | _ => 0
theorem leftOf_at {l : List UInt8} {q p : Nat} {W : World} (h : W.heap[q]? = some (.cells (vC (curC l p)).toArray 34 (0, 0))) (hp : p < (l.take most).length) : leftOf l q (.bool true) W = (l.take most).length + 1 - p := by
  have hf := dec_fr ((l.take most).drop p)
  have hc : W.cell? ⟨q, 1, none⟩ = some (.int .i64 (curC l p).fr) := by
    rw [cell_of_row _ _ _ _ _ _ h]
    rfl
  have hfr : (curC l p).fr = (p : Int) := by
    rw [curC_in hp]
    show (dec ((l.take most).drop p)).fr + (p : Int) = p
    rw [hf]
    omega
  unfold leftOf
  rw [hc, hfr]
  simp
theorem curC_to {l : List UInt8} {p : Nat} (hp : p < (l.take most).length) : (curC l p).to = ((p + dlen ((l.take most).drop p) : Nat) : Int) := by
  rw [curC_in hp]
  exact shift_to _ _
end Go.Proofs.YtlgfdemggkiojaaDoor
