/-
  Blocks known whole, what is left alone but for some of them, addresses of slots' and segments' words; the document's helpers of layer 8; condition: numbers of their kinds.
-/
import Derived.Test.YtapcgikamldchaaDoorY1
namespace Go.Proofs.YtapcgikamldchaaDoor
open Go.RowKit Go.Maps

/-- A block of which all cells are known. -/
def Bk (e : Nat) (t : TypeId) (cs : List Value) (w : World) : Prop := w.heap[e]? = some (.cells cs.toArray t (0, 0))
/-- What is left alone: all but both memories and some blocks. -/
structure FxL (B p b : Nat) (E : List Nat) (X Y : World) : Prop where
  low : Below B X Y
  far : ∀ x cs t fr, X.heap[x]? = some (.cells cs t fr) → t ≠ 106 → x ≠ p → x ≠ b → x ∉ E → Y.heap[x]? = some (.cells cs t fr)
section
variable {B p m b e : Nat} {E : List Nat} {t : TypeId} {cs : List Value} {w w' X Y Z : World}
theorem Bk.cell (k : Bk e t cs w) (i : Nat) : w.cell? ⟨e, i, none⟩ = cs[i]? := by
  unfold Bk at k
  simp [World.cell?, k]
theorem Bk.free (k : Bk e t cs w) (i : Nat) : w.frozen? ⟨e, i, none⟩ = false := by
  unfold Bk at k
  simp [World.frozen?, k]
theorem Bk.lt (k : Bk e t cs w) : e < w.heap.size := (Array.getElem?_eq_some_iff.1 k).1
theorem Bk.same (k : Bk e t cs w) (hb : w'.heap[e]? = w.heap[e]?) : Bk e t cs w' := hb.trans k
theorem Bk.below (k : Bk e t cs w) (hb : Below w.heap.size w w') : Bk e t cs w' := k.same (hb.block e k.lt)
theorem Bk.set (k : Bk e t cs w) (i : Nat) (v : Value) {cs' : List Value} (h : cs' = cs.set i v) : Bk e t cs' (w.setCell ⟨e, i, none⟩ v) := by
  subst h
  have := setCell_blk k i v
  unfold Bk
  simpa using this
theorem Bk.new (w : World) (cs : List Value) (t : TypeId) : Bk w.heap.size t cs (w.alloc (.cells cs.toArray t)) := World.alloc_heap_new _ _
theorem Bk.fr (k : Bk e t cs w) (hf : Fr p m b w w') (ht : t ≠ 106) (hp : e ≠ p) (hb : e ≠ b) : Bk e t cs w' := hf.cell k ht hp hb
theorem FxL.trans (h : FxL B p b E X Y) (k : FxL B p b E Y Z) : FxL B p b E X Z := ⟨h.low.trans k.low, fun x cs t fr hx ht h1 h2 h3 => k.far x cs t fr (h.far x cs t fr hx ht h1 h2 h3) ht h1 h2 h3⟩
theorem FxL.of_fr (h : Fr p m b X Y) (hB : B ≤ m) : FxL B p b E X Y := ⟨h.low.mono hB, fun x cs t fr hx ht h1 h2 _ => h.far x cs t fr hx ht h1 h2⟩
theorem FxL.of_below (h : Below X.heap.size X Y) (hB : B ≤ X.heap.size) : FxL B p b E X Y := ⟨h.mono hB, fun _ _ _ _ hx _ _ _ _ => (h.block _ (Array.getElem?_eq_some_iff.1 hx).1).trans hx⟩
theorem FxL.set (X : World) (hB : B ≤ e) (he : e ∈ E) (i : Nat) (v : Value) : FxL B p b E X (X.setCell ⟨e, i, none⟩ v) := ⟨(Below.refl B X).setCell (p := ⟨e, i, none⟩) hB v, fun x _ _ _ hx _ _ _ h3 => (Below.heap_setCell X ⟨e, i, none⟩ v x (fun k => h3 (by rw [show x = e from k]; exact he))).trans hx⟩
theorem FxL.of_fx {q : Nat} (h : Fx B p b q e X Y) (hq : q ∈ E) (he : e ∈ E) : FxL B p b E X Y := ⟨h.low, fun x cs t fr hx ht h1 h2 h3 => h.far x cs t fr hx ht h1 h2 (fun k => h3 (k ▸ hq)) (fun k => h3 (k ▸ he))⟩
theorem FxL.more {E' : List Nat} (h : FxL B p b E X Y) (hE : ∀ x ∈ E, x ∈ E') : FxL B p b E' X Y := ⟨h.low, fun x cs t fr hx ht h1 h2 h3 => h.far x cs t fr hx ht h1 h2 (fun k => h3 (hE x k))⟩
theorem FxL.lay (_h : FxL B p b E X Y) (_hB : 0 < B) (_hl : Lay X) : Lay Y := Lay.all Y
theorem FxL.laym (h : FxL B p b E X Y) (hB : 0 < B) (hl : LayM X) : LayM Y := hl.same h.low.size (h.low.block 0 (by omega))
end
/-- A slot's word, a segment's word of a slot, the era. -/
def ad9 (s : Int) (h : I64w s) (f : Int) (hf : (Lit.int .i64 f).wf = true) : Ad := ⟨9, s, f, by decide, h, hf⟩
def ad6 (g : Int) (h : I64w g) (f : Int) (hf : (Lit.int .i64 f).wf = true) : Ad := ⟨6, g, f, by decide, h, hf⟩
def adE : Ad := ⟨2, 0, 0, by decide, by decide, by decide⟩
end Go.Proofs.YtapcgikamldchaaDoor
