/-
  The document's operation on the list of free slots: how it lies, new ones, what each line does; condition: both memories lie as they say, the operation as it says.
  The document's operation on the list of free slots: what each of its lines does; condition: both memories lie as they say, the operation as it says.
-/
import Derived.Test.YtapcgikamldchaaDoorD6
import Derived.Test.YtapcgikamldchaaDoorF1
import Derived.Test.YtapcgikamldchaaDoorW3
import Derived.StillTailTactics
import Derived.Outline
namespace Go.Proofs.YtapcgikamldchaaDoor
open Go.RowKit Go.Maps

/-- What a step of an operation leaves alone: all but both memories, the operation, and the document's. -/
structure Fx (B p b q e : Nat) (X Y : World) : Prop where
  low : Below B X Y
  far : ∀ x cs t fr, X.heap[x]? = some (.cells cs t fr) → t ≠ 106 → x ≠ p → x ≠ b → x ≠ q → x ≠ e → Y.heap[x]? = some (.cells cs t fr)
section
variable {B p m b q e : Nat} {X Y Z : World}
theorem Fx.trans (h : Fx B p b q e X Y) (k : Fx B p b q e Y Z) : Fx B p b q e X Z := ⟨h.low.trans k.low, fun x cs t fr hx ht h1 h2 h3 h4 => k.far x cs t fr (h.far x cs t fr hx ht h1 h2 h3 h4) ht h1 h2 h3 h4⟩
theorem Fx.of_fr (h : Fr p m b X Y) (hB : B ≤ m) : Fx B p b q e X Y := ⟨h.low.mono hB, fun x cs t fr hx ht h1 h2 _ _ => h.far x cs t fr hx ht h1 h2⟩
theorem Fx.of_below (h : Below X.heap.size X Y) (hB : B ≤ X.heap.size) : Fx B p b q e X Y := ⟨h.mono hB, fun _ _ _ _ hx _ _ _ _ _ => (h.block _ (Array.getElem?_eq_some_iff.1 hx).1).trans hx⟩
theorem Fx.setE (X : World) (hB : B ≤ e) (i : Nat) (v : Value) : Fx B p b q e X (X.setCell ⟨e, i, none⟩ v) := ⟨(Below.refl B X).setCell (p := ⟨e, i, none⟩) hB v, fun x _ _ _ hx _ _ _ _ h4 => (Below.heap_setCell X ⟨e, i, none⟩ v x h4).trans hx⟩
theorem Fx.setQ (X : World) (hB : B ≤ q) (i : Nat) (v : Value) : Fx B p b q e X (X.setCell ⟨q, i, none⟩ v) := ⟨(Below.refl B X).setCell (p := ⟨q, i, none⟩) hB v, fun x _ _ _ hx _ _ _ h3 _ => (Below.heap_setCell X ⟨q, i, none⟩ v x h3).trans hx⟩
theorem Fx.lay (_h : Fx B p b q e X Y) (_hB : 0 < B) (_hl : Lay X) : Lay Y := Lay.all Y
theorem Fx.laym (h : Fx B p b q e X Y) (hB : 0 < B) (hl : LayM X) : LayM Y := hl.same h.low.size (h.low.block 0 (by omega))
end
section
variable {B p m b n q e : Nat} {psh got : Bool} {sl ln h nn : Int} {D : DataW Unit} {s r : Acc8} {L : List (Ad × Int)} {w w' : World}
/-- Both memories stand while another block turns. -/
theorem Pr.setX {x : Nat} {cs : Array Value} {t : TypeId} (h : Pr p m b n D s L r w) (hX : w.heap[x]? = some (.cells cs t (0, 0))) (ht : t ≠ 106) (hp : x ≠ p) (hb : x ≠ b) (j : Nat) (u : Value) : Pr p m b n D s L r (w.setCell ⟨x, j, none⟩ u) := by
  have far : ∀ z, z ≠ x → (w.setCell ⟨x, j, none⟩ u).heap[z]? = w.heap[z]? := fun z hz => Below.heap_setCell w _ _ z (by simpa using hz)
  obtain ⟨es, c, hm⟩ := h.prog.map_at
  obtain ⟨v, hr⟩ := h.ref
  refine ⟨h.prog.keep (far p (Ne.symm hp)) (far m fun e => ?_), ⟨v, (far b (Ne.symm hb)).trans hr.blk, ⟨hr.own.1, ?_⟩, hr.pos⟩, h.mp, h.pb⟩
  · subst e; rw [hX] at hm; cases hm
  · rcases hr.own.2 with hn | ⟨g, cap, cur, hv, hB, hg, rest⟩
    · exact .inl hn
    · refine .inr ⟨g, cap, cur, hv, hB, (far g fun e => ?_).trans hg, rest⟩
      subst e
      rw [hX] at hg
      injection hg with hg
      injection hg with _ h3
      exact ht h3
theorem Pr.val_u64 (h : Pr p m b n D s L r w) (hr : Rel D L) (x : Ad) : U64 (vals L x) := by
  rw [← hr.val]
  exact h.prog.val_u64 x

theorem load_rF (h : Pr p m b n D s L r w) (hL : L.length ≤ 999) (h0 : 0 ≤ r.st) (h1 : r.st < 1000000) :
    Calls Tryd.prog 30 #[.pointer (some ⟨b, 0, none⟩), .agg #[.int .u8 0, .int .i64 0, .int .i64 0]] w fun ee w' => ee = .returned (.int .u64 (vals L adF)) ∧ Pr p m b n D s L (r.touch 1 adF (vals L adF) (vals L adF) false) w' ∧ Fr p m b w w' := load_r adF h hL h0 h1
theorem load_rL (t : Int) (ht : I64w t) (h : Pr p m b n D s L r w) (hL : L.length ≤ 999) (h0 : 0 ≤ r.st) (h1 : r.st < 1000000) :
    Calls Tryd.prog 30 #[.pointer (some ⟨b, 0, none⟩), .agg #[.int .u8 9, .int .i64 t, .int .i64 2]] w fun ee w' => ee = .returned (.int .u64 (vals L (adL t ht))) ∧ Pr p m b n D s L (r.touch 1 (adL t ht) (vals L (adL t ht)) (vals L (adL t ht)) false) w' ∧ Fr p m b w w' := load_r (adL t ht) h hL h0 h1
theorem store_rL (t : Int) (ht : I64w t) (v : Int) (h : Pr p m b n D s L r w) (hL : L.length ≤ 999) (h0 : 0 ≤ r.st) (h1 : r.st < 1000000) :
    Calls Tryd.prog 28 #[.pointer (some ⟨b, 0, none⟩), .agg #[.int .u8 9, .int .i64 t, .int .i64 2], .int .u64 v] w fun ee w' => ee = .returned (.tuple #[]) ∧ Pr p m b n D s (storeA L (adL t ht) v) (r.touch 2 (adL t ht) (vals L (adL t ht)) (vals (storeA L (adL t ht) v) (adL t ht)) false) w' ∧ Fr p m b w w' := store_r (adL t ht) v h hL h0 h1
end
end Go.Proofs.YtapcgikamldchaaDoor
namespace Go.Proofs.YtapcgikamldchaaDoor
open Go.RowKit Go.Maps

section
variable {B p m b n q e : Nat} {psh got : Bool} {sl ln h nn : Int} {D : DataW Unit} {s r : Acc8} {L : List (Ad × Int)} {w w' : World}
theorem list_cells (w : World) : (w.alloc (.cells #[.int .u8 0, .int .i64 0, .int .i64 0] 42)).cell? ⟨w.heap.size, 0, none⟩ = some (.int .u8 0) ∧ (w.alloc (.cells #[.int .u8 0, .int .i64 0, .int .i64 0] 42)).cell? ⟨w.heap.size, 1, none⟩ = some (.int .i64 0) ∧ (w.alloc (.cells #[.int .u8 0, .int .i64 0, .int .i64 0] 42)).cell? ⟨w.heap.size, 2, none⟩ = some (.int .i64 0) ∧ (w.alloc (.cells #[.int .u8 0, .int .i64 0, .int .i64 0] 42)).heap[w.heap.size]? = some (.cells #[.int .u8 0, .int .i64 0, .int .i64 0] 42 (0, 0)) := by
  have k0 := World.alloc_heap_new w (.cells #[.int .u8 0, .int .i64 0, .int .i64 0] 42)
  have c0 := Joins.cell_of_block k0 0
  have c1 := Joins.cell_of_block k0 1
  have c2 := Joins.cell_of_block k0 2
  simp only [List.getElem?_toArray, List.getElem?_cons_zero, List.getElem?_cons_succ] at c0 c1 c2
  exact ⟨c0, c1, c2, k0⟩
end
end Go.Proofs.YtapcgikamldchaaDoor
