/-
  The threads of OrphansOnce as they lie; condition: all lies as it says.
  A thread's step, walked; condition: the threads lie as they say.
  A thread's step, walked; condition: the threads lie as they say.
  A step of a thread with nothing under way: a Give of all that it has begins, or a Take; condition: all lies as it says.
-/
import Derived.Test.YtjpanofkikfeoaaDoorOL1
import Derived.Deep.DeepCutAuto
import Derived.Deep.RegionLaw
namespace Go.Proofs.YtjpanofkikfeoaaDoor
open Go.RowKit Go.Maps

/-- How a thread lies: what it holds, its Give, its Take, the blocks of that. -/
structure TI where
  vh : Value
  vg : Value
  vt : Value
  fp : List Nat
def TI.bl (x : TI) : List Nat := x.vh.ownBlock.toList ++ x.fp
def TI.none : TI := ⟨.slice Option.none 0 0, .pointer Option.none, .pointer Option.none, []⟩
theorem TI.none_bl : TI.none.bl = [] := rfl
def cellsT (X : Nat → TI) : List Value := [(X 0).vh, (X 0).vg, (X 0).vt, (X 1).vh, (X 1).vg, (X 1).vt, (X 2).vh, (X 2).vg, (X 2).vt, (X 3).vh, (X 3).vg, (X 3).vt, (X 4).vh, (X 4).vg, (X 4).vt]
theorem cellsT_at (X : Nat → TI) {k : Nat} (hk : k < 5) : (cellsT X)[k * 3]? = some (X k).vh ∧ (cellsT X)[k * 3 + 1]? = some (X k).vg ∧ (cellsT X)[k * 3 + 2]? = some (X k).vt := by
  obtain rfl | rfl | rfl | rfl | rfl : k = 0 ∨ k = 1 ∨ k = 2 ∨ k = 3 ∨ k = 4 := by omega
  all_goals exact ⟨rfl, rfl, rfl⟩
theorem cellsT_h (X : Nat → TI) {k : Nat} (hk : k < 5) (v : Value) : (cellsT X).set (k * 3) v = cellsT (updF X k ⟨v, (X k).vg, (X k).vt, (X k).fp⟩) := by
  obtain rfl | rfl | rfl | rfl | rfl : k = 0 ∨ k = 1 ∨ k = 2 ∨ k = 3 ∨ k = 4 := by omega
  all_goals rfl
theorem cellsT_g (X : Nat → TI) {k : Nat} (hk : k < 5) (v : Value) (fp : List Nat) : (cellsT X).set (k * 3 + 1) v = cellsT (updF X k ⟨(X k).vh, v, (X k).vt, fp⟩) := by
  obtain rfl | rfl | rfl | rfl | rfl : k = 0 ∨ k = 1 ∨ k = 2 ∨ k = 3 ∨ k = 4 := by omega
  all_goals rfl
theorem cellsT_t (X : Nat → TI) {k : Nat} (hk : k < 5) (v : Value) (fp : List Nat) : (cellsT X).set (k * 3 + 2) v = cellsT (updF X k ⟨(X k).vh, (X k).vg, v, fp⟩) := by
  obtain rfl | rfl | rfl | rfl | rfl : k = 0 ∨ k = 1 ∨ k = 2 ∨ k = 3 ∨ k = 4 := by omega
  all_goals rfl
/-- What is left alone while they go: a world, rows of entries. -/
structure FrO where
  W : World
  rows : List (Value × List EP)
/-- What no call of these turns. -/
def KeepW (w w' : World) : Prop := w'.os = w.os ∧ w'.tape = w.tape ∧ w'.output = w.output ∧ w.heap.size ≤ w'.heap.size
theorem KeepW.trans {w1 w2 w3 : World} (h : KeepW w1 w2) (k : KeepW w2 w3) : KeepW w1 w3 := ⟨k.1.trans h.1, k.2.1.trans h.2.1, k.2.2.1.trans h.2.2.1, Nat.le_trans h.2.2.2 k.2.2.2⟩
theorem KeepW.below {w w' : World} {n : Nat} (hb : Below n w w') : KeepW w w' := ⟨hb.os, hb.tape, hb.output, hb.size⟩
theorem KeepW.onl {w w' : World} {p b : Nat} {E : List Nat} (h : Onl p b E w w') : KeepW w w' := ⟨h.os, h.tape, h.output, h.size⟩
theorem KeepW.grown {w w' : World} {v : Option Nat} (h : w.grownBy w' v) : KeepW w w' := ⟨h.os, h.tape, h.output, h.size⟩
theorem KeepW.set (w : World) (g i : Nat) (v : Value) : KeepW w (w.setCell ⟨g, i, Option.none⟩ v) := ⟨rfl, rfl, rfl, by simp [World.setCell]⟩
/-- A thread lies so. -/
structure TLo (B : Nat) (t : TS) (x : TI) (w : World) : Prop where
  row : OwnE w B x.vh t.held
  op : (t.o.ln = 0 ∧ x.vg = .pointer none ∧ x.vt = .pointer none ∧ x.fp = []) ∨ (∃ q, t.o.ln ≠ 0 ∧ t.o.g ≠ [] ∧ x.vg = .pointer (some ⟨q, 0, none⟩) ∧ x.vt = .pointer none ∧ PRepO false q x.fp t.o w) ∨ (∃ q, t.o.ln ≠ 0 ∧ t.o.g = [] ∧ x.vg = .pointer none ∧ x.vt = .pointer (some ⟨q, 0, none⟩) ∧ PRepO true q x.fp t.o w)
  ap : ∀ y ∈ x.fp, x.vh.ownBlock ≠ some y
  low : ∀ y ∈ x.fp, B ≤ y
section
variable {Φ : FrO} {B p b G k : Nat} {A : Nat → TS} {X : Nat → TI} {M M' : MV} {w w' : World} {t t' : TS} {x x' : TI}
theorem TI.mem_h {y : Nat} (h : x.vh.ownBlock = some y) : y ∈ x.bl := List.mem_append_left _ (by rw [h]; simp)
theorem TI.mem_f {y : Nat} (h : y ∈ x.fp) : y ∈ x.bl := List.mem_append_right _ h
theorem TLo.same (h : TLo B t x w) (hs : ∀ y ∈ x.bl, w'.heap[y]? = w.heap[y]?) : TLo B t x w' := by
  refine ⟨h.row.same fun g hg => hs g (TI.mem_h hg), ?_, h.ap, h.low⟩
  rcases h.op with h1 | ⟨q, h0, h1, h2, h3, R⟩ | ⟨q, h0, h1, h2, h3, R⟩
  · exact .inl h1
  · exact .inr (.inl ⟨q, h0, h1, h2, h3, R.same fun y hy => hs y (TI.mem_f hy)⟩)
  · exact .inr (.inr ⟨q, h0, h1, h2, h3, R.same fun y hy => hs y (TI.mem_f hy)⟩)
/-- Its blocks. -/
theorem TLo.blk (h : TLo B t x w) : ∀ y ∈ x.bl, B ≤ y ∧ ∃ T cs, Bq y T cs w ∧ okP T = true := fun y hy => by
  rcases List.mem_append.1 hy with hy | hy
  · obtain ⟨h1, cs, k1⟩ := h.row.bq (by simpa using hy)
    exact ⟨h1, _, cs, k1, by decide⟩
  · refine ⟨h.low y hy, ?_⟩
    rcases h.op with ⟨_, _, _, e⟩ | ⟨q, _, _, _, _, R⟩ | ⟨q, _, _, _, _, R⟩
    · rw [e] at hy; cases hy
    · exact R.own y hy
    · exact R.own y hy
theorem TLo.below (h : TLo B t x w) (hb : Below w.heap.size w w') : TLo B t x w' := h.same fun y hy => by
  obtain ⟨_, T, cs, k1, _⟩ := h.blk y hy
  exact hb.block y k1.lt
theorem TLo.idle (h : t.o.ln = 0) (hr : OwnE w B x.vh t.held) (e1 : x.vg = .pointer none) (e2 : x.vt = .pointer none) (e3 : x.fp = []) : TLo B t x w := ⟨hr, .inl ⟨h, e1, e2, e3⟩, by rw [e3]; simp, by rw [e3]; simp⟩
/-- All five, and the memory. -/
structure TWo (Φ : FrO) (B p b G : Nat) (A : Nat → TS) (X : Nat → TI) (M : MV) (w : World) : Prop where
  mem : VX p b M w
  g : Bq G 58 (cellsT X) w
  each : ∀ k, k < 5 → TLo B (A k) (X k) w
  apart : ∀ j k, j < 5 → k < 5 → j ≠ k → ∀ y ∈ (X j).bl, y ∉ (X k).bl
  pB : B ≤ p
  bB : B ≤ b
  GB : B ≤ G
  rows : ∀ r ∈ Φ.rows, OwnE w B r.1 r.2
  rap : ∀ r ∈ Φ.rows, ∀ k, k < 5 → ∀ y ∈ (X k).bl, r.1.ownBlock ≠ some y
  low : Below Φ.W.heap.size Φ.W w
  WB : Φ.W.heap.size ≤ B
theorem TWo.ne (h : TWo Φ B p b G A X M w) (hk : k < 5) {y : Nat} (hy : y ∈ (X k).bl) : y ≠ p ∧ y ≠ b ∧ y ≠ G := by
  obtain ⟨_, T, cs, k1, hT⟩ := (h.each k hk).blk y hy
  have hT2 : T ≠ 92 ∧ T ≠ 58 := by
    constructor <;> (rintro rfl; revert hT; decide)
  have h1 := h.mem.ne hT2.1 k1
  exact ⟨h1.1, h1.2, k1.ne h.g hT2.2⟩
theorem TWo.gne (h : TWo Φ B p b G A X M w) : G ≠ p ∧ G ≠ b := h.mem.ne (by decide) h.g
theorem TWo.cells (h : TWo Φ B p b G A X M w) (hk : k < 5) : w.cell? ⟨G, k * 3, none⟩ = some (X k).vh ∧ w.cell? ⟨G, k * 3 + 1, none⟩ = some (X k).vg ∧ w.cell? ⟨G, k * 3 + 2, none⟩ = some (X k).vt := by
  obtain ⟨h1, h2, h3⟩ := cellsT_at X hk
  exact ⟨(h.g.cell _).trans h1, (h.g.cell _).trans h2, (h.g.cell _).trans h3⟩
theorem TWo.below (h : TWo Φ B p b G A X M w) (hb : Below w.heap.size w w') : TWo Φ B p b G A X M w' := ⟨h.mem.below hb, h.g.below hb, fun k hk => (h.each k hk).below hb, h.apart, h.pB, h.bB, h.GB, fun r hr => (h.rows r hr).below hb, h.rap, h.low.trans (hb.mono h.low.size), h.WB⟩
/-- One of them has changed, and nothing of the others. -/
theorem TWo.put (h : TWo Φ B p b G A X M w) (hk : k < 5) (hm : VX p b M' w') (wd : KeepW w w') (hG : Bq G 58 (cellsT (updF X k x')) w') (hx : TLo B t' x' w') (hbl : ∀ y ∈ x'.bl, y ∈ (X k).bl ∨ w.heap.size ≤ y) (far : ∀ z, z < w.heap.size → z ≠ p → z ≠ b → z ≠ G → z ∉ (X k).bl → w'.heap[z]? = w.heap[z]?) : TWo Φ B p b G (updF A k t') (updF X k x') M' w' := by
  have hlt : ∀ j, j < 5 → ∀ y ∈ (X j).bl, y < w.heap.size := fun j hj y hy => by
    obtain ⟨_, T, cs, k1, _⟩ := (h.each j hj).blk y hy
    exact k1.lt
  have hxl : ∀ j, j < 5 → j ≠ k → ∀ y ∈ x'.bl, y ∉ (X j).bl := fun j hj hn y hy hy2 => by
    rcases hbl y hy with h1 | h1
    · exact h.apart k j hk hj (Ne.symm hn) y h1 hy2
    · have := hlt j hj y hy2; omega
  have hrow : ∀ r ∈ Φ.rows, ∀ y, r.1.ownBlock = some y → y < w.heap.size ∧ y ≠ p ∧ y ≠ b ∧ y ≠ G := fun r hr y hy => by
    obtain ⟨_, cs, k1⟩ := (h.rows r hr).bq hy
    have n := h.mem.ne (by decide) k1
    exact ⟨k1.lt, n.1, n.2, k1.ne h.g (by decide)⟩
  refine ⟨hm, hG, fun j hj => ?_, fun i j hi hj hn y hy hy2 => ?_, h.pB, h.bB, h.GB, fun r hr => (h.rows r hr).same fun y hy => ?_, fun r hr j hj y hy e => ?_, ⟨wd.1.trans h.low.os, wd.2.1.trans h.low.tape, wd.2.2.1.trans h.low.output, Nat.le_trans h.low.size wd.2.2.2, fun z hz => (far z (Nat.lt_of_lt_of_le hz h.low.size) ?_ ?_ ?_ fun hy => ?_).trans (h.low.block z hz)⟩, h.WB⟩
  · by_cases hjk : j = k
    · subst hjk
      rw [updF_same, updF_same]
      exact hx
    · rw [updF_ne A hjk, updF_ne X hjk]
      refine (h.each j hj).same fun y hy => ?_
      obtain ⟨n1, n2, n3⟩ := h.ne hj hy
      exact far y (hlt j hj y hy) n1 n2 n3 (h.apart j k hj hk hjk y hy)
  · by_cases hik : i = k
    · subst hik
      rw [updF_same] at hy
      rw [updF_ne X (Ne.symm hn)] at hy2
      exact hxl j hj (Ne.symm hn) y hy hy2
    · rw [updF_ne X hik] at hy
      by_cases hjk : j = k
      · subst hjk
        rw [updF_same] at hy2
        exact hxl i hi hik y hy2 hy
      · rw [updF_ne X hjk] at hy2
        exact h.apart i j hi hj hn y hy hy2
  · obtain ⟨n0, n1, n2, n3⟩ := hrow r hr y hy
    exact far y n0 n1 n2 n3 fun hk2 => h.rap r hr k hk y hk2 hy
  · by_cases hjk : j = k
    · subst hjk
      rw [updF_same] at hy
      rcases hbl y hy with h1 | h1
      · exact h.rap r hr j hj y h1 e
      · have := (hrow r hr y e).1; omega
    · rw [updF_ne X hjk] at hy
      exact h.rap r hr j hj y hy e
  · have := h.WB; have := h.pB; omega
  · have := h.WB; have := h.bB; omega
  · have := h.WB; have := h.GB; omega
  · have := h.WB; have := ((h.each k hk).blk z hy).1; omega
end
end Go.Proofs.YtjpanofkikfeoaaDoor
namespace Go.Proofs.YtjpanofkikfeoaaDoor
open Go.RowKit Go.Maps

section
variable {Φ : FrO} {B p b G k : Nat} {A : Nat → TS} {X : Nat → TI} {M M' : MV} {w w' : World}
theorem cellsT_gh (X : Nat → TI) {k : Nat} (hk : k < 5) (u v : Value) (fp : List Nat) : ((cellsT X).set (k * 3 + 1) u).set (k * 3) v = cellsT (updF X k ⟨v, u, (X k).vt, fp⟩) := by
  obtain rfl | rfl | rfl | rfl | rfl : k = 0 ∨ k = 1 ∨ k = 2 ∨ k = 3 ∨ k = 4 := by omega
  all_goals rfl
theorem TWo.free (h : TWo Φ B p b G A X M w) (i : Nat) : w.frozen? ⟨G, i, none⟩ = false := h.g.free i
theorem TWo.far_set (_h : TWo Φ B p b G A X M w) {z i : Nat} {v : Value} (hz : z ≠ G) : (w'.setCell ⟨G, i, none⟩ v).heap[z]? = w'.heap[z]? := Below.heap_setCell w' ⟨G, i, none⟩ v z hz
theorem TWo.vxset (h : TWo Φ B p b G A X M w) (hB : 1 < B) {i : Nat} {v : Value} (hm : VX p b M' w') : VX p b M' (w'.setCell ⟨G, i, none⟩ v) := hm.setQ h.gne.1 h.gne.2 (by have := h.GB; omega) i v
/-- It begins to take. -/
theorem TWo.begT {q : Nat} {fp : List Nat} (h : TWo Φ B p b G A X M w) (hB : 1 < B) (hk : k < 5) (h0 : (A k).o.ln = 0) (hBw : B ≤ w.heap.size) (hb : Below w.heap.size w w') (hf : ∀ y ∈ fp, w.heap.size ≤ y) (R : PRepO true q fp newT w') :
    TWo Φ B p b G (updF A k ⟨(A k).held, newT⟩) (updF X k ⟨(X k).vh, (X k).vg, .pointer (some ⟨q, 0, none⟩), fp⟩) M (w'.setCell ⟨G, k * 3 + 2, none⟩ (.pointer (some ⟨q, 0, none⟩))) := by
  have hW := h.below hb
  have hT := h.each k hk
  have hT' := hW.each k hk
  have hne : ∀ y ∈ fp, y ≠ G := fun y hy e => by have := hf y hy; have := h.g.lt; omega
  have hvg : (X k).vg = .pointer none := by
    rcases hT.op with ⟨_, e, _⟩ | ⟨q, n0, _⟩ | ⟨q, n0, _⟩
    · exact e
    · exact absurd h0 n0
    · exact absurd h0 n0
  refine h.put hk (h.vxset hB hW.mem) ((KeepW.below hb).trans (.set _ _ _ _)) (hW.g.set _ _ (cellsT_t X hk _ fp).symm) ⟨hT'.row.same fun g hg => h.far_set (hW.ne hk (TI.mem_h hg)).2.2, .inr (.inr ⟨q, (show newT.ln ≠ 0 by decide), rfl, hvg, rfl, R.same fun y hy => h.far_set (hne y hy)⟩), fun y hy e => ?_, fun y hy => by have := hf y hy; show B ≤ y; omega⟩ (fun y hy => ?_) fun z hz n1 n2 n3 n4 => (h.far_set n3).trans (hb.block z hz)
  · have := hT.row.lt e
    have := hf y hy
    omega
  · rcases List.mem_append.1 hy with hy | hy
    · exact .inl (List.mem_append_left _ hy)
    · exact .inr (hf y hy)
/-- It begins to give. -/
theorem TWo.begG {q : Nat} {fp : List Nat} (h : TWo Φ B p b G A X M w) (hB : 1 < B) (hk : k < 5) (h0 : (A k).o.ln = 0) (hm : mayE (A k).held) (hBw : B ≤ w.heap.size) (hb : Below w.heap.size w w') (hf : ∀ y ∈ fp, w.heap.size ≤ y) (R : PRepO false q fp (newG (A k).held) w') :
    TWo Φ B p b G (updF A k ⟨[], newG (A k).held⟩) (updF X k ⟨.slice none 0 0, .pointer (some ⟨q, 0, none⟩), (X k).vt, fp⟩) M ((w'.setCell ⟨G, k * 3 + 1, none⟩ (.pointer (some ⟨q, 0, none⟩))).setCell ⟨G, k * 3, none⟩ (.slice none 0 0)) := by
  have hW := h.below hb
  have hT := h.each k hk
  have hne : ∀ y ∈ fp, y ≠ G := fun y hy e => by have := hf y hy; have := h.g.lt; omega
  have hvt : (X k).vt = .pointer none := by
    rcases hT.op with ⟨_, _, e, _⟩ | ⟨q, n0, _⟩ | ⟨q, n0, _⟩
    · exact e
    · exact absurd h0 n0
    · exact absurd h0 n0
  have hln : (newG (A k).held).ln ≠ 0 := by
    unfold newG
    dsimp only
    rw [if_pos hm]
    split <;> decide
  refine h.put hk (h.vxset hB (h.vxset hB hW.mem)) ((KeepW.below hb).trans ((KeepW.set _ _ _ _).trans (.set _ _ _ _))) ((hW.g.set _ _ rfl).set _ _ (cellsT_gh X hk _ _ fp).symm) ⟨OwnE.nil _ _, .inr (.inl ⟨q, hln, hm.1, rfl, hvt, R.same fun y hy => (h.far_set (hne y hy)).trans (h.far_set (hne y hy))⟩), (fun y hy e => by cases e), fun y hy => by have := hf y hy; show B ≤ y; omega⟩ (fun y hy => ?_) fun z hz n1 n2 n3 n4 => ((h.far_set n3).trans (h.far_set n3)).trans (hb.block z hz)
  rcases List.mem_append.1 hy with hy | hy
  · cases hy
  · exact .inr (hf y hy)
/-- A step of the operation under way: what it does to the threads; not at its end. -/
theorem TWo.stepped {fp' : List Nat} (h : TWo Φ B p b G A X M w) (hk : k < 5) (h0 : (A k).o.ln ≠ 0) (hn : (oX (A k).o M).1.ln ≠ 0) (hm : VX p b M' w') (hf : ∀ y ∈ fp', y ∈ (X k).fp ∨ w.heap.size ≤ y) (hBw : B ≤ w.heap.size) (on : Onl p b (X k).fp w w')
    (R : ((A k).o.g = [] → ∃ q, (X k).vt = .pointer (some ⟨q, 0, none⟩) ∧ PRepO true q fp' (oX (A k).o M).1 w') ∧ ((A k).o.g ≠ [] → ∃ q, (X k).vg = .pointer (some ⟨q, 0, none⟩) ∧ PRepO false q fp' (oX (A k).o M).1 w')) :
    TWo Φ B p b G (updF A k ((A k).next (oX (A k).o M).1)) (updF X k ⟨(X k).vh, (X k).vg, (X k).vt, fp'⟩) M' w' := by
  have hT := h.each k hk
  have hG : Bq G 58 (cellsT (updF X k ⟨(X k).vh, (X k).vg, (X k).vt, fp'⟩)) w' := by
    have e : cellsT (updF X k ⟨(X k).vh, (X k).vg, (X k).vt, fp'⟩) = cellsT X := by
      obtain rfl | rfl | rfl | rfl | rfl : k = 0 ∨ k = 1 ∨ k = 2 ∨ k = 3 ∨ k = 4 := by omega
      all_goals rfl
    rw [e]
    exact h.g.onl on h.gne.1 h.gne.2 fun hy => (h.ne hk (TI.mem_f hy)).2.2 rfl
  have hlow : ∀ y ∈ fp', B ≤ y := fun y hy => by
    rcases hf y hy with k1 | k1
    · exact hT.low y k1
    · omega
  have hap : ∀ y ∈ fp', (X k).vh.ownBlock ≠ some y := fun y hy e => by
    rcases hf y hy with k1 | k1
    · exact hT.ap y k1 e
    · have := hT.row.lt e; omega
  have hrow : OwnE w' B (X k).vh (A k).held := hT.row.same fun g hg => by
    have n := h.ne hk (TI.mem_h hg)
    exact on.block g (hT.row.lt hg) n.1 n.2.1 fun hy => hT.ap g hy hg
  rw [next_on hn]
  refine h.put hk hm (.onl on) hG ⟨hrow, ?_, hap, hlow⟩ (fun y hy => ?_) fun z hz n1 n2 n3 n4 => on.block z hz n1 n2 fun hy => n4 (TI.mem_f hy)
  · rcases hT.op with ⟨e, _⟩ | ⟨q, _, g0, e1, e2, _⟩ | ⟨q, _, g0, e1, e2, _⟩
    · exact absurd e h0
    · obtain ⟨q', e, R'⟩ := R.2 g0
      exact .inr (.inl ⟨q', hn, by rw [oX_g]; exact g0, e, e2, R'⟩)
    · obtain ⟨q', e, R'⟩ := R.1 g0
      exact .inr (.inr ⟨q', hn, by rw [oX_g]; exact g0, e1, e, R'⟩)
  · rcases List.mem_append.1 hy with hy | hy
    · exact .inl (List.mem_append_left _ hy)
    · rcases hf y hy with k1 | k1
      · exact .inl (TI.mem_f k1)
      · exact .inr k1
/-- The end of a Give. -/
theorem TWo.gave (h : TWo Φ B p b G A X M w) (hB : 1 < B) (hk : k < 5) (h0 : (A k).o.ln ≠ 0) (hg : (A k).o.g ≠ []) (ok : ONum (oX (A k).o M).1) (hn : (oX (A k).o M).1.ln = 0) (hm : VX p b M' w') (on : Onl p b (X k).fp w w') :
    TWo Φ B p b G (updF A k ((A k).next (oX (A k).o M).1)) (updF X k ⟨(X k).vh, .pointer none, (X k).vt, []⟩) M' (w'.setCell ⟨G, k * 3 + 1, none⟩ (.pointer none)) := by
  have hT := h.each k hk
  have hG1 : Bq G 58 (cellsT X) w' := h.g.onl on h.gne.1 h.gne.2 fun hy => (h.ne hk (TI.mem_f hy)).2.2 rfl
  have hvt : (X k).vt = .pointer none := by
    rcases hT.op with ⟨e, _⟩ | ⟨q, _, _, _, e2, _⟩ | ⟨q, _, g0, _⟩
    · exact absurd e h0
    · exact e2
    · exact absurd g0 hg
  have hrow : OwnE w' B (X k).vh (A k).held := hT.row.same fun g hg => by
    have n := h.ne hk (TI.mem_h hg)
    exact on.block g (hT.row.lt hg) n.1 n.2.1 fun hy => hT.ap g hy hg
  have hgot : (oX (A k).o M).1.got = [] := (ok.gv (by rw [oX_g]; exact hg)).1
  rw [next_end hn, hgot, List.append_nil]
  refine h.put hk (h.vxset hB hm) ((KeepW.onl on).trans (.set _ _ _ _)) (hG1.set _ _ (cellsT_g X hk _ []).symm) (TLo.idle hn (hrow.same fun g hg => h.far_set (h.ne hk (TI.mem_h hg)).2.2) rfl hvt rfl) (fun y hy => ?_) fun z hz n1 n2 n3 n4 => (h.far_set n3).trans (on.block z hz n1 n2 fun hy => n4 (TI.mem_f hy))
  rcases List.mem_append.1 hy with hy | hy
  · exact .inl (List.mem_append_left _ hy)
  · cases hy
theorem cellsT_ht (X : Nat → TI) {k : Nat} (hk : k < 5) (u v : Value) (fp : List Nat) : ((cellsT X).set (k * 3) v).set (k * 3 + 2) u = cellsT (updF X k ⟨v, (X k).vg, u, fp⟩) := by
  obtain rfl | rfl | rfl | rfl | rfl : k = 0 ∨ k = 1 ∨ k = 2 ∨ k = 3 ∨ k = 4 := by omega
  all_goals rfl
/-- The end of a Take: what it got stands behind what the thread holds. -/
theorem TWo.took {w1 w2 w3 : World} {v' : Value} (h : TWo Φ B p b G A X M w) (hB : 1 < B) (hBw : B ≤ w.heap.size) (hk : k < 5) (h0 : (A k).o.ln ≠ 0) (hg : (A k).o.g = []) (hn : (oX (A k).o M).1.ln = 0) (hm : VX p b M' w1) (on : Onl p b (X k).fp w w1) (hb : Below w1.heap.size w1 w2)
    (hr : w3.ownsRow B 48 6 v' ((A k).held.length + (oX (A k).o M).1.got.length) (flatE (A k).held ++ flatE (oX (A k).o M).1.got)) (hgr : w2.grownBy w3 (X k).vh.ownBlock) (hbl : v'.ownBlock = (X k).vh.ownBlock ∨ v'.ownBlock = some w2.heap.size) :
    TWo Φ B p b G (updF A k ((A k).next (oX (A k).o M).1)) (updF X k ⟨v', (X k).vg, .pointer none, []⟩) M' ((w3.setCell ⟨G, k * 3, none⟩ v').setCell ⟨G, k * 3 + 2, none⟩ (.pointer none)) := by
  have hT := h.each k hk
  have hG1 : Bq G 58 (cellsT X) w1 := h.g.onl on h.gne.1 h.gne.2 fun hy => (h.ne hk (TI.mem_f hy)).2.2 rfl
  have hG2 := hG1.below hb
  have hvh : ∀ y, (X k).vh.ownBlock = some y → y < w.heap.size ∧ B ≤ y ∧ y ≠ p ∧ y ≠ b ∧ y ≠ G := fun y hy => ⟨hT.row.lt hy, (hT.row.bq hy).1, h.ne hk (TI.mem_h hy)⟩
  have hsz : w.heap.size ≤ w2.heap.size := Nat.le_trans on.size hb.size
  have hG3 : Bq G 58 (cellsT X) w3 := hG2.same (hgr.block G hG2.lt fun e => (hvh G e.symm).2.2.2.2 rfl)
  have hlt2 := (hm.below hb).lt
  have hm3 : VX p b M' w3 := (hm.below hb).keep hgr.size (hgr.block p hlt2.1 fun e => (hvh p e.symm).2.2.1 rfl) (hgr.block b hlt2.2 fun e => (hvh b e.symm).2.2.2.1 rfl) (hgr.block 1 (by omega) fun e => by have := (hvh 1 e.symm).2.1; omega) (hgr.block 0 (by omega) fun e => by have := (hvh 0 e.symm).2.1; omega)
  have hvg : (X k).vg = .pointer none := by
    rcases hT.op with ⟨e, _⟩ | ⟨q, _, g0, _⟩ | ⟨q, _, _, e1, _⟩
    · exact absurd e h0
    · exact absurd hg g0
    · exact e1
  have hrow : OwnE w3 B v' ((A k).held ++ (oX (A k).o M).1.got) := by
    unfold OwnE
    rw [List.length_append, flatE_app]
    exact hr
  have hv'G : ∀ y, v'.ownBlock = some y → y ≠ G := fun y hy e => by
    rcases hbl with k1 | k1
    · exact (hvh y (k1 ▸ hy)).2.2.2.2 e
    · rw [k1] at hy
      injection hy with hy
      have := h.g.lt
      omega
  rw [next_end hn]
  refine h.put hk (h.vxset hB (h.vxset hB hm3)) ((KeepW.onl on).trans ((KeepW.below hb).trans ((KeepW.grown hgr).trans ((KeepW.set _ _ _ _).trans (.set _ _ _ _))))) ((hG3.set _ _ rfl).set _ _ (cellsT_ht X hk _ _ []).symm) (TLo.idle hn (hrow.same fun g hg => (h.far_set (hv'G g hg)).trans (h.far_set (hv'G g hg))) hvg rfl rfl) (fun y hy => ?_) fun z hz n1 n2 n3 n4 => ?_
  · rcases List.mem_append.1 hy with hy | hy
    · have hy : v'.ownBlock = some y := by simpa using hy
      rcases hbl with k1 | k1
      · exact .inl (TI.mem_h (k1 ▸ hy))
      · rw [k1] at hy
        injection hy with hy
        exact .inr (by omega)
    · cases hy
  · refine ((h.far_set n3).trans (h.far_set n3)).trans ((hgr.block z (by omega) fun e => n4 (TI.mem_h e.symm)).trans ((hb.block z (Nat.lt_of_lt_of_le hz on.size)).trans (on.block z hz n1 n2 fun hy => n4 (TI.mem_f hy))))
end
end Go.Proofs.YtjpanofkikfeoaaDoor
namespace Go.Proofs.YtjpanofkikfeoaaDoor
open Go.RowKit Go.Maps

section
variable {p b q : Nat} {fp : List Nat} {o : OG} {M : MV} {w : World}
theorem SeeE.reads' {w : World} {g off : Nat} {xs : List EP} (hr : ∀ j u, (flatE xs)[j]? = some u → w.cell? ⟨g, off + j, none⟩ = some u) : ∀ j u, (flatE xs)[j]? = some u → w.cell? ((⟨g, off, none⟩ : Addr).add j) = some u := by
  intro j u hj
  have h9 := hr j u hj
  by_cases h0 : j = 0
  · subst h0
    simpa [Addr.add] using h9
  · simpa [Addr.add, h0] using h9
theorem giveStep_all (hB : ∀ y ∈ fp, 1 < y) (F : VX p b M w) (hs : M.s.st < 1000000) (ok : ONum o) (hgl : o.g.length < 100000) (R : PRepO false q fp o w) :
    Calls Tryd.prog 25 #[.pointer (some ⟨q, 0, none⟩), .pointer (some ⟨p, 0, none⟩)] w fun e w' => e = .returned (.bool ((oX o M).1.ln == 0)) ∧ ∃ fp', (∀ y ∈ fp', y ∈ fp ∨ w.heap.size ≤ y) ∧ PRepO false q fp' (oX o M).1 w' ∧ VX p b (oX o M).2 w' ∧ Onl p b fp w w' := stepO_all (kd := false) hB F hs ok hgl R
theorem takeStep_all (hB : ∀ y ∈ fp, 1 < y) (F : VX p b M w) (hs : M.s.st < 1000000) (ok : ONum o) (hgl : o.g.length < 100000) (R : PRepO true q fp o w) :
    Calls Tryd.prog 19 #[.pointer (some ⟨q, 0, none⟩), .pointer (some ⟨p, 0, none⟩)] w fun e w' => e = .returned (.bool ((oX o M).1.ln == 0)) ∧ ∃ fp', (∀ y ∈ fp', y ∈ fp ∨ w.heap.size ≤ y) ∧ PRepO true q fp' (oX o M).1 w' ∧ VX p b (oX o M).2 w' ∧ Onl p b fp w w' := stepO_all (kd := true) hB F hs ok hgl R
end
section
variable {Φ : FrO} {B p b G k : Nat} {A : Nat → TS} {X : Nat → TI} {M M' : MV} {w w' : World}
/-- What a thread's step leaves. -/
def ThD (Φ : FrO) (B p b G k : Nat) (A : Nat → TS) (M : MV) (gv : Bool) (e : Ending) (w' : World) : Prop := e = .returned (.tuple #[]) ∧ ∃ X', TWo Φ B p b G (updF A k (((A k).begin gv).next (oX ((A k).begin gv).o M).1)) X' (oX ((A k).begin gv).o M).2 w'
theorem begin_on {t : TS} {gv : Bool} (h : t.o.ln ≠ 0) : t.begin gv = t := by unfold TS.begin; rw [if_neg h]
set_option maxRecDepth 100000 in
set_option maxHeartbeats 8000000 in
/-- A Give is under way. -/
theorem thread_give (gv : Bool) (h : TWo Φ B p b G A X M w) (hB : 1 < B) (hBw : B ≤ w.heap.size) (hk : k < 5) (hs : M.s.st < 1000000) (h0 : (A k).o.ln ≠ 0) (hg : (A k).o.g ≠ []) (ok : ONum (A k).o) (hl : (A k).o.g.length < 100000) :
    Calls Tryd.prog 18 #[.pointer (some ⟨G, k * 3, none⟩), .pointer (some ⟨p, 0, none⟩), .bool gv] w (ThD Φ B p b G k A M gv) := by
  unfold ThD
  rw [begin_on h0]
  have hT := h.each k hk
  obtain ⟨q, e1, e2, R⟩ : ∃ q, (X k).vg = .pointer (some ⟨q, 0, none⟩) ∧ (X k).vt = .pointer none ∧ PRepO false q (X k).fp (A k).o w := by
    rcases hT.op with ⟨e, _⟩ | ⟨q, _, _, e1, e2, R⟩ | ⟨q, _, g0, _⟩
    · exact absurd e h0
    · exact ⟨q, e1, e2, R⟩
    · exact absurd g0 hg
  have hstep := Lib.hid (giveStep_all (fun y hy => Nat.lt_of_lt_of_le hB (hT.low y hy)) h.mem hs ok hl R)
  obtain ⟨c0, c1, c2⟩ := h.cells hk
  rw [e1] at c1
  rw [e2] at c2
  have HT := Lib.hid h
  have H0 := Lib.hid h0
  have HG := Lib.hid hg
  have HOK := Lib.hid (ok.step (M := M) h.mem.u64)
  have HE1 := Lib.hid e1
  have HE2 := Lib.hid e2
  clear h hT R e1 e2 h0 hg ok hl c0
  generalize hO : oX (A k).o M = O'
  obtain ⟨o', M'⟩ := O'
  have HOX := Lib.hid hO
  rw [hO] at hstep HOK
  clear hO
  dsimp only at hstep HOK ⊢
  go_enter Tryd.func18, Tryd.ntmps18
  go_wp2_with fail
  ((with_reducible refine hstep.out.mono ?_); rintro e w1 ⟨rfl, fp', hf, R', F', on⟩)
  have HF := Lib.hid hf
  have HR := Lib.hid R'
  have HM := Lib.hid F'
  have HON := Lib.hid on
  clear hstep hf R' F' c1 c2
  by_cases hn : o'.ln = 0
  · have hz : (o'.ln == 0) = true := beq_iff_eq.2 hn
    rw [hz]
    have hG1 := HT.out.g.onl on HT.out.gne.1 HT.out.gne.2 fun hy => (HT.out.ne hk (TI.mem_f hy)).2.2 rfl
    have z1 := hG1.free (k * 3 + 1)
    have c1 := (hG1.cell (k * 3 + 1)).trans (cellsT_at X hk).2.1
    have HN := Lib.hid hn
    clear on hG1 hz hn
    go_wp2_with fail
    ((try simp only [Exit.inBlock, Exit.then]); first | go_end0 | refine bodyPost_ret (results_none rfl _ _ _) rfl ?_)
    have hh := HT.out.gave (M' := M') hB hk H0.out HG.out (by rw [HOX.out]; exact HOK.out) (by rw [HOX.out]; exact HN.out) HM.out HON.out
    rw [HOX.out] at hh
    exact ⟨rfl, _, hh⟩
  · have hz : (o'.ln == 0) = false := beq_eq_false_iff_ne.2 hn
    rw [hz]
    have HN := Lib.hid hn
    clear on hz hn
    go_wp2_with fail
    ((try simp only [Exit.inBlock, Exit.then]); first | go_end0 | refine bodyPost_ret (results_none rfl _ _ _) rfl ?_)
    have hh := HT.out.stepped (M' := M') (fp' := fp') hk H0.out (by rw [HOX.out]; exact HN.out) HM.out HF.out hBw HON.out ⟨fun g0 => absurd g0 HG.out, fun _ => ⟨q, HE1.out, by rw [HOX.out]; exact HR.out⟩⟩
    rw [HOX.out] at hh
    exact ⟨rfl, _, hh⟩
/-- Entries that are read, behind a row of the call's own. -/
theorem step_append_see {ops : Array Oper} {oo : Oper} {a : Act} {KK : Act → World → Prop} {Q : Exit → Act → World → Prop} {E : Prop} {i0 : TypeInfo} (hi0 : Tryd.prog.info? 48 = some i0) (hz0 : i0.zero = some (.agg #[.int .i64 0, .int .u32 0, .bool false, .int .u64 0, .int .u64 0, .int .u64 0])) (hz1 : i0.size = 6) (hz2 : i0.bytes = 40) (hgd : oo.guard = none) (s x : Operand)
    (ho : oo.op = .call { callee := .builtin .append, args := #[s, x], argTypes := #[43, 43] })
    (base : Nat) (v : Value) (xs : List EP) (hs : a.eval s = v) (hown : OwnE w base v xs) (vx : Value) (ys : List EP) (hx : a.eval x = vx) (hy : SeeE w vx ys) (hl : xs.length + ys.length < 100000) (hbase : base ≤ w.heap.size)
    (h : ∀ v' w', w'.ownsRow base 48 6 v' (xs.length + ys.length) (flatE xs ++ flatE ys) → w.grownBy w' v.ownBlock → (v'.ownBlock = v.ownBlock ∨ v'.ownBlock = some w.heap.size) → KK (a.put oo.dst v') w') :
    if Region.wanted oo (yielded ops a.tmps) = true then Oper.wp Tryd.prog oo a w KK Q else E := by
  rcases hy with ⟨rfl, rfl⟩ | ⟨g, off, c, rfl, _, _, hr⟩
  · refine step_append_none _ hgd s x 43 ho base 48 i0 6 Tryd.underlying43 hi0 v xs.length (flatE xs) hs hown hx (h v w ?_ ⟨rfl, rfl, rfl, Nat.le_refl _, fun _ _ _ => rfl⟩ (.inl rfl))
    have e : flatE xs ++ flatE ([] : List EP) = flatE xs := List.append_nil _
    rw [e]
    exact hown
  · refine step_append_at _ hgd s x 43 ho base 48 i0 _ 6 40 Tryd.underlying43 hi0 hz0 hz1 hz2 rfl (by decide) v xs.length (flatE xs) hs hown ⟨g, off, none⟩ ys.length c (flatE ys) hx (flatE_len ys) (SeeE.reads' hr) flatE_one (by unfold maxLen; omega) (by omega) hbase h
set_option maxRecDepth 100000 in
set_option maxHeartbeats 8000000 in
/-- A Take is under way. -/
theorem thread_take (gv : Bool) (h : TWo Φ B p b G A X M w) (hB : 1 < B) (hBw : B ≤ w.heap.size) (hk : k < 5) (hs : M.s.st < 1000000) (h0 : (A k).o.ln ≠ 0) (hg : (A k).o.g = []) (ok : ONum (A k).o) (hl : (A k).held.length ≤ 1000) :
    Calls Tryd.prog 18 #[.pointer (some ⟨G, k * 3, none⟩), .pointer (some ⟨p, 0, none⟩), .bool gv] w (ThD Φ B p b G k A M gv) := by
  obtain ⟨i0, hi0, hz0, hz1, hz2⟩ := info_parts infoE
  unfold ThD
  rw [begin_on h0]
  have hT := h.each k hk
  obtain ⟨q, e1, e2, R⟩ : ∃ q, (X k).vg = .pointer none ∧ (X k).vt = .pointer (some ⟨q, 0, none⟩) ∧ PRepO true q (X k).fp (A k).o w := by
    rcases hT.op with ⟨e, _⟩ | ⟨q, _, g0, _⟩ | ⟨q, _, _, e1, e2, R⟩
    · exact absurd e h0
    · exact absurd hg g0
    · exact ⟨q, e1, e2, R⟩
  have hstep := Lib.hid (takeStep_all (fun y hy => Nat.lt_of_lt_of_le hB (hT.low y hy)) h.mem hs ok (by rw [hg]; decide) R)
  obtain ⟨c0, c1, c2⟩ := h.cells hk
  rw [e1] at c1
  rw [e2] at c2
  have HT := Lib.hid h
  have H0 := Lib.hid h0
  have HG := Lib.hid hg
  have HOK := Lib.hid (ok.step (M := M) h.mem.u64)
  have HGN := Lib.hid (((ok.step (M := M) h.mem.u64).tk (by rw [oX_g]; exact hg)).2.1)
  have HE1 := Lib.hid e1
  have HE2 := Lib.hid e2
  have HL := Lib.hid hl
  clear h hT R e1 e2 h0 hg ok c0 hl
  generalize hO : oX (A k).o M = O'
  obtain ⟨o', M'⟩ := O'
  have HOX := Lib.hid hO
  rw [hO] at hstep HOK HGN
  clear hO
  dsimp only at hstep HOK HGN ⊢
  go_enter Tryd.func18, Tryd.ntmps18
  go_wp2_with fail
  ((with_reducible refine hstep.out.mono ?_); rintro e w1 ⟨rfl, fp', hf, R', F', on⟩)
  have HF := Lib.hid hf
  have HR := Lib.hid R'
  have HM := Lib.hid F'
  have HON := Lib.hid on
  clear hstep hf R' F' c1 c2
  by_cases hn : o'.ln = 0
  · have hz : (o'.ln == 0) = true := beq_iff_eq.2 hn
    rw [hz]
    have hG1 := HT.out.g.onl on HT.out.gne.1 HT.out.gne.2 fun hy => (HT.out.ne hk (TI.mem_f hy)).2.2 rfl
    have HN := Lib.hid hn
    have HG1 := Lib.hid hG1
    have HGD := Lib.hid (hG1.below (Below.refl _ w1).drew)
    have HRD := Lib.hid (HR.out.same (w' := w1.drew) fun y hy => rfl)
    have HRW := Lib.hid (show OwnE w1 B (X k).vh (A k).held from (HT.out.each k hk).row.same fun g hg => on.block g ((HT.out.each k hk).row.lt hg) (HT.out.ne hk (TI.mem_h hg)).1 (HT.out.ne hk (TI.mem_h hg)).2.1 fun hy => (HT.out.each k hk).ap g hy hg)
    have c2 := (HGD.out.cell (k * 3 + 2)).trans (cellsT_at X hk).2.2
    rw [HE2.out] at c2
    have c0 := (HGD.out.cell (k * 3)).trans (cellsT_at X hk).1
    have hgot := Lib.hid (gotT_all HOK.out HRD.out)
    clear on hG1 hz hn
    have HRD2 := Lib.hid (HRW.out.below (Below.refl _ w1).drew)
    go_upto_region 7 with (fail)
    go_region_law (first
      | (revert HSE2; intro HSE2; refine step_append_see hi0 hz0 hz1 hz2 rfl (.tmp 57) (.tmp 62) rfl B (X k).vh (A k).held (by first | rfl | simp [Act.eval]) HRW2.out (.slice Ag o'.got.length kg) o'.got (by first | rfl | simp [Act.eval]) HSE2.out (by have := HL.out; have := HGN.out; omega) HB2.out ?_; intro v3 w3 h3 g3 b3; obtain ⟨A3, c3, rfl⟩ := ownsRow_form h3; have HK3 := Lib.hid (show _ ∧ _ ∧ _ from ⟨h3, g3, b3⟩); have hG3 := HGD2.out.same (g3.block G HGD2.out.lt fun e => (HT.out.ne hk (TI.mem_h e.symm)).2.2 rfl); have c0c := (hG3.cell (k * 3)).trans (cellsT_at X hk).1; have z0c := hG3.free (k * 3); have hG4 := hG3.set (k * 3) (.slice A3 ((A k).held.length + o'.got.length) c3) rfl; have z2c := hG4.free (k * 3 + 2); have HG4 := Lib.hid hG4; clear h3 g3 b3 hG3 hG4)
      | (go_simp; go_at_call 15; (with_reducible refine hgot.out.mono ?_); rintro ee w2 ⟨Ag, kg, xs, hxs, rfl, ho2, hb2⟩; rw [if_pos HN.out] at hxs; subst hxs; have HSE2 := Lib.hid ho2.see; have HRW2 := Lib.hid (HRD2.out.below hb2); have HGD2 := Lib.hid (HGD.out.below hb2); have c0b := (HGD2.out.cell (k * 3)).trans (cellsT_at X hk).1; have HB2 := Lib.hid (show B ≤ w2.heap.size from Nat.le_trans hBw (Nat.le_trans HON.out.size hb2.size)); have HB12 := Lib.hid (show Below w1.heap.size w1 w2 from (show Below w1.heap.size w1 w1.drew from (Below.refl _ w1).drew).trans hb2); clear ho2 hb2))
    all_goals
      have c2d := HG4.out.cell (k * 3 + 2)
      rw [List.getElem?_set_ne (by omega), (cellsT_at X hk).2.2] at c2d
      go_wp2_with fail
      ((try simp only [Exit.inBlock, Exit.then]); first | go_end0 | refine bodyPost_ret (results_none rfl _ _ _) rfl ?_)
      have hh := HT.out.took (M' := M') (v' := .slice A3 ((A k).held.length + o'.got.length) c3) hB hBw hk H0.out HG.out (by rw [HOX.out]; exact HN.out) HM.out HON.out HB12.out (by rw [HOX.out]; exact HK3.out.1) HK3.out.2.1 HK3.out.2.2
      rw [HOX.out] at hh
      exact ⟨rfl, _, hh⟩
  · have hz : (o'.ln == 0) = false := beq_eq_false_iff_ne.2 hn
    rw [hz]
    have HN := Lib.hid hn
    clear on hz hn
    go_wp2_with fail
    ((try simp only [Exit.inBlock, Exit.then]); first | go_end0 | refine bodyPost_ret (results_none rfl _ _ _) rfl ?_)
    have hh := HT.out.stepped (M' := M') (fp' := fp') hk H0.out (by rw [HOX.out]; exact HN.out) HM.out HF.out hBw HON.out ⟨fun _ => ⟨q, HE2.out, by rw [HOX.out]; exact HR.out⟩, fun g0 => absurd HG.out g0⟩
    rw [HOX.out] at hh
    exact ⟨rfl, _, hh⟩
end
end Go.Proofs.YtjpanofkikfeoaaDoor
namespace Go.Proofs.YtjpanofkikfeoaaDoor
open Go.RowKit Go.Maps

theorem updF_upd {α : Type} (A : Nat → α) (p : Nat) (a c : α) : updF (updF A p a) p c = updF A p c := by
  funext q
  by_cases h : q = p
  · subst h; rw [updF_same, updF_same]
  · rw [updF_ne _ h, updF_ne _ h, updF_ne _ h]
section
variable {Φ : FrO} {B p b G k : Nat} {A : Nat → TS} {X : Nat → TI} {M M' : MV} {w w' : World}
theorem TWo.idle (h : TWo Φ B p b G A X M w) (hk : k < 5) (h0 : (A k).o.ln = 0) : (X k).vg = .pointer none ∧ (X k).vt = .pointer none := by
  rcases (h.each k hk).op with ⟨_, e1, e2, _⟩ | ⟨q, n0, _⟩ | ⟨q, n0, _⟩
  · exact ⟨e1, e2⟩
  · exact absurd h0 n0
  · exact absurd h0 n0
theorem TWo.giving (h : TWo Φ B p b G A X M w) (hk : k < 5) (h0 : (A k).o.ln ≠ 0) (hg : (A k).o.g ≠ []) : ∃ q, (X k).vg = .pointer (some ⟨q, 0, none⟩) ∧ (X k).vt = .pointer none ∧ PRepO false q (X k).fp (A k).o w := by
  rcases (h.each k hk).op with ⟨e, _⟩ | ⟨q, _, _, e1, e2, R⟩ | ⟨q, _, g0, _⟩
  · exact absurd e h0
  · exact ⟨q, e1, e2, R⟩
  · exact absurd g0 hg
theorem TWo.taking (h : TWo Φ B p b G A X M w) (hk : k < 5) (h0 : (A k).o.ln ≠ 0) (hg : (A k).o.g = []) : ∃ q, (X k).vg = .pointer none ∧ (X k).vt = .pointer (some ⟨q, 0, none⟩) ∧ PRepO true q (X k).fp (A k).o w := by
  rcases (h.each k hk).op with ⟨e, _⟩ | ⟨q, _, g0, _⟩ | ⟨q, _, _, e1, e2, R⟩
  · exact absurd e h0
  · exact absurd hg g0
  · exact ⟨q, e1, e2, R⟩
set_option maxRecDepth 100000 in
set_option maxHeartbeats 8000000 in
/-- A Give begins. -/
theorem thread_begG (h : TWo Φ B p b G A X M w) (hB : 1 < B) (hBw : B ≤ w.heap.size) (hk : k < 5) (hs : M.s.st < 1000000) (h0 : (A k).o.ln = 0) (hm : mayE (A k).held) (hok : ∀ e ∈ (A k).held, e.ok) (hl : (A k).held.length < 100000) :
    Calls Tryd.prog 18 #[.pointer (some ⟨G, k * 3, none⟩), .pointer (some ⟨p, 0, none⟩), .bool true] w (ThD Φ B p b G k A M true) := by
  have hbg : (A k).begin true = ⟨[], newG (A k).held⟩ := by unfold TS.begin; rw [if_pos h0, if_pos ⟨rfl, hm.1⟩]
  unfold ThD
  rw [hbg]
  obtain ⟨t0, ht0⟩ : ∃ t0 : TS, t0 = ⟨[], newG (A k).held⟩ := ⟨_, rfl⟩
  have HBEG := Lib.hid (fun (q : Nat) (fp : List Nat) (w' : World) hb hf R => h.begG (q := q) (fp := fp) (w' := w') hB hk h0 hm hBw hb hf R)
  rw [← ht0]
  generalize hO : oX t0.o M = O'
  obtain ⟨o', M'⟩ := O'
  have HOX := Lib.hid hO
  clear hO
  dsimp only
  have H0 := Lib.hid (show t0.o.ln ≠ 0 from by
    rw [ht0]
    show (newG (A k).held).ln ≠ 0
    unfold newG
    dsimp only
    rw [if_pos hm]
    split <;> decide)
  have HG := Lib.hid (show t0.o.g ≠ [] from by rw [ht0]; exact hm.1)
  have HOK0 := Lib.hid (show ONum t0.o from by rw [ht0]; exact ONum.newG _)
  have HGL := Lib.hid (show t0.o.g.length < 100000 from by rw [ht0]; exact hl)
  have HTE := Lib.hid ht0
  obtain ⟨e1, e2⟩ := h.idle hk h0
  obtain ⟨c0, c1, c2⟩ := h.cells hk
  have hrow := (h.each k hk).row
  obtain ⟨Ah, ch, hv, _⟩ := hrow.slice
  rw [hv] at c0 hrow
  rw [e1] at c1
  rw [e2] at c2
  have hnew := Lib.hid (newGive_all hrow.see hok hl)
  have hln : (0 : Int) < ((A k).held.length : Int) := by have := List.length_pos_iff.2 hm.1; omega
  have hh1 := Lib.hid (fun (w' : World) (hb : Below w.heap.size w w') => (h.below hb).cells hk)
  have hf1 := Lib.hid (fun (w' : World) (hb : Below w.heap.size w w') => (h.below hb).g)
  clear h hok hl hrow e1 e2 hbg hm hv ht0
  go_enter Tryd.func18, Tryd.ntmps18
  go_wp2_with fail
  ((with_reducible refine hnew.out.mono ?_); rintro e w1 ⟨q0, fp0, rfl, hf0, R0, hb0⟩)
  have hT := HBEG.out _ _ _ hb0 hf0 R0
  rw [← HTE.out] at hT
  have HT := Lib.hid hT
  have HBW2 := Lib.hid (show B ≤ ((w1.setCell ⟨G, k * 3 + 1, none⟩ (.pointer (some ⟨q0, 0, none⟩))).setCell ⟨G, k * 3, none⟩ (.slice none 0 0)).heap.size from by simp [World.setCell]; exact Nat.le_trans hBw hb0.size)
  have hg1 := hf1.out _ hb0
  have z1 := hg1.free (k * 3 + 1)
  have d1 := (hh1.out _ hb0).2.1
  have z0 := (hg1.set (k * 3 + 1) (.pointer (some ⟨q0, 0, none⟩)) rfl).free (k * 3)
  have d0 := (hg1.set (k * 3 + 1) (.pointer (some ⟨q0, 0, none⟩)) rfl).cell (k * 3)
  rw [List.getElem?_set_ne (by omega), (cellsT_at X hk).1] at d0
  clear hT hnew hb0 hf0 R0 hg1 c0 c1 c2 HBEG hh1 hf1
  go_upto_region 5 with (fail)
  clear z1 d1 z0 d0
  revert HBW2
  revert HT
  generalize hA9 : updF A k t0 = A9
  generalize updF X k ⟨.slice none 0 0, .pointer (some ⟨q0, 0, none⟩), (X k).vt, fp0⟩ = X9
  generalize ((w1.setCell ⟨G, k * 3 + 1, none⟩ (.pointer (some ⟨q0, 0, none⟩))).setCell ⟨G, k * 3, none⟩ (.slice none 0 0)) = w2
  intro HT
  have hk9 : A9 k = t0 := by rw [← hA9, updF_same]
  have HGO := Lib.hid (show ∀ t, updF A k t = updF A9 k t from fun t => by rw [← hA9, updF_upd])
  clear hA9
  intro HBW2
  have hBw2 : B ≤ w2.heap.size := HBW2.out
  obtain ⟨q, e1, e2, R⟩ := HT.out.giving hk (by rw [hk9]; exact H0.out) (by rw [hk9]; exact HG.out)
  rw [hk9] at R
  have hstep := Lib.hid (giveStep_all (fun y hy => Nat.lt_of_lt_of_le hB ((HT.out.each k hk).low y hy)) HT.out.mem hs HOK0.out HGL.out R)
  obtain ⟨c0, c1, c2⟩ := HT.out.cells hk
  rw [e1] at c1
  rw [e2] at c2
  have HOK := Lib.hid (HOK0.out.step (M := M) HT.out.mem.u64)
  have HE1 := Lib.hid e1
  have HE2 := Lib.hid e2
  have HROW := Lib.hid (show OwnE w2 B (X9 k).vh t0.held from by have := (HT.out.each k hk).row; rw [hk9] at this; exact this)
  clear R e1 e2 c0
  have hk9' : A9 k = t0 := hk9
  clear hk9
  have HK9 := Lib.hid hk9'
  clear hk9'
  rw [HOX.out] at hstep HOK
  dsimp only at hstep HOK
  go_wp2_with fail
  ((with_reducible refine hstep.out.mono ?_); rintro e w1 ⟨rfl, fp', hf, R', F', on⟩)
  have HF := Lib.hid hf
  have HR := Lib.hid R'
  have HM := Lib.hid F'
  have HON := Lib.hid on
  clear hstep hf R' F' c1 c2
  by_cases hn : o'.ln = 0
  · have hz : (o'.ln == 0) = true := beq_iff_eq.2 hn
    rw [hz]
    have hG1 := HT.out.g.onl on HT.out.gne.1 HT.out.gne.2 fun hy => (HT.out.ne hk (TI.mem_f hy)).2.2 rfl
    have z1 := hG1.free (k * 3 + 1)
    have c1 := (hG1.cell (k * 3 + 1)).trans (cellsT_at X9 hk).2.1
    have HN := Lib.hid hn
    clear on hG1 hz hn
    go_wp2_with fail
    ((try simp only [Exit.inBlock, Exit.then]); first | go_end0 | refine bodyPost_ret (results_none rfl _ _ _) rfl ?_)
    have hh := HT.out.gave (M' := M') hB hk (by rw [HK9.out]; exact H0.out) (by rw [HK9.out]; exact HG.out) (by rw [HK9.out, HOX.out]; exact HOK.out) (by rw [HK9.out, HOX.out]; exact HN.out) HM.out HON.out
    rw [HK9.out, HOX.out, ← HGO.out] at hh
    exact ⟨rfl, _, hh⟩
  · have hz : (o'.ln == 0) = false := beq_eq_false_iff_ne.2 hn
    rw [hz]
    have HN := Lib.hid hn
    clear on hz hn
    go_wp2_with fail
    ((try simp only [Exit.inBlock, Exit.then]); first | go_end0 | refine bodyPost_ret (results_none rfl _ _ _) rfl ?_)
    have hh := HT.out.stepped (M' := M') (fp' := fp') hk (by rw [HK9.out]; exact H0.out) (by rw [HK9.out, HOX.out]; exact HN.out) HM.out HF.out hBw2 HON.out ⟨fun g0 => absurd (by rw [HK9.out] at g0; exact g0) HG.out, fun _ => ⟨q, HE1.out, by rw [HK9.out, HOX.out]; exact HR.out⟩⟩
    rw [HK9.out, HOX.out, ← HGO.out] at hh
    exact ⟨rfl, _, hh⟩
set_option maxRecDepth 100000 in
set_option maxHeartbeats 8000000 in
/-- A Take begins. -/
theorem thread_begT (h : TWo Φ B p b G A X M w) (hB : 1 < B) (hBw : B ≤ w.heap.size) (hk : k < 5) (hs : M.s.st < 1000000) (h0 : (A k).o.ln = 0) (hl : (A k).held.length ≤ 1000) :
    Calls Tryd.prog 18 #[.pointer (some ⟨G, k * 3, none⟩), .pointer (some ⟨p, 0, none⟩), .bool false] w (ThD Φ B p b G k A M false) := by
  obtain ⟨i0, hi0, hz0, hz1, hz2⟩ := info_parts infoE
  have hbg : (A k).begin false = ⟨(A k).held, newT⟩ := by unfold TS.begin; rw [if_pos h0, if_neg (fun e => by cases e.1)]
  unfold ThD
  rw [hbg]
  obtain ⟨t0, ht0⟩ : ∃ t0 : TS, t0 = ⟨(A k).held, newT⟩ := ⟨_, rfl⟩
  have HBEG := Lib.hid (fun (q : Nat) (fp : List Nat) (w' : World) hb hf R => h.begT (q := q) (fp := fp) (w' := w') hB hk h0 hBw hb hf R)
  rw [← ht0]
  generalize hO : oX t0.o M = O'
  obtain ⟨o', M'⟩ := O'
  have HOX := Lib.hid hO
  clear hO
  dsimp only
  have H0 := Lib.hid (show t0.o.ln ≠ 0 from by rw [ht0]; show newT.ln ≠ 0; decide)
  have HG := Lib.hid (show t0.o.g = [] from by rw [ht0]; rfl)
  have HOK0 := Lib.hid (show ONum t0.o from by rw [ht0]; exact ONum.newT)
  have HGL := Lib.hid (show t0.o.g.length < 100000 from by rw [ht0]; show newT.g.length < 100000; decide)
  have HL := Lib.hid (show t0.held.length ≤ 1000 from by rw [ht0]; exact hl)
  have HTE := Lib.hid ht0
  obtain ⟨e1, e2⟩ := h.idle hk h0
  obtain ⟨c0, c1, c2⟩ := h.cells hk
  have hrow := (h.each k hk).row
  obtain ⟨Ah, ch, hv, _⟩ := hrow.slice
  rw [hv] at c0
  rw [e1] at c1
  rw [e2] at c2
  have hh1 := Lib.hid (fun (w' : World) (hb : Below w.heap.size w w') => (h.below hb).cells hk)
  have hf1 := Lib.hid (fun (w' : World) (hb : Below w.heap.size w w') => (h.below hb).g)
  clear h hl hrow e1 e2 hbg hv ht0
  go_enter Tryd.func18, Tryd.ntmps18
  go_wp2_with fail
  ((with_reducible refine (newTake_all _).mono ?_); rintro e w1 ⟨q0, fp0, rfl, hf0, R0, hb0⟩)
  have hT := HBEG.out _ _ _ hb0 hf0 R0
  rw [← HTE.out] at hT
  have HT := Lib.hid hT
  have HBW2 := Lib.hid (show B ≤ (w1.setCell ⟨G, k * 3 + 2, none⟩ (.pointer (some ⟨q0, 0, none⟩))).heap.size from by simp [World.setCell]; exact Nat.le_trans hBw hb0.size)
  have hg1 := hf1.out _ hb0
  have z1 := hg1.free (k * 3 + 2)
  have d1 := (hh1.out _ hb0).2.2
  clear hT hb0 hf0 R0 hg1 c0 c1 c2 HBEG hh1 hf1
  go_upto_region 5 with (fail)
  clear z1 d1
  revert HBW2
  revert HT
  generalize hA9 : updF A k t0 = A9
  generalize updF X k ⟨(X k).vh, (X k).vg, .pointer (some ⟨q0, 0, none⟩), fp0⟩ = X9
  generalize (w1.setCell ⟨G, k * 3 + 2, none⟩ (.pointer (some ⟨q0, 0, none⟩))) = w2
  intro HT
  have hk9 : A9 k = t0 := by rw [← hA9, updF_same]
  have HGO := Lib.hid (show ∀ t, updF A k t = updF A9 k t from fun t => by rw [← hA9, updF_upd])
  clear hA9
  intro HBW2
  have hBw2 : B ≤ w2.heap.size := HBW2.out
  obtain ⟨q, e1, e2, R⟩ := HT.out.taking hk (by rw [hk9]; exact H0.out) (by rw [hk9]; exact HG.out)
  rw [hk9] at R
  have hstep := Lib.hid (takeStep_all (fun y hy => Nat.lt_of_lt_of_le hB ((HT.out.each k hk).low y hy)) HT.out.mem hs HOK0.out HGL.out R)
  obtain ⟨c0, c1, c2⟩ := HT.out.cells hk
  rw [e1] at c1
  rw [e2] at c2
  have HOK := Lib.hid (HOK0.out.step (M := M) HT.out.mem.u64)
  have HGN := Lib.hid (((HOK0.out.step (M := M) HT.out.mem.u64).tk (by rw [oX_g]; exact HG.out)).2.1)
  have HE1 := Lib.hid e1
  have HE2 := Lib.hid e2
  have HROW := Lib.hid (show OwnE w2 B (X9 k).vh t0.held from by have := (HT.out.each k hk).row; rw [hk9] at this; exact this)
  clear R e1 e2 c0
  have hk9' : A9 k = t0 := hk9
  clear hk9
  have HK9 := Lib.hid hk9'
  clear hk9'
  rw [HOX.out] at hstep HOK HGN
  dsimp only at hstep HOK HGN
  go_wp2_with fail
  ((with_reducible refine hstep.out.mono ?_); rintro e w1 ⟨rfl, fp', hf, R', F', on⟩)
  have HF := Lib.hid hf
  have HR := Lib.hid R'
  have HM := Lib.hid F'
  have HON := Lib.hid on
  clear hstep hf R' F' c1 c2
  by_cases hn : o'.ln = 0
  · have hz : (o'.ln == 0) = true := beq_iff_eq.2 hn
    rw [hz]
    have hG1 := HT.out.g.onl on HT.out.gne.1 HT.out.gne.2 fun hy => (HT.out.ne hk (TI.mem_f hy)).2.2 rfl
    have HN := Lib.hid hn
    have HG1 := Lib.hid hG1
    have HGD := Lib.hid (hG1.below (Below.refl _ w1).drew)
    have HRD := Lib.hid (HR.out.same (w' := w1.drew) fun y hy => rfl)
    have HRW := Lib.hid (show OwnE w1 B (X9 k).vh t0.held from HROW.out.same fun g hg => on.block g (HROW.out.lt hg) (HT.out.ne hk (TI.mem_h hg)).1 (HT.out.ne hk (TI.mem_h hg)).2.1 fun hy => (HT.out.each k hk).ap g hy hg)
    have c2 := (HGD.out.cell (k * 3 + 2)).trans (cellsT_at X9 hk).2.2
    rw [HE2.out] at c2
    have c0 := (HGD.out.cell (k * 3)).trans (cellsT_at X9 hk).1
    have hgot := Lib.hid (gotT_all HOK.out HRD.out)
    clear on hG1 hz hn
    have HRD2 := Lib.hid (HRW.out.below (Below.refl _ w1).drew)
    go_upto_region 7 with (fail)
    go_region_law (first
      | (revert HSE2; intro HSE2; refine step_append_see hi0 hz0 hz1 hz2 rfl (.tmp 57) (.tmp 62) rfl B (X9 k).vh t0.held (by first | rfl | simp [Act.eval]) HRW2.out (.slice Ag o'.got.length kg) o'.got (by first | rfl | simp [Act.eval]) HSE2.out (by have := HL.out; have := HGN.out; omega) HB2.out ?_; intro v3 w3 h3 g3 b3; obtain ⟨A3, c3, rfl⟩ := ownsRow_form h3; have HK3 := Lib.hid (show _ ∧ _ ∧ _ from ⟨h3, g3, b3⟩); have hG3 := HGD2.out.same (g3.block G HGD2.out.lt fun e => (HT.out.ne hk (TI.mem_h e.symm)).2.2 rfl); have c0c := (hG3.cell (k * 3)).trans (cellsT_at X9 hk).1; have z0c := hG3.free (k * 3); have hG4 := hG3.set (k * 3) (.slice A3 (t0.held.length + o'.got.length) c3) rfl; have z2c := hG4.free (k * 3 + 2); have HG4 := Lib.hid hG4; clear h3 g3 b3 hG3 hG4)
      | (go_simp; go_at_call 15; (with_reducible refine hgot.out.mono ?_); rintro ee w2 ⟨Ag, kg, xs, hxs, rfl, ho2, hb2⟩; rw [if_pos HN.out] at hxs; subst hxs; have HSE2 := Lib.hid ho2.see; have HRW2 := Lib.hid (HRD2.out.below hb2); have HGD2 := Lib.hid (HGD.out.below hb2); have c0b := (HGD2.out.cell (k * 3)).trans (cellsT_at X9 hk).1; have HB2 := Lib.hid (show B ≤ w2.heap.size from Nat.le_trans hBw2 (Nat.le_trans HON.out.size hb2.size)); have HB12 := Lib.hid (show Below w1.heap.size w1 w2 from (show Below w1.heap.size w1 w1.drew from (Below.refl _ w1).drew).trans hb2); clear ho2 hb2))
    all_goals
      have c2d := HG4.out.cell (k * 3 + 2)
      rw [List.getElem?_set_ne (by omega), (cellsT_at X9 hk).2.2] at c2d
      go_wp2_with fail
      ((try simp only [Exit.inBlock, Exit.then]); first | go_end0 | refine bodyPost_ret (results_none rfl _ _ _) rfl ?_)
      have hh := HT.out.took (M' := M') (v' := .slice A3 (t0.held.length + o'.got.length) c3) hB hBw2 hk (by rw [HK9.out]; exact H0.out) (by rw [HK9.out]; exact HG.out) (by rw [HK9.out, HOX.out]; exact HN.out) HM.out HON.out HB12.out (by rw [HK9.out, HOX.out]; exact HK3.out.1) HK3.out.2.1 HK3.out.2.2
      rw [HK9.out, HOX.out, ← HGO.out] at hh
      exact ⟨rfl, _, hh⟩
  · have hz : (o'.ln == 0) = false := beq_eq_false_iff_ne.2 hn
    rw [hz]
    have HN := Lib.hid hn
    clear on hz hn
    go_wp2_with fail
    ((try simp only [Exit.inBlock, Exit.then]); first | go_end0 | refine bodyPost_ret (results_none rfl _ _ _) rfl ?_)
    have hh := HT.out.stepped (M' := M') (fp' := fp') hk (by rw [HK9.out]; exact H0.out) (by rw [HK9.out, HOX.out]; exact HN.out) HM.out HF.out hBw2 HON.out ⟨fun _ => ⟨q, HE2.out, by rw [HK9.out, HOX.out]; exact HR.out⟩, fun g0 => absurd HG.out (by rw [HK9.out] at g0; exact g0)⟩
    rw [HK9.out, HOX.out, ← HGO.out] at hh
    exact ⟨rfl, _, hh⟩
set_option maxRecDepth 100000 in
set_option maxHeartbeats 8000000 in
/-- A Take begins. -/
theorem thread_begE (h : TWo Φ B p b G A X M w) (hB : 1 < B) (hBw : B ≤ w.heap.size) (hk : k < 5) (hs : M.s.st < 1000000) (h0 : (A k).o.ln = 0) (he : (A k).held = []) (hl : (A k).held.length ≤ 1000) :
    Calls Tryd.prog 18 #[.pointer (some ⟨G, k * 3, none⟩), .pointer (some ⟨p, 0, none⟩), .bool true] w (ThD Φ B p b G k A M true) := by
  obtain ⟨i0, hi0, hz0, hz1, hz2⟩ := info_parts infoE
  have hbg : (A k).begin true = ⟨(A k).held, newT⟩ := by unfold TS.begin; rw [if_pos h0, if_neg (fun e => e.2 he)]
  unfold ThD
  rw [hbg]
  obtain ⟨t0, ht0⟩ : ∃ t0 : TS, t0 = ⟨(A k).held, newT⟩ := ⟨_, rfl⟩
  have HBEG := Lib.hid (fun (q : Nat) (fp : List Nat) (w' : World) hb hf R => h.begT (q := q) (fp := fp) (w' := w') hB hk h0 hBw hb hf R)
  rw [← ht0]
  generalize hO : oX t0.o M = O'
  obtain ⟨o', M'⟩ := O'
  have HOX := Lib.hid hO
  clear hO
  dsimp only
  have H0 := Lib.hid (show t0.o.ln ≠ 0 from by rw [ht0]; show newT.ln ≠ 0; decide)
  have HG := Lib.hid (show t0.o.g = [] from by rw [ht0]; rfl)
  have HOK0 := Lib.hid (show ONum t0.o from by rw [ht0]; exact ONum.newT)
  have HGL := Lib.hid (show t0.o.g.length < 100000 from by rw [ht0]; show newT.g.length < 100000; decide)
  have HL := Lib.hid (show t0.held.length ≤ 1000 from by rw [ht0]; exact hl)
  have HTE := Lib.hid ht0
  obtain ⟨e1, e2⟩ := h.idle hk h0
  obtain ⟨c0, c1, c2⟩ := h.cells hk
  have hrow := (h.each k hk).row
  obtain ⟨Ah, ch, hv, _⟩ := hrow.slice
  rw [hv] at c0
  rw [he] at c0
  have c0 : w.cell? ⟨G, k * 3, none⟩ = some (.slice Ah 0 ch) := c0
  rw [e1] at c1
  rw [e2] at c2
  have hh1 := Lib.hid (fun (w' : World) (hb : Below w.heap.size w w') => (h.below hb).cells hk)
  have hf1 := Lib.hid (fun (w' : World) (hb : Below w.heap.size w w') => (h.below hb).g)
  clear h hl hrow e1 e2 hbg hv ht0 he
  go_enter Tryd.func18, Tryd.ntmps18
  go_wp2_with fail
  ((with_reducible refine (newTake_all _).mono ?_); rintro e w1 ⟨q0, fp0, rfl, hf0, R0, hb0⟩)
  have hT := HBEG.out _ _ _ hb0 hf0 R0
  rw [← HTE.out] at hT
  have HT := Lib.hid hT
  have HBW2 := Lib.hid (show B ≤ (w1.setCell ⟨G, k * 3 + 2, none⟩ (.pointer (some ⟨q0, 0, none⟩))).heap.size from by simp [World.setCell]; exact Nat.le_trans hBw hb0.size)
  have hg1 := hf1.out _ hb0
  have z1 := hg1.free (k * 3 + 2)
  have d1 := (hh1.out _ hb0).2.2
  clear hT hb0 hf0 R0 hg1 c0 c1 c2 HBEG hh1 hf1
  go_upto_region 5 with (fail)
  clear z1 d1
  revert HBW2
  revert HT
  generalize hA9 : updF A k t0 = A9
  generalize updF X k ⟨(X k).vh, (X k).vg, .pointer (some ⟨q0, 0, none⟩), fp0⟩ = X9
  generalize (w1.setCell ⟨G, k * 3 + 2, none⟩ (.pointer (some ⟨q0, 0, none⟩))) = w2
  intro HT
  have hk9 : A9 k = t0 := by rw [← hA9, updF_same]
  have HGO := Lib.hid (show ∀ t, updF A k t = updF A9 k t from fun t => by rw [← hA9, updF_upd])
  clear hA9
  intro HBW2
  have hBw2 : B ≤ w2.heap.size := HBW2.out
  obtain ⟨q, e1, e2, R⟩ := HT.out.taking hk (by rw [hk9]; exact H0.out) (by rw [hk9]; exact HG.out)
  rw [hk9] at R
  have hstep := Lib.hid (takeStep_all (fun y hy => Nat.lt_of_lt_of_le hB ((HT.out.each k hk).low y hy)) HT.out.mem hs HOK0.out HGL.out R)
  obtain ⟨c0, c1, c2⟩ := HT.out.cells hk
  rw [e1] at c1
  rw [e2] at c2
  have HOK := Lib.hid (HOK0.out.step (M := M) HT.out.mem.u64)
  have HGN := Lib.hid (((HOK0.out.step (M := M) HT.out.mem.u64).tk (by rw [oX_g]; exact HG.out)).2.1)
  have HE1 := Lib.hid e1
  have HE2 := Lib.hid e2
  have HROW := Lib.hid (show OwnE w2 B (X9 k).vh t0.held from by have := (HT.out.each k hk).row; rw [hk9] at this; exact this)
  clear R e1 e2 c0
  have hk9' : A9 k = t0 := hk9
  clear hk9
  have HK9 := Lib.hid hk9'
  clear hk9'
  rw [HOX.out] at hstep HOK HGN
  dsimp only at hstep HOK HGN
  go_wp2_with fail
  ((with_reducible refine hstep.out.mono ?_); rintro e w1 ⟨rfl, fp', hf, R', F', on⟩)
  have HF := Lib.hid hf
  have HR := Lib.hid R'
  have HM := Lib.hid F'
  have HON := Lib.hid on
  clear hstep hf R' F' c1 c2
  by_cases hn : o'.ln = 0
  · have hz : (o'.ln == 0) = true := beq_iff_eq.2 hn
    rw [hz]
    have hG1 := HT.out.g.onl on HT.out.gne.1 HT.out.gne.2 fun hy => (HT.out.ne hk (TI.mem_f hy)).2.2 rfl
    have HN := Lib.hid hn
    have HG1 := Lib.hid hG1
    have HGD := Lib.hid (hG1.below (Below.refl _ w1).drew)
    have HRD := Lib.hid (HR.out.same (w' := w1.drew) fun y hy => rfl)
    have HRW := Lib.hid (show OwnE w1 B (X9 k).vh t0.held from HROW.out.same fun g hg => on.block g (HROW.out.lt hg) (HT.out.ne hk (TI.mem_h hg)).1 (HT.out.ne hk (TI.mem_h hg)).2.1 fun hy => (HT.out.each k hk).ap g hy hg)
    have c2 := (HGD.out.cell (k * 3 + 2)).trans (cellsT_at X9 hk).2.2
    rw [HE2.out] at c2
    have c0 := (HGD.out.cell (k * 3)).trans (cellsT_at X9 hk).1
    have hgot := Lib.hid (gotT_all HOK.out HRD.out)
    clear on hG1 hz hn
    have HRD2 := Lib.hid (HRW.out.below (Below.refl _ w1).drew)
    go_upto_region 7 with (fail)
    go_region_law (first
      | (revert HSE2; intro HSE2; refine step_append_see hi0 hz0 hz1 hz2 rfl (.tmp 57) (.tmp 62) rfl B (X9 k).vh t0.held (by first | rfl | simp [Act.eval]) HRW2.out (.slice Ag o'.got.length kg) o'.got (by first | rfl | simp [Act.eval]) HSE2.out (by have := HL.out; have := HGN.out; omega) HB2.out ?_; intro v3 w3 h3 g3 b3; obtain ⟨A3, c3, rfl⟩ := ownsRow_form h3; have HK3 := Lib.hid (show _ ∧ _ ∧ _ from ⟨h3, g3, b3⟩); have hG3 := HGD2.out.same (g3.block G HGD2.out.lt fun e => (HT.out.ne hk (TI.mem_h e.symm)).2.2 rfl); have c0c := (hG3.cell (k * 3)).trans (cellsT_at X9 hk).1; have z0c := hG3.free (k * 3); have hG4 := hG3.set (k * 3) (.slice A3 (t0.held.length + o'.got.length) c3) rfl; have z2c := hG4.free (k * 3 + 2); have HG4 := Lib.hid hG4; clear h3 g3 b3 hG3 hG4)
      | (go_simp; go_at_call 15; (with_reducible refine hgot.out.mono ?_); rintro ee w2 ⟨Ag, kg, xs, hxs, rfl, ho2, hb2⟩; rw [if_pos HN.out] at hxs; subst hxs; have HSE2 := Lib.hid ho2.see; have HRW2 := Lib.hid (HRD2.out.below hb2); have HGD2 := Lib.hid (HGD.out.below hb2); have c0b := (HGD2.out.cell (k * 3)).trans (cellsT_at X9 hk).1; have HB2 := Lib.hid (show B ≤ w2.heap.size from Nat.le_trans hBw2 (Nat.le_trans HON.out.size hb2.size)); have HB12 := Lib.hid (show Below w1.heap.size w1 w2 from (show Below w1.heap.size w1 w1.drew from (Below.refl _ w1).drew).trans hb2); clear ho2 hb2))
    all_goals
      have c2d := HG4.out.cell (k * 3 + 2)
      rw [List.getElem?_set_ne (by omega), (cellsT_at X9 hk).2.2] at c2d
      go_wp2_with fail
      ((try simp only [Exit.inBlock, Exit.then]); first | go_end0 | refine bodyPost_ret (results_none rfl _ _ _) rfl ?_)
      have hh := HT.out.took (M' := M') (v' := .slice A3 (t0.held.length + o'.got.length) c3) hB hBw2 hk (by rw [HK9.out]; exact H0.out) (by rw [HK9.out]; exact HG.out) (by rw [HK9.out, HOX.out]; exact HN.out) HM.out HON.out HB12.out (by rw [HK9.out, HOX.out]; exact HK3.out.1) HK3.out.2.1 HK3.out.2.2
      rw [HK9.out, HOX.out, ← HGO.out] at hh
      exact ⟨rfl, _, hh⟩
  · have hz : (o'.ln == 0) = false := beq_eq_false_iff_ne.2 hn
    rw [hz]
    have HN := Lib.hid hn
    clear on hz hn
    go_wp2_with fail
    ((try simp only [Exit.inBlock, Exit.then]); first | go_end0 | refine bodyPost_ret (results_none rfl _ _ _) rfl ?_)
    have hh := HT.out.stepped (M' := M') (fp' := fp') hk (by rw [HK9.out]; exact H0.out) (by rw [HK9.out, HOX.out]; exact HN.out) HM.out HF.out hBw2 HON.out ⟨fun _ => ⟨q, HE2.out, by rw [HK9.out, HOX.out]; exact HR.out⟩, fun g0 => absurd HG.out (by rw [HK9.out] at g0; exact g0)⟩
    rw [HK9.out, HOX.out, ← HGO.out] at hh
    exact ⟨rfl, _, hh⟩
end
end Go.Proofs.YtjpanofkikfeoaaDoor
