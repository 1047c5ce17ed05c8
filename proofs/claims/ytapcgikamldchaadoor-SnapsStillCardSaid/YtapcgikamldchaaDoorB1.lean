/-
  A memory of which each word, the count of steps and the last access are known: what each call on it does; blocks known whole; what is left alone but for some blocks; condition: the tables as laid, the memory lies as it says, numbers of their kinds.
-/
import Derived.Test.YtapcgikamldchaaDoorF1
import Derived.Test.YtapcgikamldchaaDoorVM1
import Derived.Test.YtapcgikamldchaaDoorAcc
namespace Go.Proofs.YtapcgikamldchaaDoor
open Go.RowKit Go.Maps

/-- A block of which all cells are known. -/
def Bq (e : Nat) (t : TypeId) (cs : List Value) (w : World) : Prop := w.heap[e]? = some (.cells cs.toArray t (0, 0))
/-- Nothing that lay has turned but both blocks of a memory, and some more. -/
structure Onl (p b : Nat) (E : List Nat) (X Y : World) : Prop where
  os : Y.os = X.os
  tape : Y.tape = X.tape
  output : Y.output = X.output
  size : X.heap.size ≤ Y.heap.size
  block : ∀ k, k < X.heap.size → k ≠ p → k ≠ b → k ∉ E → Y.heap[k]? = X.heap[k]?
section
variable {p b e q : Nat} {E E' : List Nat} {t : TypeId} {cs : List Value} {w w' X Y Z : World}
theorem Bq.cell (k : Bq e t cs w) (i : Nat) : w.cell? ⟨e, i, none⟩ = cs[i]? := by
  unfold Bq at k
  simp [World.cell?, k]
theorem Bq.free (k : Bq e t cs w) (i : Nat) : w.frozen? ⟨e, i, none⟩ = false := by
  unfold Bq at k
  simp [World.frozen?, k]
theorem Bq.lt (k : Bq e t cs w) : e < w.heap.size := (Array.getElem?_eq_some_iff.1 k).1
theorem Bq.same (k : Bq e t cs w) (hb : w'.heap[e]? = w.heap[e]?) : Bq e t cs w' := hb.trans k
theorem Bq.below (k : Bq e t cs w) (hb : Below w.heap.size w w') : Bq e t cs w' := k.same (hb.block e k.lt)
theorem Bq.set (k : Bq e t cs w) (i : Nat) (v : Value) {cs' : List Value} (h : cs' = cs.set i v) : Bq e t cs' (w.setCell ⟨e, i, none⟩ v) := by
  subst h
  have := setCell_blk k i v
  unfold Bq
  simpa using this
theorem Bq.new (w : World) (cs : List Value) (t : TypeId) : Bq w.heap.size t cs (w.alloc (.cells cs.toArray t)) := alloc_blk _ _
theorem Bq.ne {u : TypeId} {ds : List Value} (k : Bq e t cs w) (j : Bq q u ds w) (h : t ≠ u) : e ≠ q := by
  rintro rfl
  have := k.symm.trans j
  simp only [Option.some.injEq, Obj.cells.injEq] at this
  exact h this.2.1
theorem Bq.setO (k : Bq e t cs w) (h : e ≠ q) (i : Nat) (v : Value) : Bq e t cs (w.setCell ⟨q, i, none⟩ v) := k.same (Below.heap_setCell w ⟨q, i, none⟩ v e h)
theorem Bq.onl (k : Bq e t cs X) (h : Onl p b E X Y) (h1 : e ≠ p) (h2 : e ≠ b) (h3 : e ∉ E) : Bq e t cs Y := k.same (h.block e k.lt h1 h2 h3)
theorem Onl.trans (h : Onl p b E X Y) (k : Onl p b E Y Z) : Onl p b E X Z :=
  ⟨k.os.trans h.os, k.tape.trans h.tape, k.output.trans h.output, Nat.le_trans h.size k.size, fun j hj h1 h2 h3 => (k.block j (Nat.lt_of_lt_of_le hj h.size) h1 h2 h3).trans (h.block j hj h1 h2 h3)⟩
theorem Onl.of_only (h : Only p b X Y) : Onl p b E X Y := ⟨h.os, h.tape, h.output, h.size, fun k hk h1 h2 _ => h.block k hk h1 h2⟩
theorem Onl.of_below (h : Below X.heap.size X Y) : Onl p b E X Y := .of_only (.of_below h)
theorem Onl.refl (X : World) : Onl p b E X X := .of_below (Below.refl _ X)
theorem Onl.of_only3 (h : Only3 p b q X Y) (hq : q ∈ E) : Onl p b E X Y := ⟨h.os, h.tape, h.output, h.size, fun k hk h1 h2 h3 => h.block k hk h1 h2 (fun e => h3 (e ▸ hq))⟩
theorem Onl.more (h : Onl p b E X Y) (hE : ∀ x ∈ E, x ∈ E') : Onl p b E' X Y := ⟨h.os, h.tape, h.output, h.size, fun k hk h1 h2 h3 => h.block k hk h1 h2 (fun e => h3 (hE k e))⟩
theorem Onl.setCell (X : World) (hq : q ∈ E) (i : Nat) (v : Value) : Onl p b E X (X.setCell ⟨q, i, none⟩ v) :=
  ⟨rfl, rfl, rfl, by simp [World.setCell], fun k _ _ _ h3 => Below.heap_setCell X ⟨q, i, none⟩ v k (fun e => h3 (e ▸ hq))⟩
/-- A block that was not there yet counts as nothing. -/
theorem Onl.fresh (h : Onl p b (e :: E) X Y) (he : X.heap.size ≤ e) : Onl p b E X Y := ⟨h.os, h.tape, h.output, h.size, fun k hk h1 h2 h3 => h.block k hk h1 h2 (by simp only [List.mem_cons, not_or]; exact ⟨by omega, h3⟩)⟩
theorem Onl.below {B : Nat} (h : Onl p b E X Y) (hp : B ≤ p) (hb : B ≤ b) (hE : ∀ x ∈ E, B ≤ x) (hB : B ≤ X.heap.size) : Below B X Y :=
  ⟨h.os, h.tape, h.output, h.size, fun k hk => h.block k (by omega) (by omega) (by omega) (fun e => by have := hE k e; omega)⟩
theorem Onl.lay (_h : Onl p b E X Y) (_hp : 0 < p) (_hb : 0 < b) (_hE : ∀ x ∈ E, 0 < x) (_hl : Lay X) : Lay Y := Lay.all Y
theorem Onl.laym (h : Onl p b E X Y) (hp : 0 < p) (hb : 0 < b) (hE : ∀ x ∈ E, 0 < x) (hl : LayM X) : LayM Y := hl.same h.size (h.block 0 hl.1 (by omega) (by omega) (fun e => by have := hE _ e; omega))
end

/-- What a memory holds: its words, the count of steps with the last access. -/
structure MV where
  V : Ad → Int
  s : Acc8
def ldM (M : MV) (x : Ad) : MV := ⟨M.V, M.s.touch 1 x (M.V x) (M.V x) false⟩
def stM (M : MV) (x : Ad) (v : Int) : MV := ⟨setV M.V x v, M.s.touch 2 x (M.V x) (setV M.V x v x) false⟩
def csV (V : Ad → Int) (x : Ad) (u v : Int) : Ad → Int := if casV V x u = true then setV V x v else V
def csM (M : MV) (x : Ad) (u v : Int) : MV := ⟨csV M.V x u v, M.s.touch 3 x (M.V x) (csV M.V x u v x) (casV M.V x u)⟩
/-- The words in a map: none is there that is 0. -/
structure Rq (D : DataW Unit) : Prop where
  map : IsMap D
  has : ∀ x : Ad, has D x.lit = true ↔ valD D x ≠ 0
theorem rq_nil : Rq (.map []) := ⟨isMap_empty, fun _ => by simp [Maps.has, valD, DataW.atKey]⟩
theorem Rq.put {D : DataW Unit} (h : Rq D) (x : Ad) (v : Int) : Rq (putD D x v) := by
  refine ⟨isMap_putD h.map x v, fun z => ?_⟩
  by_cases e : x = z
  · subst e; rw [has_put_same' _ h.map, valD_put_same _ h.map]; simp
  · rw [has_put_other' _ (Ne.symm e), valD_put_other _ (Ne.symm e), h.has]
theorem Rq.store {D : DataW Unit} (h : Rq D) (x : Ad) (v : Int) : Rq (storeD D x v) := by
  unfold storeD
  split
  · exact h.put x v
  · exact h
theorem Rq.cas {D : DataW Unit} (h : Rq D) (x : Ad) (u v : Int) : Rq (casD D x u v) := by
  unfold casD
  split
  · exact h.put x v
  · exact h
/-- A memory that holds that: its struct in block p, its map in block b. -/
structure VX (p b : Nat) (M : MV) (w : World) : Prop where
  mem : ∃ (n : Nat) (D : DataW Unit), (n : Int) ≤ M.s.st ∧ Rq D ∧ PM p b n D M.s.st M.s.ak M.s.k M.s.a M.s.f M.s.was M.s.is M.s.done w ∧ ∀ x, valD D x = M.V x
  lay : Lay w
  laym : LayM w
  p1 : 0 < p
  b1 : 0 < b
section
variable {p b q e : Nat} {E : List Nat} {t : TypeId} {M : MV} {cs : List Value} {w w' : World}
theorem VX.st0 (F : VX p b M w) : 0 ≤ M.s.st := by
  obtain ⟨⟨n, D, h1, _⟩, _⟩ := F
  omega
theorem VX.below (F : VX p b M w) (hb : Below w.heap.size w w') : VX p b M w' := by
  obtain ⟨⟨n, D, h1, h2, h3, h4⟩, hl, hm, hp, hq⟩ := F
  exact ⟨⟨n, D, h1, h2, h3.below hb, h4⟩, hl.below hb, hm.below hb, hp, hq⟩
theorem VX.lt (F : VX p b M w) : p < w.heap.size ∧ b < w.heap.size := by
  obtain ⟨⟨n, D, h1, h2, h3, h4⟩, _⟩ := F
  exact ⟨h3.lt, h3.own.lt⟩
theorem VX.u64 (F : VX p b M w) (x : Ad) : U64 (M.V x) := by
  obtain ⟨⟨n, D, h1, h2, h3, h4⟩, _⟩ := F
  rw [← h4]
  exact h3.val_u64 x
theorem VX.objs (F : VX p b M w) : (∃ cs, w.heap[p]? = some (.cells cs 90 (0, 0))) ∧ ∃ es c, w.heap[b]? = some (.map es c) := by
  obtain ⟨⟨n, D, h1, h2, h3, h4⟩, _⟩ := F
  obtain ⟨es, c, hb, _⟩ := h3.own
  exact ⟨⟨_, h3.blk⟩, es, c, hb⟩
theorem VX.ne (F : VX p b M w) (ht : t ≠ 90) (o : Bq q t cs w) : q ≠ p ∧ q ≠ b := by
  obtain ⟨⟨cp, hp⟩, es, c, hb⟩ := F.objs
  constructor
  · rintro rfl
    have := hp.symm.trans o
    simp only [Option.some.injEq, Obj.cells.injEq] at this
    exact ht this.2.1.symm
  · rintro rfl
    have := hb.symm.trans o
    simp at this
theorem VX.keep (F : VX p b M w) (_hs : w.heap.size ≤ w'.heap.size) (hp : w'.heap[p]? = w.heap[p]?) (hb : w'.heap[b]? = w.heap[b]?) (_h0 : w'.heap[0]? = w.heap[0]?) (h1 : w'.heap[0]? = w.heap[0]?) : VX p b M w' := by
  obtain ⟨⟨n, D, g1, g2, g3, g4⟩, hl, hm, hp1, hb1⟩ := F
  exact ⟨⟨n, D, g1, g2, g3.keep3 hp hb, g4⟩, Lay.all w', hm.same _hs h1, hp1, hb1⟩
theorem VX.setQ (F : VX p b M w) (hp : q ≠ p) (hb : q ≠ b) (hq : 0 < q) (i : Nat) (v : Value) : VX p b M (w.setCell ⟨q, i, none⟩ v) :=
  F.keep (by simp [World.setCell]) (Below.heap_setCell w ⟨q, i, none⟩ v p (Ne.symm hp)) (Below.heap_setCell w ⟨q, i, none⟩ v b (Ne.symm hb)) (Below.heap_setCell w ⟨q, i, none⟩ v _ (fun e => by simp only at e; omega)) (Below.heap_setCell w ⟨q, i, none⟩ v _ (fun e => by simp only at e; omega))
theorem rel_valD {D : DataW Unit} (h : Rq D) {V : Ad → Int} (hV : ∀ x, valD D x = V x) (x : Ad) (v : Int) (y : Ad) : valD (storeD D x v) y = setV V x v y := by
  rw [valD_store h.map, show valD D = V from funext hV]
theorem VX.load (F : VX p b M w) (hs : M.s.st < 1000000) (x : Ad) :
    Calls Tryd.prog 38 #[.pointer (some ⟨p, 0, none⟩), .agg #[.int .u8 x.k, .int .i64 x.a, .int .i64 x.f]] w fun e w' => e = .returned (.int .u64 (M.V x)) ∧ VX p b (ldM M x) w' ∧ Only p b w w' := by
  have h0 := F.st0
  obtain ⟨⟨n, D, h1, h2, h3, h4⟩, hl, hm, hp, hb⟩ := F
  refine (load_prog p b n D M.s.st _ _ _ _ _ _ _ x h0 (by omega) w h3).mono ?_
  rintro e w' ⟨rfl, m', ho⟩
  rw [h4] at m' ⊢
  exact ⟨rfl, ⟨⟨n, D, by show (n : Int) ≤ M.s.st + 1; omega, h2, m', h4⟩, ho.layV hp hb hl, ho.laymV hp hb hm, hp, hb⟩, ho⟩
theorem VX.store (F : VX p b M w) (hs : M.s.st < 1000000) (x : Ad) (v : Int) (hv : U64 v) :
    Calls Tryd.prog 25 #[.pointer (some ⟨p, 0, none⟩), .agg #[.int .u8 x.k, .int .i64 x.a, .int .i64 x.f], .int .u64 v] w fun e w' => e = .returned (.tuple #[]) ∧ VX p b (stM M x v) w' ∧ Only p b w w' := by
  have h0 := F.st0
  obtain ⟨⟨n, D, h1, h2, h3, h4⟩, hl, hm, hp, hb⟩ := F
  refine (store_prog p b n D M.s.st _ _ _ _ _ _ _ x v (u64w hv) h0 (by omega) (by omega) w hm h3).mono ?_
  rintro e w' ⟨rfl, m', ho⟩
  have hv' := rel_valD h2 h4 x v
  rw [h4, hv'] at m'
  exact ⟨rfl, ⟨⟨n + 1, _, by show ((n + 1 : Nat) : Int) ≤ M.s.st + 1; omega, h2.store x v, m', hv'⟩, ho.layV hp hb hl, ho.laymV hp hb hm, hp, hb⟩, ho⟩
theorem VX.steps (F : VX p b M w) : Calls Tryd.prog 19 #[.pointer (some ⟨p, 0, none⟩)] w fun e w' => e = .returned (.int .i64 M.s.st) ∧ w = w' := by
  obtain ⟨⟨n, D, h1, h2, h3, h4⟩, _⟩ := F
  exact steps_prog p b n D M.s.st _ _ _ _ _ _ _ w h3
end
end Go.Proofs.YtapcgikamldchaaDoor
