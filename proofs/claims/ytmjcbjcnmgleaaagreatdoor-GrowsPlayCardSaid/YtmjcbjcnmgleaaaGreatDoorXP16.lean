/-
  A memory of which each word is known, by its address; Package frees over a memory of which each word is known; conditions as each theorem says.
-/
import Derived.Test.YtmjcbjcnmgleaaaGreatDoorXP09
import Derived.Test.YtmjcbjcnmgleaaaGreatDoorXP03
import Derived.Test.YtmjcbjcnmgleaaaGreatDoorXP14
import Derived.Test.YtmjcbjcnmgleaaaGreatDoorXP15
namespace Go.Proofs.YtmjcbjcnmgleaaaGreatDoor
open Go.RowKit Go.Maps
def eqA (y x : Ad) : Bool := y.k == x.k && y.a == x.a && y.f == x.f
theorem eqA_iff (y x : Ad) : eqA y x = true ↔ y = x := by
  unfold eqA
  constructor
  · intro h
    simp at h
    exact Ad.ext ⟨h.1.1, h.1.2, h.2⟩
  · rintro rfl
    simp
def setV (V : Ad → Int) (x : Ad) (v : Int) : Ad → Int := fun y => if mayB x.k x.a x.f = true ∧ eqA y x = true then v else V y
def casV (V : Ad → Int) (x : Ad) (u : Int) : Bool := mayB x.k x.a x.f && decide (V x = u)
theorem setV_same {V : Ad → Int} {x : Ad} (h : mayB x.k x.a x.f = true) (v : Int) : setV V x v x = v := if_pos ⟨h, (eqA_iff x x).2 rfl⟩
theorem setV_other {V : Ad → Int} {x y : Ad} (h : y ≠ x) (v : Int) : setV V x v y = V y := if_neg fun k => h ((eqA_iff y x).1 k.2)
theorem setV_bars {V : Ad → Int} {x : Ad} (h : mayB x.k x.a x.f = false) (v : Int) : setV V x v = V := by
  funext y
  exact if_neg fun k => by rw [h] at k; cases k.1
theorem valD_store {D : DataW Unit} (hD : IsMap D) (x : Ad) (v : Int) (y : Ad) : valD (storeD D x v) y = setV (valD D) x v y := by
  by_cases hm : mayB x.k x.a x.f = true
  · rw [show storeD D x v = putD D x v from if_pos hm]
    by_cases e : y = x
    · subst e
      rw [valD_put_same D hD, setV_same hm]
    · rw [valD_put_other D e, setV_other e]
  · rw [show storeD D x v = D from if_neg hm, setV_bars (by simpa using hm)]
section
variable {p b q st : Nat} {t : TypeId} {nx h to : Int} {V : Ad → Int} {w w' : World}
theorem Only.layV {X Y : World} (h : Only p b X Y) (hp : 1 < p) (hb : 1 < b) (hl : Lay X) : Lay Y := hl.same3 h.size (h.block 1 hl.1 (by omega) (by omega))
theorem Only.laymV {X Y : World} (h : Only p b X Y) (hp : 1 < p) (hb : 1 < b) (hl : LayM X) : LayM Y := hl.same h.size (h.block 0 hl.1 (by omega) (by omega))
theorem Only3.layV {X Y : World} (h : Only3 p b q X Y) (hp : 1 < p) (hb : 1 < b) (hq : 1 < q) (hl : Lay X) : Lay Y := hl.same3 h.size (h.block 1 hl.1 (by omega) (by omega) (by omega))
theorem Only3.laymV {X Y : World} (h : Only3 p b q X Y) (hp : 1 < p) (hb : 1 < b) (hq : 1 < q) (hl : LayM X) : LayM Y := hl.same h.size (h.block 0 hl.1 (by omega) (by omega) (by omega))
end
end Go.Proofs.YtmjcbjcnmgleaaaGreatDoor
namespace Go.Proofs.YtmjcbjcnmgleaaaGreatDoor
open Go.RowKit Go.Maps
def Bq (e : Nat) (t : TypeId) (cs : List Value) (w : World) : Prop := w.heap[e]? = some (.cells cs.toArray t (0, 0))
structure Onl (p b : Nat) (E : List Nat) (X Y : World) : Prop where
  os : Y.os = X.os
  tape : Y.tape = X.tape
  output : Y.output = X.output
  size : X.heap.size ≤ Y.heap.size
  block : ∀ k, k < X.heap.size → k ≠ p → k ≠ b → k ∉ E → Y.heap[k]? = X.heap[k]?
section
variable {p b e q : Nat} {E E' : List Nat} {t : TypeId} {cs : List Value} {w w' X Y Z : World}
theorem Bq.cell (k : Bq e t cs w) (i : Nat) : w.cell? ⟨e, i, none⟩ = cs[i]? := by
  unfold Bq at k
  simp [World.cell?, k]
theorem Bq.free (k : Bq e t cs w) (i : Nat) : w.frozen? ⟨e, i, none⟩ = false := by
  unfold Bq at k
  simp [World.frozen?, k]
theorem Bq.lt (k : Bq e t cs w) : e < w.heap.size := (Array.getElem?_eq_some_iff.1 k).1
theorem Bq.same (k : Bq e t cs w) (hb : w'.heap[e]? = w.heap[e]?) : Bq e t cs w' := hb.trans k
theorem Bq.below (k : Bq e t cs w) (hb : Below w.heap.size w w') : Bq e t cs w' := k.same (hb.block e k.lt)
theorem Bq.set (k : Bq e t cs w) (i : Nat) (v : Value) {cs' : List Value} (h : cs' = cs.set i v) : Bq e t cs' (w.setCell ⟨e, i, none⟩ v) := by
  subst h
  have := setCell_blk k i v
  unfold Bq
  simpa using this
theorem Bq.new (w : World) (cs : List Value) (t : TypeId) : Bq w.heap.size t cs (w.alloc (.cells cs.toArray t)) := alloc_blk _ _
theorem Bq.ne {u : TypeId} {ds : List Value} (k : Bq e t cs w) (j : Bq q u ds w) (h : t ≠ u) : e ≠ q := by
  rintro rfl
  have := k.symm.trans j
  simp only [Option.some.injEq, Obj.cells.injEq] at this
  exact h this.2.1
theorem Bq.setO (k : Bq e t cs w) (h : e ≠ q) (i : Nat) (v : Value) : Bq e t cs (w.setCell ⟨q, i, none⟩ v) := k.same (Below.heap_setCell w ⟨q, i, none⟩ v e h)
theorem Bq.onl (k : Bq e t cs X) (h : Onl p b E X Y) (h1 : e ≠ p) (h2 : e ≠ b) (h3 : e ∉ E) : Bq e t cs Y := k.same (h.block e k.lt h1 h2 h3)
theorem Onl.trans (h : Onl p b E X Y) (k : Onl p b E Y Z) : Onl p b E X Z :=
  ⟨k.os.trans h.os, k.tape.trans h.tape, k.output.trans h.output, Nat.le_trans h.size k.size, fun j hj h1 h2 h3 => (k.block j (Nat.lt_of_lt_of_le hj h.size) h1 h2 h3).trans (h.block j hj h1 h2 h3)⟩
theorem Onl.of_only (h : Only p b X Y) : Onl p b E X Y := ⟨h.os, h.tape, h.output, h.size, fun k hk h1 h2 _ => h.block k hk h1 h2⟩
theorem Onl.of_below (h : Below X.heap.size X Y) : Onl p b E X Y := .of_only (.of_below h)
theorem Onl.refl (X : World) : Onl p b E X X := .of_below (Below.refl _ X)
theorem Onl.of_only3 (h : Only3 p b q X Y) (hq : q ∈ E) : Onl p b E X Y := ⟨h.os, h.tape, h.output, h.size, fun k hk h1 h2 h3 => h.block k hk h1 h2 (fun e => h3 (e ▸ hq))⟩
theorem Onl.more (h : Onl p b E X Y) (hE : ∀ x ∈ E, x ∈ E') : Onl p b E' X Y := ⟨h.os, h.tape, h.output, h.size, fun k hk h1 h2 h3 => h.block k hk h1 h2 (fun e => h3 (hE k e))⟩
theorem Onl.setCell (X : World) (hq : q ∈ E) (i : Nat) (v : Value) : Onl p b E X (X.setCell ⟨q, i, none⟩ v) :=
  ⟨rfl, rfl, rfl, by simp [World.setCell], fun k _ _ _ h3 => Below.heap_setCell X ⟨q, i, none⟩ v k (fun e => h3 (e ▸ hq))⟩
theorem Onl.below {B : Nat} (h : Onl p b E X Y) (hp : B ≤ p) (hb : B ≤ b) (hE : ∀ x ∈ E, B ≤ x) (hB : B ≤ X.heap.size) : Below B X Y :=
  ⟨h.os, h.tape, h.output, h.size, fun k hk => h.block k (by omega) (by omega) (by omega) (fun e => by have := hE k e; omega)⟩
end
structure MV where
  V : Ad → Int
  s : Acc8
def ldM (M : MV) (x : Ad) : MV := ⟨M.V, M.s.touch 1 x (M.V x) (M.V x) false⟩
def stM (M : MV) (x : Ad) (v : Int) : MV := ⟨setV M.V x v, M.s.touch 2 x (M.V x) (setV M.V x v x) false⟩
def csV (V : Ad → Int) (x : Ad) (u v : Int) : Ad → Int := if casV V x u = true then setV V x v else V
def csM (M : MV) (x : Ad) (u v : Int) : MV := ⟨csV M.V x u v, M.s.touch 3 x (M.V x) (csV M.V x u v x) (casV M.V x u)⟩
structure Rq (D : DataW Unit) : Prop where
  map : IsMap D
  has : ∀ x : Ad, has D x.lit = true ↔ valD D x ≠ 0
theorem rq_nil : Rq (.map []) := ⟨isMap_empty, fun _ => by simp [Maps.has, valD, DataW.atKey]⟩
theorem Rq.put {D : DataW Unit} (h : Rq D) (x : Ad) (v : Int) : Rq (putD D x v) := by
  refine ⟨isMap_putD h.map x v, fun z => ?_⟩
  by_cases e : x = z
  · subst e; rw [has_put_same' _ h.map, valD_put_same _ h.map]; simp
  · rw [has_put_other' _ (Ne.symm e), valD_put_other _ (Ne.symm e), h.has]
theorem Rq.store {D : DataW Unit} (h : Rq D) (x : Ad) (v : Int) : Rq (storeD D x v) := by
  unfold storeD
  split
  · exact h.put x v
  · exact h
theorem Rq.cas {D : DataW Unit} (h : Rq D) (x : Ad) (u v : Int) : Rq (casD D x u v) := by
  unfold casD
  split
  · exact h.put x v
  · exact h
structure VX (p b : Nat) (M : MV) (w : World) : Prop where
  mem : ∃ (n : Nat) (D : DataW Unit), (n : Int) ≤ M.s.st ∧ Rq D ∧ PM p b n D M.s.st M.s.ak M.s.k M.s.a M.s.f M.s.was M.s.is M.s.done w ∧ ∀ x, valD D x = M.V x
  lay : Lay w
  laym : LayM w
  p1 : 1 < p
  b1 : 1 < b
section
variable {p b q e : Nat} {E : List Nat} {t : TypeId} {M : MV} {cs : List Value} {w w' : World}
theorem VX.st0 (F : VX p b M w) : 0 ≤ M.s.st := by
  obtain ⟨⟨n, D, h1, _⟩, _⟩ := F
  omega
theorem VX.below (F : VX p b M w) (hb : Below w.heap.size w w') : VX p b M w' := by
  obtain ⟨⟨n, D, h1, h2, h3, h4⟩, hl, hm, hp, hq⟩ := F
  exact ⟨⟨n, D, h1, h2, h3.below hb, h4⟩, hl.below hb, hm.below hb, hp, hq⟩
theorem VX.lt (F : VX p b M w) : p < w.heap.size ∧ b < w.heap.size := by
  obtain ⟨⟨n, D, h1, h2, h3, h4⟩, _⟩ := F
  exact ⟨h3.lt, h3.own.lt⟩
theorem VX.u64 (F : VX p b M w) (x : Ad) : U64 (M.V x) := by
  obtain ⟨⟨n, D, h1, h2, h3, h4⟩, _⟩ := F
  rw [← h4]
  exact h3.val_u64 x
theorem VX.objs (F : VX p b M w) : (∃ cs, w.heap[p]? = some (.cells cs 121 (0, 0))) ∧ ∃ es c, w.heap[b]? = some (.map es c) := by
  obtain ⟨⟨n, D, h1, h2, h3, h4⟩, _⟩ := F
  obtain ⟨es, c, hb, _⟩ := h3.own
  exact ⟨⟨_, h3.blk⟩, es, c, hb⟩
theorem VX.ne (F : VX p b M w) (ht : t ≠ 121) (o : Bq q t cs w) : q ≠ p ∧ q ≠ b := by
  obtain ⟨⟨cp, hp⟩, es, c, hb⟩ := F.objs
  constructor
  · rintro rfl
    have := hp.symm.trans o
    simp only [Option.some.injEq, Obj.cells.injEq] at this
    exact ht this.2.1.symm
  · rintro rfl
    have := hb.symm.trans o
    simp at this
theorem VX.keep (F : VX p b M w) (hs : w.heap.size ≤ w'.heap.size) (hp : w'.heap[p]? = w.heap[p]?) (hb : w'.heap[b]? = w.heap[b]?) (h0 : w'.heap[1]? = w.heap[1]?) (h1 : w'.heap[0]? = w.heap[0]?) : VX p b M w' := by
  obtain ⟨⟨n, D, g1, g2, g3, g4⟩, hl, hm, hp1, hb1⟩ := F
  exact ⟨⟨n, D, g1, g2, g3.keep3 hp hb, g4⟩, hl.same3 hs h0, hm.same hs h1, hp1, hb1⟩
theorem VX.setQ (F : VX p b M w) (hp : q ≠ p) (hb : q ≠ b) (hq : 1 < q) (i : Nat) (v : Value) : VX p b M (w.setCell ⟨q, i, none⟩ v) :=
  F.keep (by simp [World.setCell]) (Below.heap_setCell w ⟨q, i, none⟩ v p (Ne.symm hp)) (Below.heap_setCell w ⟨q, i, none⟩ v b (Ne.symm hb)) (Below.heap_setCell w ⟨q, i, none⟩ v _ (fun e => by simp only at e; omega)) (Below.heap_setCell w ⟨q, i, none⟩ v _ (fun e => by simp only at e; omega))
theorem rel_valD {D : DataW Unit} (h : Rq D) {V : Ad → Int} (hV : ∀ x, valD D x = V x) (x : Ad) (v : Int) (y : Ad) : valD (storeD D x v) y = setV V x v y := by
  rw [valD_store h.map, show valD D = V from funext hV]
theorem VX.load (F : VX p b M w) (hs : M.s.st < 1000000) (x : Ad) :
    Calls Tryz.prog 60 #[.pointer (some ⟨p, 0, none⟩), .agg #[.int .u8 x.k, .int .i64 x.a, .int .i64 x.f]] w fun e w' => e = .returned (.int .u64 (M.V x)) ∧ VX p b (ldM M x) w' ∧ Only p b w w' := by
  have h0 := F.st0
  obtain ⟨⟨n, D, h1, h2, h3, h4⟩, hl, hm, hp, hb⟩ := F
  refine (load_prog p b n D M.s.st _ _ _ _ _ _ _ x h0 (by omega) w h3).mono ?_
  rintro e w' ⟨rfl, m', ho⟩
  rw [h4] at m' ⊢
  exact ⟨rfl, ⟨⟨n, D, by show (n : Int) ≤ M.s.st + 1; omega, h2, m', h4⟩, ho.layV hp hb hl, ho.laymV hp hb hm, hp, hb⟩, ho⟩
theorem VX.store (F : VX p b M w) (hs : M.s.st < 1000000) (x : Ad) (v : Int) (hv : U64 v) :
    Calls Tryz.prog 32 #[.pointer (some ⟨p, 0, none⟩), .agg #[.int .u8 x.k, .int .i64 x.a, .int .i64 x.f], .int .u64 v] w fun e w' => e = .returned (.tuple #[]) ∧ VX p b (stM M x v) w' ∧ Only p b w w' := by
  have h0 := F.st0
  obtain ⟨⟨n, D, h1, h2, h3, h4⟩, hl, hm, hp, hb⟩ := F
  refine (store_prog p b n D M.s.st _ _ _ _ _ _ _ x v (u64w hv) h0 (by omega) (by omega) w hm h3).mono ?_
  rintro e w' ⟨rfl, m', ho⟩
  have hv' := rel_valD h2 h4 x v
  rw [h4, hv'] at m'
  exact ⟨rfl, ⟨⟨n + 1, _, by show ((n + 1 : Nat) : Int) ≤ M.s.st + 1; omega, h2.store x v, m', hv'⟩, ho.layV hp hb hl, ho.laymV hp hb hm, hp, hb⟩, ho⟩
theorem VX.cas (F : VX p b M w) (hs : M.s.st < 1000000) (x : Ad) (u v : Int) (hv : U64 v) :
    Calls Tryz.prog 108 #[.pointer (some ⟨p, 0, none⟩), .agg #[.int .u8 x.k, .int .i64 x.a, .int .i64 x.f], .int .u64 u, .int .u64 v] w fun e w' => e = .returned (.bool (casV M.V x u)) ∧ VX p b (csM M x u v) w' ∧ Only p b w w' := by
  have h0 := F.st0
  obtain ⟨⟨n, D, h1, h2, h3, h4⟩, hl, hm, hp, hb⟩ := F
  refine (cas_prog p b n D M.s.st _ _ _ _ _ _ _ x u v (u64w hv) h0 (by omega) (by omega) w hm h3).mono ?_
  rintro e w' ⟨rfl, m', ho⟩
  have ec : casB D x u = casV M.V x u := by unfold casB casV; rw [h4]
  have hv' : ∀ y, valD (casD D x u v) y = csV M.V x u v y := by
    intro y
    unfold casD csV
    rw [ec]
    by_cases hc : casV M.V x u = true
    · rw [if_pos hc, if_pos hc]
      have hmay : mayB x.k x.a x.f = true := by unfold casV at hc; simp at hc; exact hc.1
      have := rel_valD h2 h4 x v y
      rw [show storeD D x v = putD D x v from if_pos hmay] at this
      exact this
    · rw [if_neg hc, if_neg hc]
      exact h4 y
  rw [ec] at m' ⊢
  rw [h4, hv'] at m'
  exact ⟨rfl, ⟨⟨n + 1, _, by show ((n + 1 : Nat) : Int) ≤ M.s.st + 1; omega, h2.cas x u v, m', hv'⟩, ho.layV hp hb hl, ho.laymV hp hb hm, hp, hb⟩, ho⟩
end
end Go.Proofs.YtmjcbjcnmgleaaaGreatDoor
namespace Go.Proofs.YtmjcbjcnmgleaaaGreatDoor
open Go.RowKit Go.Maps
def adS (s : Int) : Ad := if h : (Lit.int .i64 s).wf = true then adL s h else adF
theorem adS_eq {s : Int} (h : I64w s) : adS s = adL s h := dif_pos (show (Lit.int .i64 s).wf = true from h)
theorem mayW : mayB adF.k adF.a adF.f = true := by decide
theorem casV_F (V : Ad → Int) (u : Int) : casV V adF u = decide (V adF = u) := by unfold casV; rw [mayW]; rfl
end Go.Proofs.YtmjcbjcnmgleaaaGreatDoor
namespace Go.Proofs.YtmjcbjcnmgleaaaGreatDoor
open Go.RowKit Go.Maps
def swapX (o : OS) (M : MV) : OS × MV := (⟨if M.V adF = o.h then 0 else 1, o.h, o.to⟩, csM M adF o.h (nextW o.h o.to))
def popX (o : OS) (M : MV) : OS × MV :=
  if o.nx = 1 then (⟨if wSlot (M.V adF) < 0 then 0 else 2, M.V adF, o.to⟩, ldM M adF)
  else if o.nx = 2 then (⟨3, o.h, wSlot (M.V (adS (wSlot o.h)))⟩, ldM M (adS (wSlot o.h)))
  else if o.nx = 3 then swapX o M
  else (o, M)
def pushX (o : OS) (M : MV) : OS × MV :=
  if o.nx = 1 then (⟨2, M.V adF, o.to⟩, ldM M adF)
  else if o.nx = 2 then (⟨3, o.h, o.to⟩, stM M (adS o.to) (headW (wSlot o.h) 0))
  else if o.nx = 3 then swapX o M
  else (o, M)
theorem csV_F (V : Ad → Int) (u v : Int) : csV V adF u v = if V adF = u then setV V adF v else V := by
  unfold csV
  rw [casV_F]
  by_cases h : V adF = u
  · rw [if_pos h, if_pos (by simpa using h)]
  · rw [if_neg h, if_neg (by simpa using h)]
theorem OpAt.bq {t : TypeId} {q : Nat} {nx h to : Int} {w : World} (o : OpAt t q nx h to w) : Bq q t [.int .i64 nx, .int .u64 h, .int .i64 to] w := o
def SteppedX (t : TypeId) (p b q : Nat) (R : OS × MV) (w w' : World) : Prop := OpAt t q R.1.nx R.1.h R.1.to w' ∧ VX p b R.2 w' ∧ Only3 p b q w w'
section
variable {p b q : Nat} {o : OS} {M : MV} {w w' : World}
theorem read_stepX {t : TypeId} (ht : t ≠ 121) (hq : 1 < q) (F : VX p b M w) (hs : M.s.st < 1000000) (ho : OpAt t q o.nx o.h o.to w) :
    ∀ X, Below w.heap.size w X → Calls Tryz.prog 142 #[.pointer (some ⟨q, 0, none⟩), .pointer (some ⟨p, 0, none⟩)] X fun e Y => e = .returned (.int .i64 2) ∧ OpAt t q o.nx (M.V adF) o.to Y ∧ VX p b (ldM M adF) Y ∧ Only3 p b q X Y := by
  intro X hX
  have h0 := F.st0
  obtain ⟨⟨n, D, h1, h2, h3, h4⟩, hl, hm, hp, hb⟩ := F.below hX
  refine (read_any ht h0 (by omega) (ho.below hX) h3).mono ?_
  rintro e Y ⟨rfl, oY, mY, hY⟩
  rw [h4] at oY mY
  exact ⟨rfl, oY, ⟨⟨n, D, by show (n : Int) ≤ M.s.st + 1; omega, h2, mY, h4⟩, hY.layV hp hb hq hl, hY.laymV hp hb hq hm, hp, hb⟩, hY⟩
theorem start_stepX (hq : 1 < q) (F : VX p b M w) (hs : M.s.st < 1000000) (ho : OpAt 210 q o.nx o.h o.to w) :
    ∀ X, Below w.heap.size w X → Calls Tryz.prog 193 #[.pointer (some ⟨q, 0, none⟩), .pointer (some ⟨p, 0, none⟩)] X fun e Y => e = .returned (.int .i64 (if wSlot (M.V adF) < 0 then 0 else 2)) ∧ OpAt 210 q o.nx (M.V adF) o.to Y ∧ VX p b (ldM M adF) Y ∧ Only3 p b q X Y := by
  intro X hX
  have h0 := F.st0
  obtain ⟨⟨n, D, h1, h2, h3, h4⟩, hl, hm, hp, hb⟩ := F.below hX
  refine (start_any h0 (by omega) hl (by omega) (by omega) (by omega) (ho.below hX) h3).mono ?_
  rintro e Y ⟨rfl, oY, mY, hY⟩
  rw [h4] at oY mY
  exact ⟨by rw [h4], oY, ⟨⟨n, D, by show (n : Int) ≤ M.s.st + 1; omega, h2, mY, h4⟩, hY.layV hp hb hq hl, hY.laymV hp hb hq hm, hp, hb⟩, hY⟩
theorem look_stepX (hq : 1 < q) (F : VX p b M w) (hs : M.s.st < 1000000) (hh : U64 o.h) (ho : OpAt 210 q o.nx o.h o.to w) :
    ∀ X, Below w.heap.size w X → Calls Tryz.prog 194 #[.pointer (some ⟨q, 0, none⟩), .pointer (some ⟨p, 0, none⟩)] X fun e Y => e = .returned (.int .i64 3) ∧ OpAt 210 q o.nx o.h (wSlot (M.V (adS (wSlot o.h)))) Y ∧ VX p b (ldM M (adS (wSlot o.h))) Y ∧ Only3 p b q X Y := by
  intro X hX
  have h0 := F.st0
  obtain ⟨⟨n, D, h1, h2, h3, h4⟩, hl, hm, hp, hb⟩ := F.below hX
  refine (look_any h0 (by omega) hl (by omega) (by omega) (by omega) hh (ho.below hX) h3).mono ?_
  rintro e Y ⟨rfl, oY, mY, hY⟩
  rw [h4] at oY mY
  rw [adS_eq (i64w_slot o.h)]
  exact ⟨rfl, oY, ⟨⟨n, D, by show (n : Int) ≤ M.s.st + 1; omega, h2, mY, h4⟩, hY.layV hp hb hq hl, hY.laymV hp hb hq hm, hp, hb⟩, hY⟩
theorem hang_stepX (hq : 1 < q) (F : VX p b M w) (hs : M.s.st < 1000000) (hh : U64 o.h) (hto : I64w o.to) (ho : OpAt 198 q o.nx o.h o.to w) :
    ∀ X, Below w.heap.size w X → Calls Tryz.prog 143 #[.pointer (some ⟨q, 0, none⟩), .pointer (some ⟨p, 0, none⟩)] X fun e Y => e = .returned (.int .i64 3) ∧ OpAt 198 q o.nx o.h o.to Y ∧ VX p b (stM M (adS o.to) (headW (wSlot o.h) 0)) Y ∧ Only3 p b q X Y := by
  intro X hX
  have h0 := F.st0
  obtain ⟨⟨n, D, h1, h2, h3, h4⟩, hl, hm, hp, hb⟩ := F.below hX
  refine (hang_any h0 (by omega) (by omega) hl hm (by omega) (by omega) hh hto (ho.below hX) h3).mono ?_
  rintro e Y ⟨rfl, oY, mY, hY⟩
  have hv' := rel_valD h2 h4 (adL o.to hto) (headW (wSlot o.h) 0)
  rw [h4, hv'] at mY
  rw [adS_eq hto]
  exact ⟨rfl, oY, ⟨⟨n + 1, _, by show ((n + 1 : Nat) : Int) ≤ M.s.st + 1; omega, h2.store _ _, mY, hv'⟩, hY.layV hp hb hq hl, hY.laymV hp hb hq hm, hp, hb⟩, hY⟩
theorem swap_stepX {t : TypeId} (ht : t ≠ 121) (hq : 1 < q) (F : VX p b M w) (hs : M.s.st < 1000000) (hh : U64 o.h) (ho : OpAt t q o.nx o.h o.to w) :
    ∀ X, Below w.heap.size w X → Calls Tryz.prog 144 #[.pointer (some ⟨q, 0, none⟩), .pointer (some ⟨p, 0, none⟩)] X fun e Y => e = .returned (.int .i64 (swapX o M).1.nx) ∧ OpAt t q o.nx o.h o.to Y ∧ VX p b (swapX o M).2 Y ∧ Only3 p b q X Y := by
  intro X hX
  have h0 := F.st0
  obtain ⟨⟨n, D, h1, h2, h3, h4⟩, hl, hm, hp, hb⟩ := F.below hX
  refine (swap_any ht h0 (by omega) (by omega) hl hm hh (ho.below hX) h3).mono ?_
  rintro e Y ⟨rfl, oY, mY, hY⟩
  have ec : casB D adF o.h = casV M.V adF o.h := by unfold casB casV; rw [h4]
  have hv' : ∀ y, valD (casD D adF o.h (nextW o.h o.to)) y = csV M.V adF o.h (nextW o.h o.to) y := by
    intro y
    unfold casD csV
    rw [ec]
    by_cases hc : casV M.V adF o.h = true
    · rw [if_pos hc, if_pos hc]
      have := rel_valD h2 h4 adF (nextW o.h o.to) y
      rw [show storeD D adF (nextW o.h o.to) = putD D adF (nextW o.h o.to) from if_pos mayW] at this
      exact this
    · rw [if_neg hc, if_neg hc]
      exact h4 y
  rw [ec] at mY ⊢
  rw [h4, hv'] at mY
  refine ⟨?_, oY, ⟨⟨n + 1, _, by show ((n + 1 : Nat) : Int) ≤ M.s.st + 1; omega, h2.cas _ _ _, mY, hv'⟩, hY.layV hp hb hq hl, hY.laymV hp hb hq hm, hp, hb⟩, hY⟩
  show _ = Ending.returned (.int .i64 (if M.V adF = o.h then 0 else 1))
  rw [casV_F]
  by_cases hc : M.V adF = o.h
  · rw [if_pos hc, if_pos (by simpa using hc)]
  · rw [if_neg hc, if_neg (by simpa using hc)]
theorem pop_stepX (hq : 1 < q) (F : VX p b M w) (hs : M.s.st < 1000000) (hh : U64 o.h) (hnx : 0 ≤ o.nx ∧ o.nx ≤ 3) (ho : OpAt 210 q o.nx o.h o.to w) :
    Calls Tryz.prog 191 #[.pointer (some ⟨q, 0, none⟩), .pointer (some ⟨p, 0, none⟩)] w fun e w' => e = .returned (.bool ((popX o M).1.nx == 0)) ∧ SteppedX 210 p b q (popX o M) w w' := by
  obtain ⟨hqp, hqb⟩ := F.ne (by decide) ho.bq
  have hset : ∀ M' X v, VX p b M' X → VX p b M' (X.setCell ⟨q, 0, none⟩ v) := fun M' X v h => h.setQ hqp hqb hq 0 v
  obtain h | h | h | h : o.nx = 0 ∨ o.nx = 1 ∨ o.nx = 2 ∨ o.nx = 3 := by omega
  · have e : popX o M = (o, M) := by unfold popX; rw [if_neg (by omega), if_neg (by omega), if_neg (by omega)]
    rw [e]
    have ho' := ho
    rw [h] at ho'
    refine (popStep_over _ ho').mono ?_
    rintro ee w' ⟨rfl, rfl⟩
    exact ⟨by simp [h], ho, F, Only3.refl _ _ _ _⟩
  · have e : popX o M = (⟨if wSlot (M.V adF) < 0 then 0 else 2, M.V adF, o.to⟩, ldM M adF) := by unfold popX; rw [if_pos h]
    rw [e]
    have hl := start_stepX hq F hs ho
    rw [h] at ho hl
    exact popStep_1 ho (fun X v => hset _ X v) hl
  · have e : popX o M = (⟨3, o.h, wSlot (M.V (adS (wSlot o.h)))⟩, ldM M (adS (wSlot o.h))) := by unfold popX; rw [if_neg (by omega), if_pos h]
    rw [e]
    have hl := look_stepX hq F hs hh ho
    rw [h] at ho hl
    exact popStep_2 ho (fun X v => hset _ X v) hl
  · have e : popX o M = swapX o M := by unfold popX; rw [if_neg (by omega), if_neg (by omega), if_pos h]
    rw [e]
    have hl := swap_stepX (by decide) hq F hs hh ho
    rw [h] at ho hl
    exact popStep_3 ho (fun X v => hset _ X v) hl
theorem push_stepX (hq : 1 < q) (F : VX p b M w) (hs : M.s.st < 1000000) (hh : U64 o.h) (hnx : 0 ≤ o.nx ∧ o.nx ≤ 3) (hto : o.nx = 2 → I64w o.to) (ho : OpAt 198 q o.nx o.h o.to w) :
    Calls Tryz.prog 83 #[.pointer (some ⟨q, 0, none⟩), .pointer (some ⟨p, 0, none⟩)] w fun e w' => e = .returned (.bool ((pushX o M).1.nx == 0)) ∧ SteppedX 198 p b q (pushX o M) w w' := by
  obtain ⟨hqp, hqb⟩ := F.ne (by decide) ho.bq
  have hset : ∀ M' X v, VX p b M' X → VX p b M' (X.setCell ⟨q, 0, none⟩ v) := fun M' X v h => h.setQ hqp hqb hq 0 v
  obtain h | h | h | h : o.nx = 0 ∨ o.nx = 1 ∨ o.nx = 2 ∨ o.nx = 3 := by omega
  · have e : pushX o M = (o, M) := by unfold pushX; rw [if_neg (by omega), if_neg (by omega), if_neg (by omega)]
    rw [e]
    have ho' := ho
    rw [h] at ho'
    refine (pushStep_over _ ho').mono ?_
    rintro ee w' ⟨rfl, rfl⟩
    exact ⟨by simp [h], ho, F, Only3.refl _ _ _ _⟩
  · have e : pushX o M = (⟨2, M.V adF, o.to⟩, ldM M adF) := by unfold pushX; rw [if_pos h]
    rw [e]
    have hl := read_stepX (by decide) hq F hs ho
    rw [h] at ho hl
    exact pushStep_1 ho (fun X v => hset _ X v) hl
  · have e : pushX o M = (⟨3, o.h, o.to⟩, stM M (adS o.to) (headW (wSlot o.h) 0)) := by unfold pushX; rw [if_neg (by omega), if_pos h]
    rw [e]
    have hl := hang_stepX hq F hs hh (hto h) ho
    rw [h] at ho hl
    exact pushStep_2 ho (fun X v => hset _ X v) hl
  · have e : pushX o M = swapX o M := by unfold pushX; rw [if_neg (by omega), if_neg (by omega), if_pos h]
    rw [e]
    have hl := swap_stepX (by decide) hq F hs hh ho
    rw [h] at ho hl
    exact pushStep_3 ho (fun X v => hset _ X v) hl
end
end Go.Proofs.YtmjcbjcnmgleaaaGreatDoor
