/-
  Both memories in words: what each access of the document's does; from the document's step to the program's, and both memories behind it; what lies between two lines of a step of the document's; condition: both memories say the same.
-/
import Derived.Test.YtjpanofkikfeoaaGreatDoorOE1
import Derived.Test.YtjpanofkikfeoaaGreatDoorA1
import Derived.Test.YtjpanofkikfeoaaGreatDoorD6
namespace Go.Proofs.YtjpanofkikfeoaaGreatDoor
open Go.RowKit Go.Maps

/-- The document's words are that. -/
def AftP (L : List (Ad × Int)) (c : Nat) (M : MV) : Prop := (∀ x, vals L x = M.V x) ∧ L.length ≤ c ∧ (L.map Prod.fst).Nodup
/-- A block of an operation: not of the memories, not of the law's own (rows of entries may be either's). -/
def okT (t : TypeId) : Bool := t == 77 || t == 82 || t == 80 || t == 62 || t == 3
def OwnX (B x : Nat) (w : World) : Prop := B ≤ x ∧ ∃ t cs, Bq x t cs w ∧ okT t = true
section
variable {B p m b n c e K : Nat} {D : DataW Unit} {s r r' : Acc8} {L L' : List (Ad × Int)} {M M' : MV} {w w' w0 w1 w2 : World} {E : List Nat} {cs cs' : List Value} {v : Int} {q x y : Nat}
theorem vals_storeA (x : Ad) (v : Int) {V : Ad → Int} (hv : ∀ y, vals L y = V y) (y : Ad) : vals (storeA L x v) y = setV V x v y := by
  unfold storeA setV
  by_cases hm : mayB x.k x.a x.f = true
  · rw [if_pos hm, vals_put]
    by_cases e : x = y
    · rw [if_pos e, if_pos ⟨hm, (eqA_iff y x).2 e.symm⟩]
    · rw [if_neg e, if_neg (fun h => e ((eqA_iff y x).1 h.2).symm), hv]
  · rw [if_neg hm, if_neg (fun h => hm h.1), hv]
theorem casA_V (x : Ad) (u : Int) {V : Ad → Int} (hv : ∀ y, vals L y = V y) : casA L x u = casV V x u := by unfold casA casV; rw [hv]
theorem vals_casL (x : Ad) (u v : Int) {V : Ad → Int} (hv : ∀ y, vals L y = V y) (y : Ad) : vals (casL L x u v) y = csV V x u v y := by
  unfold casL csV
  rw [casA_V x u hv]
  by_cases hc : casV V x u = true
  · rw [if_pos hc, if_pos hc]
    have hm : mayB x.k x.a x.f = true := by unfold casV at hc; simp at hc; exact hc.1
    have := vals_storeA x v hv y
    rw [show storeA L x v = putA L x v from if_pos hm] at this
    exact this
  · rw [if_neg hc, if_neg hc, hv]
theorem storeA_nodup (h : (L.map Prod.fst).Nodup) (x : Ad) (v : Int) : ((storeA L x v).map Prod.fst).Nodup := by
  unfold storeA
  split
  · exact putA_nodup L x v h
  · exact h
theorem casL_nodup (h : (L.map Prod.fst).Nodup) (x : Ad) (u v : Int) : ((casL L x u v).map Prod.fst).Nodup := by
  unfold casL
  split
  · exact putA_nodup L x v h
  · exact h
theorem aft_ld {v : Int} (x : Ad) (hv : ∀ y, vals L y = M.V y) (hn : (L.map Prod.fst).Nodup) (hc : L.length ≤ c) (e : vals L x = v) : AftP L (c + 1) (ldM M x) ∧ M.s.touch 1 x v v false = (ldM M x).s := by
  subst e
  rw [hv]
  exact ⟨⟨hv, by omega, hn⟩, rfl⟩
theorem aft_st (x : Ad) (v : Int) (hv : ∀ y, vals L y = M.V y) (hn : (L.map Prod.fst).Nodup) (hc : L.length ≤ c) : AftP (storeA L x v) (c + 1) (stM M x v) ∧ M.s.touch 2 x (vals L x) (vals (storeA L x v) x) false = (stM M x v).s := by
  have hv' := vals_storeA x v hv
  rw [hv, hv']
  exact ⟨⟨hv', Nat.le_trans (storeA_len L x v) (by omega), storeA_nodup hn x v⟩, rfl⟩
theorem aft_cs (x : Ad) (u v : Int) {cc : Bool} (hcc : casA L x u = cc) (hv : ∀ y, vals L y = M.V y) (hn : (L.map Prod.fst).Nodup) (hc : L.length ≤ c) : AftP (casL L x u v) (c + 1) (csM M x u v) ∧ M.s.touch 3 x (vals L x) (vals (casL L x u v) x) cc = (csM M x u v).s := by
  subst hcc
  have hv' := vals_casL x u v hv
  rw [hv, hv', casA_V x u hv]
  exact ⟨⟨hv', Nat.le_trans (casL_len L x u v) (by omega), casL_nodup hn x u v⟩, rfl⟩
/-- What it needs: both memories say the same. -/
structure Say (p m b n : Nat) (D : DataW Unit) (L : List (Ad × Int)) (c : Nat) (M : MV) (w : World) : Prop where
  pr : Pr p m b n D M.s L M.s w
  rel : Rel D L
  val : ∀ x, vals L x = M.V x
  len : L.length ≤ c
  st0 : 0 ≤ M.s.st
  st1 : M.s.st < 1000000
theorem Say.u64 (S : Say p m b n D L c M w) (x : Ad) : U64 (M.V x) := by rw [← S.val]; exact S.pr.val_u64 S.rel x
theorem Say.aft (S : Say p m b n D L c M w) : AftP L (c + 1) M := ⟨S.val, by have := S.len; omega, S.rel.nodup⟩
theorem Say.aftLd (S : Say p m b n D L c M w) (x : Ad) : AftP L (c + 1) (ldM M x) := (aft_ld x S.val S.rel.nodup S.len rfl).1
theorem Say.aftCs (S : Say p m b n D L c M w) (x : Ad) (u v : Int) : AftP (casL L x u v) (c + 1) (csM M x u v) := (aft_cs x u v rfl S.val S.rel.nodup S.len).1
theorem Say.below (S : Say p m b n D L c M w) (hb : Below w.heap.size w w') : Say p m b n D L c M w' := ⟨S.pr.below hb, S.rel, S.val, S.len, S.st0, S.st1⟩
theorem Say.aftSt (S : Say p m b n D L c M w) (x : Ad) (v : Int) : AftP (storeA L x v) (c + 1) (stM M x v) := (aft_st x v S.val S.rel.nodup S.len).1
theorem Say.ldD {x : Ad} {k a f : Int} (S : Say p m b n D L c M w) (hc : c ≤ 4900) (hx : x.k = k ∧ x.a = a ∧ x.f = f) (hv : M.V x = v) (P : Pr p m b n D M.s L M.s w1) :
    Calls Tryz.prog 45 #[.pointer (some ⟨b, 0, none⟩), .agg #[.int .u8 k, .int .i64 a, .int .i64 f]] w1 fun ee w' => ee = .returned (.int .u64 v) ∧ Pr p m b n D M.s L (ldM M x).s w' ∧ Fr p m b w1 w' := by
  obtain ⟨rfl, rfl, rfl⟩ := hx
  subst hv
  rw [← S.val]
  obtain ⟨_, a2⟩ := aft_ld x S.val S.rel.nodup S.len rfl
  rw [← a2]
  exact load_r x P (by have := S.len; omega) S.st0 S.st1
theorem Say.stD {x : Ad} {k a f : Int} (S : Say p m b n D L c M w) (hc : c ≤ 4900) (hx : x.k = k ∧ x.a = a ∧ x.f = f) (v : Int) (P : Pr p m b n D M.s L M.s w1) :
    Calls Tryz.prog 24 #[.pointer (some ⟨b, 0, none⟩), .agg #[.int .u8 k, .int .i64 a, .int .i64 f], .int .u64 v] w1 fun ee w' => ee = .returned (.tuple #[]) ∧ Pr p m b n D M.s (storeA L x v) (stM M x v).s w' ∧ Fr p m b w1 w' := by
  obtain ⟨rfl, rfl, rfl⟩ := hx
  obtain ⟨_, a2⟩ := aft_st x v S.val S.rel.nodup S.len
  rw [← a2]
  exact store_r x v P (by have := S.len; omega) S.st0 S.st1
theorem Say.csD {x : Ad} {k a f : Int} (S : Say p m b n D L c M w) (hc : c ≤ 4900) (hx : x.k = k ∧ x.a = a ∧ x.f = f) (u v : Int) {q : Bool} (hq : casV M.V x u = q) (P : Pr p m b n D M.s L M.s w1) :
    Calls Tryz.prog 46 #[.pointer (some ⟨b, 0, none⟩), .agg #[.int .u8 k, .int .i64 a, .int .i64 f], .int .u64 u, .int .u64 v] w1 fun ee w' => ee = .returned (.bool q) ∧ Pr p m b n D M.s (casL L x u v) (csM M x u v).s w' ∧ Fr p m b w1 w' := by
  obtain ⟨rfl, rfl, rfl⟩ := hx
  have hq2 : casA L x u = q := (casA_V _ u S.val).trans hq
  subst hq2
  obtain ⟨_, a2⟩ := aft_cs x u v rfl S.val S.rel.nodup S.len
  rw [← a2]
  exact cas_r x u v P (by have := S.len; omega) S.st0 S.st1
theorem OwnX.lt (h : OwnX B x w) : x < w.heap.size := by obtain ⟨_, t, cs, k, _⟩ := h; exact k.lt
theorem OwnX.same (h : OwnX B x w) (hs : w'.heap[x]? = w.heap[x]?) : OwnX B x w' := by obtain ⟨g, t, cs, k, h1⟩ := h; exact ⟨g, t, cs, k.same hs, h1⟩
theorem bq_type {t u : TypeId} {cs ds : List Value} (k : Bq x t cs w) (j : Bq x u ds w) : t = u := by
  have := Eq.trans (Eq.symm k) j
  simp only [Option.some.injEq, Obj.cells.injEq] at this
  exact this.2.1
theorem OwnX.ne (h : OwnX B x w) {u : TypeId} {ds : List Value} (k : Bq y u ds w) (hu : okT u = false) : x ≠ y := by
  rintro rfl
  obtain ⟨_, t, cs, k1, h1⟩ := h
  rw [bq_type k1 k, hu] at h1
  cases h1
theorem Pr.blocks (P : Pr p m b n D s L M.s w) : (∃ cs, Bq p 96 cs w) ∧ (∃ cs, Bq b 70 cs w) ∧ ∃ es k, w.heap[m]? = some (.map es k) := by
  obtain ⟨v, hr⟩ := P.ref
  exact ⟨⟨_, by unfold Bq; exact P.prog.blk⟩, ⟨_, hr.blk⟩, P.prog.map_at⟩
/-- What the document's step keeps. -/
theorem OwnX.fxl (h : OwnX B x w) (P : Pr p m b n D s L M.s w) (f : FxL B p b E w w') (hx : x ∉ E) : w'.heap[x]? = w.heap[x]? := by
  obtain ⟨⟨cp, kp⟩, ⟨cb, kb⟩, _⟩ := P.blocks
  have h1 := h.ne kp (by decide)
  have h2 := h.ne kb (by decide)
  obtain ⟨_, t, cs, k, ht⟩ := h
  exact (f.far x _ _ _ k (by rintro rfl; revert ht; decide) h1 h2 hx).trans (Eq.symm k)
theorem OwnX.onl (h : OwnX B x w) (F : VX p m M w) (o : Onl p m E w w') (hx : x ∉ E) : w'.heap[x]? = w.heap[x]? := by
  have hlt := h.lt
  obtain ⟨_, t, cs, k, ht⟩ := h
  obtain ⟨h1, h2⟩ := F.ne (by rintro rfl; revert ht; decide) k
  exact o.block x hlt h1 h2 hx
theorem onl_fxl (o : Onl p m E w w') (F : VX p m M w) (hp : B ≤ p) (hm : B ≤ m) (hE : ∀ x ∈ E, B ≤ x) (hB : B ≤ w.heap.size) : FxL B p b E w w' := by
  refine ⟨o.below hp hm hE hB, fun x cs t fr hx _ h1 _ h3 => (o.block x (Array.getElem?_eq_some_iff.1 hx).1 h1 ?_ h3).trans hx⟩
  rintro rfl
  obtain ⟨_, es, c, hm⟩ := F.objs
  rw [hx] at hm
  cases hm
/-- Both memories, as a step asks them. -/
theorem Both.say (h : Both p m b c w) (hc : c ≤ 4900) : ∃ n D L M, Say p m b n D L c M w ∧ (n : Int) ≤ M.s.st ∧ M.s.st ≤ c := by
  obtain ⟨n, D, s, L, hP, hr, hL, hn, h0, h1⟩ := h
  exact ⟨n, D, L, ⟨vals L, s⟩, ⟨hP, hr, fun _ => rfl, hL, h0, by show s.st < 1000000; omega⟩, hn, h1⟩
/-- The program's memory behind the document's step. -/
theorem Say.vx {r' : Acc8} (S : Say p m b n D L c M w) (hn : (n : Int) ≤ M.s.st) (P1 : Pr p m b n D M.s L' r' w1) (hl : Lay w1) (hm : LayM w1) (h1 : 1 < m) : VX p m M w1 :=
  ⟨⟨n, D, hn, ⟨S.rel.map, S.rel.has⟩, P1.prog, fun x => (S.rel.val x).trans (S.val x)⟩, hl, hm, by have := P1.mp; omega, h1⟩
/-- Both memories behind the program's. -/
theorem Both.of_vx (P1 : Pr p m b n D s L' M'.s w1) (A : AftP L' (c + 1) M') (F : VX p m M' w2) (o : Onl p m E w1 w2) (hE : ∀ x ∈ E, OwnX B x w1) (hst : M'.s.st ≤ ((c + 1 : Nat) : Int)) : Both p m b (c + 1) w2 := by
  obtain ⟨⟨cp, kp⟩, _, es, k, hm⟩ := P1.blocks
  have kc : ∀ z (cs : Array Value) t, w1.heap[z]? = some (Obj.cells cs t (0, 0)) → okT t = false → t ≠ 96 → w2.heap[z]? = some (Obj.cells cs t (0, 0)) := fun z cs t hz h1 h2 => by
    have kz : Bq z t cs.toList w1 := by unfold Bq; simpa using hz
    refine (o.block z (Array.getElem?_eq_some_iff.1 hz).1 (kz.ne kp h2) ?_ (fun hx => (hE z hx).ne kz h1 rfl)).trans hz
    rintro rfl
    rw [hz] at hm
    cases hm
  have h0 := F.st0
  obtain ⟨n', D', g1, g2, g3, g4⟩ := F.mem
  refine ⟨n', D', M'.s, L', ⟨g3, ?_, P1.mp, P1.pb⟩, ⟨g2.map, A.2.2, fun x => (g4 x).trans (A.1 x).symm, g2.has⟩, A.2.1, g1, h0, hst⟩
  obtain ⟨v, hr⟩ := P1.ref
  refine ⟨v, kc _ _ _ hr.blk (by decide) (by decide), ⟨hr.own.1, ?_⟩, hr.pos⟩
  rcases hr.own.2 with hn | ⟨g, cap, cur, hv, hB, hh, rest⟩
  · exact .inl hn
  · exact .inr ⟨g, cap, cur, hv, hB, kc _ _ _ hh (by decide) (by decide), rest⟩
/-- The document's operation, its cells; both its rows. -/
def RD (o : OG) (vg vv : Value) : List Value := [.int .i64 o.ln, vg, vv, .int .i64 (o.i : Int), .int .u64 o.h, .int .i64 o.s, .int .i64 o.e.s, .int .u32 o.e.g, .bool o.e.k, .int .u64 o.e.b, .int .u64 o.e.c, .int .u64 o.e.d]
/-- Its rows lie. -/
structure Rw (B : Nat) (o : OG) (vg vv : Value) (w : World) : Prop where
  g : OwnE w B vg o.got
  v : OwnE w B vv o.g
  ap : ∀ x, vg.ownBlock = some x → vv.ownBlock ≠ some x
/-- What lies between two lines of a step of the document's: its box st, too. -/
structure OD (B p m b n : Nat) (D : DataW Unit) (s : Acc8) (K : Nat) (E : List Nat) (st : Nat) (o : OG) (vg vv : Value) (L : List (Ad × Int)) (r : Acc8) (w0 w : World) : Prop where
  k : Bk K 80 (RD o vg vv) w
  rw_ : Rw B o vg vv w
  ga : Bk st 34 [.int .u8 4, .int .i64 0, .int .i64 0] w
  gp : st ≠ p ∧ st ≠ b ∧ st ≠ K
  pr : Pr p m b n D s L r w
  f : FxL B p b E w0 w
theorem Bk.c12 {o : OG} {vg vv : Value} (h : Bk K 80 (RD o vg vv) w) : w.cell? ⟨K, 0, none⟩ = some (.int .i64 o.ln) ∧ w.cell? ⟨K, 1, none⟩ = some vg ∧ w.cell? ⟨K, 2, none⟩ = some vv ∧ w.cell? ⟨K, 3, none⟩ = some (.int .i64 (o.i : Int)) ∧ w.cell? ⟨K, 4, none⟩ = some (.int .u64 o.h) ∧ w.cell? ⟨K, 5, none⟩ = some (.int .i64 o.s) := ⟨h.cell 0, h.cell 1, h.cell 2, h.cell 3, h.cell 4, h.cell 5⟩
theorem Bk.e6 {o : OG} {vg vv : Value} (h : Bk K 80 (RD o vg vv) w) : w.cell? ⟨K, 6, none⟩ = some (.int .i64 o.e.s) ∧ w.cell? ⟨K, 7, none⟩ = some (.int .u32 o.e.g) ∧ w.cell? ⟨K, 8, none⟩ = some (.bool o.e.k) ∧ w.cell? ⟨K, 9, none⟩ = some (.int .u64 o.e.b) ∧ w.cell? ⟨K, 10, none⟩ = some (.int .u64 o.e.c) ∧ w.cell? ⟨K, 11, none⟩ = some (.int .u64 o.e.d) := ⟨h.cell 6, h.cell 7, h.cell 8, h.cell 9, h.cell 10, h.cell 11⟩
theorem Bk.neQ (h : Bk K 80 cs w) (P : Pr p m b n D s L r w) : K ≠ p ∧ K ≠ b := by
  obtain ⟨v, hr⟩ := P.ref
  constructor
  · rintro rfl
    have := P.prog.blk.symm.trans h
    simp only [Option.some.injEq, Obj.cells.injEq] at this
    exact absurd this.2.1 (by decide)
  · rintro rfl
    have := hr.blk.symm.trans h
    simp only [Option.some.injEq, Obj.cells.injEq] at this
    exact absurd this.2.1 (by decide)
/-- A row of entries is neither memory's. -/
theorem OwnE.neQ {x : Nat} {v : Value} {xs : List EP} (h : OwnE w B v xs) (hx : v.ownBlock = some x) (P : Pr p m b n D s L r w) : x ≠ p ∧ x ≠ b := by
  obtain ⟨_, cs, k⟩ := h.bq hx
  obtain ⟨⟨cp, kp⟩, ⟨cb, kb⟩, _⟩ := P.blocks (M := ⟨fun _ => 0, r⟩)
  exact ⟨k.ne kp (by decide), k.ne kb (by decide)⟩
section
variable {st : Nat} {o : OG} {vg vv : Value}
theorem Rw.same (h : Rw B o vg vv w) (hs : ∀ x, (vg.ownBlock = some x ∨ vv.ownBlock = some x) → w'.heap[x]? = w.heap[x]?) : Rw B o vg vv w' := ⟨h.g.same fun x hx => hs x (.inl hx), h.v.same fun x hx => hs x (.inr hx), h.ap⟩
theorem Rw.below (h : Rw B o vg vv w) (hb : Below w.heap.size w w') : Rw B o vg vv w' := ⟨h.g.below hb, h.v.below hb, h.ap⟩
theorem OD.below (h : OD B p m b n D s K E st o vg vv L r w0 w) (hBK : B ≤ K) (hb : Below w.heap.size w w') : OD B p m b n D s K E st o vg vv L r w0 w' := ⟨h.k.below hb, h.rw_.below hb, h.ga.below hb, h.gp, h.pr.below hb, h.f.trans (.of_below hb (Nat.le_trans hBK (Nat.le_of_lt h.k.lt)))⟩
theorem OwnE.fr {v : Value} {xs : List EP} (h : OwnE w B v xs) (P : Pr p m b n D s L r w) (f : Fr p m b w w') : OwnE w' B v xs := h.same fun x hx => by
  obtain ⟨n1, n2⟩ := h.neQ hx P
  obtain ⟨_, cs, k⟩ := h.bq hx
  exact (f.cell (show Bk x _ cs w from k) (by decide) n1 n2).trans (Eq.symm k)
theorem OD.fr (h : OD B p m b n D s K E st o vg vv L r w0 w) (hBm : B ≤ m) (hn : K ≠ p ∧ K ≠ b) (P : Pr p m b n D s L' r' w') (f : Fr p m b w w') : OD B p m b n D s K E st o vg vv L' r' w0 w' :=
  ⟨h.k.fr f (by decide) hn.1 hn.2, ⟨h.rw_.g.fr h.pr f, h.rw_.v.fr h.pr f, h.rw_.ap⟩, h.ga.fr f (by decide) h.gp.1 h.gp.2.1, h.gp, P, h.f.trans (.of_fr f hBm)⟩
/-- One of its words is another one. -/
theorem OD.set (h : OD B p m b n D s K E st o vg vv L r w0 w) (hBK : B ≤ K) (hE : K ∈ E) (hn : K ≠ p ∧ K ≠ b) (i : Nat) (v : Value) {o' : OG} (e : RD o' vg vv = (RD o vg vv).set i v) (e1 : o'.got = o.got) (e2 : o'.g = o.g) :
    OD B p m b n D s K E st o' vg vv L r w0 (w.setCell ⟨K, i, none⟩ v) := by
  have hK : Bq K 80 (RD o vg vv) w := h.k
  have far : ∀ y, y ≠ K → (w.setCell ⟨K, i, none⟩ v).heap[y]? = w.heap[y]? := fun y hy => Below.heap_setCell w ⟨K, i, none⟩ v y hy
  refine ⟨h.k.set i v e, ⟨?_, ?_, h.rw_.ap⟩, h.ga.same (far st h.gp.2.2), h.gp, h.pr.setX h.k (by decide) hn.1 hn.2 i v, h.f.trans (.set (E := E) _ hBK hE i v)⟩
  · rw [e1]
    exact h.rw_.g.same fun x hx => by
      obtain ⟨_, cs, k⟩ := h.rw_.g.bq hx
      exact far x (k.ne hK (by decide))
  · rw [e2]
    exact h.rw_.v.same fun x hx => by
      obtain ⟨_, cs, k⟩ := h.rw_.v.bq hx
      exact far x (k.ne hK (by decide))
theorem OD.a3 (h : OD B p m b n D s K E st o vg vv L r w0 w) : w.cell? ⟨st, 0, none⟩ = some (.int .u8 4) ∧ w.cell? ⟨st, 1, none⟩ = some (.int .i64 0) ∧ w.cell? ⟨st, 2, none⟩ = some (.int .i64 0) := ⟨h.ga.cell 0, h.ga.cell 1, h.ga.cell 2⟩
theorem OD.start (hE : K ∈ E) (k : Bk K 80 (RD o vg vv) w) (R : Rw B o vg vv w) (P : Pr p m b n D s L M.s w) (hB : B ≤ w.heap.size) : OD B p m b n D s K E w.heap.size o vg vv L M.s w (w.alloc (.cells #[.int .u8 4, .int .i64 0, .int .i64 0] 34)) := by
  have hb : Below w.heap.size w (w.alloc (.cells #[.int .u8 4, .int .i64 0, .int .i64 0] 34)) := (Below.refl _ _).alloc (Nat.le_refl _) _
  have hK := k.lt
  have _ := hE
  obtain ⟨⟨cp, kp⟩, ⟨cb, kb⟩, _⟩ := P.blocks
  have hp := kp.lt
  have hbb := kb.lt
  exact ⟨k.below hb, R.below hb, Bk.new w _ _, ⟨by omega, by omega, by omega⟩, P.below hb, .of_below hb hB⟩
/-- What a line leaves: rows may have grown, within their own blocks or into new ones. -/
def OdS (B p m b n c : Nat) (D : DataW Unit) (s : Acc8) (K : Nat) (vg vv : Value) (o' : OG) (M' : MV) (w0 : World) (ee : Ending) (w' : World) : Prop :=
  ee = .returned (.tuple #[]) ∧ ∃ L' vg' st, AftP L' (c + 1) M' ∧ OD B p m b n D s K (K :: (vg.ownBlock.toList ++ vv.ownBlock.toList)) st o' vg' vv L' M'.s w0 w' ∧ (∀ x, vg'.ownBlock = some x → vg.ownBlock = some x ∨ w0.heap.size ≤ x)
end
end
end Go.Proofs.YtjpanofkikfeoaaGreatDoor
