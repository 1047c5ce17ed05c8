/-
  Both memories in words: what each access of the document's does; from the document's step to the program's, and both memories behind it; what lies between two lines of a step of the document's; condition: both memories say the same.
-/
import Derived.Test.YtffkjdmpeeagoaaDoorTB1
import Derived.Test.YtffkjdmpeeagoaaDoorA1
import Derived.Test.YtffkjdmpeeagoaaDoorD6
namespace Go.Proofs.YtffkjdmpeeagoaaDoor
open Go.RowKit Go.Maps

/-- The document's words are that. -/
def AftP (L : List (Ad × Int)) (c : Nat) (M : MV) : Prop := (∀ x, vals L x = M.V x) ∧ L.length ≤ c ∧ (L.map Prod.fst).Nodup
/-- A block of an operation: not of the memories, not of the law's own. -/
def okT (t : TypeId) : Bool := !(t == 109 || t == 106 || t == 97 || t == 28 || t == 46 || t == 39)
def OwnX (B x : Nat) (w : World) : Prop := B ≤ x ∧ ∃ t cs, Bq x t cs w ∧ okT t = true
section
variable {B p m b n c e K : Nat} {D : DataW Unit} {s r r' : Acc8} {L L' : List (Ad × Int)} {M M' : MV} {w w' w0 w1 w2 : World} {E : List Nat} {cs cs' : List Value} {v : Int} {q x y : Nat}
theorem vals_storeA (x : Ad) (v : Int) {V : Ad → Int} (hv : ∀ y, vals L y = V y) (y : Ad) : vals (storeA L x v) y = setV V x v y := by
  unfold storeA setV
  by_cases hm : mayB x.k x.a x.f = true
  · rw [if_pos hm, vals_put]
    by_cases e : x = y
    · rw [if_pos e, if_pos ⟨hm, (eqA_iff y x).2 e.symm⟩]
    · rw [if_neg e, if_neg (fun h => e ((eqA_iff y x).1 h.2).symm), hv]
  · rw [if_neg hm, if_neg (fun h => hm h.1), hv]
theorem casA_V (x : Ad) (u : Int) {V : Ad → Int} (hv : ∀ y, vals L y = V y) : casA L x u = casV V x u := by unfold casA casV; rw [hv]
theorem vals_casL (x : Ad) (u v : Int) {V : Ad → Int} (hv : ∀ y, vals L y = V y) (y : Ad) : vals (casL L x u v) y = csV V x u v y := by
  unfold casL csV
  rw [casA_V x u hv]
  by_cases hc : casV V x u = true
  · rw [if_pos hc, if_pos hc]
    have hm : mayB x.k x.a x.f = true := by unfold casV at hc; simp at hc; exact hc.1
    have := vals_storeA x v hv y
    rw [show storeA L x v = putA L x v from if_pos hm] at this
    exact this
  · rw [if_neg hc, if_neg hc, hv]
theorem storeA_nodup (h : (L.map Prod.fst).Nodup) (x : Ad) (v : Int) : ((storeA L x v).map Prod.fst).Nodup := by
  unfold storeA
  split
  · exact putA_nodup L x v h
  · exact h
theorem casL_nodup (h : (L.map Prod.fst).Nodup) (x : Ad) (u v : Int) : ((casL L x u v).map Prod.fst).Nodup := by
  unfold casL
  split
  · exact putA_nodup L x v h
  · exact h
theorem aft_ld {v : Int} (x : Ad) (hv : ∀ y, vals L y = M.V y) (hn : (L.map Prod.fst).Nodup) (hc : L.length ≤ c) (e : vals L x = v) : AftP L (c + 1) (ldM M x) ∧ M.s.touch 1 x v v false = (ldM M x).s := by
  subst e
  rw [hv]
  exact ⟨⟨hv, by omega, hn⟩, rfl⟩
theorem aft_st (x : Ad) (v : Int) (hv : ∀ y, vals L y = M.V y) (hn : (L.map Prod.fst).Nodup) (hc : L.length ≤ c) : AftP (storeA L x v) (c + 1) (stM M x v) ∧ M.s.touch 2 x (vals L x) (vals (storeA L x v) x) false = (stM M x v).s := by
  have hv' := vals_storeA x v hv
  rw [hv, hv']
  exact ⟨⟨hv', Nat.le_trans (storeA_len L x v) (by omega), storeA_nodup hn x v⟩, rfl⟩
theorem aft_cs (x : Ad) (u v : Int) {cc : Bool} (hcc : casA L x u = cc) (hv : ∀ y, vals L y = M.V y) (hn : (L.map Prod.fst).Nodup) (hc : L.length ≤ c) : AftP (casL L x u v) (c + 1) (csM M x u v) ∧ M.s.touch 3 x (vals L x) (vals (casL L x u v) x) cc = (csM M x u v).s := by
  subst hcc
  have hv' := vals_casL x u v hv
  rw [hv, hv', casA_V x u hv]
  exact ⟨⟨hv', Nat.le_trans (casL_len L x u v) (by omega), casL_nodup hn x u v⟩, rfl⟩
/-- What it needs: both memories say the same. -/
structure Say (p m b n : Nat) (D : DataW Unit) (L : List (Ad × Int)) (c : Nat) (M : MV) (w : World) : Prop where
  pr : Pr p m b n D M.s L M.s w
  rel : Rel D L
  val : ∀ x, vals L x = M.V x
  len : L.length ≤ c
  st0 : 0 ≤ M.s.st
  st1 : M.s.st < 1000000
theorem Say.u64 (S : Say p m b n D L c M w) (x : Ad) : U64 (M.V x) := by rw [← S.val]; exact S.pr.val_u64 S.rel x
theorem Say.aft (S : Say p m b n D L c M w) : AftP L (c + 1) M := ⟨S.val, by have := S.len; omega, S.rel.nodup⟩
theorem Say.aftLd (S : Say p m b n D L c M w) (x : Ad) : AftP L (c + 1) (ldM M x) := (aft_ld x S.val S.rel.nodup S.len rfl).1
theorem Say.aftCs (S : Say p m b n D L c M w) (x : Ad) (u v : Int) : AftP (casL L x u v) (c + 1) (csM M x u v) := (aft_cs x u v rfl S.val S.rel.nodup S.len).1
theorem Say.below (S : Say p m b n D L c M w) (hb : Below w.heap.size w w') : Say p m b n D L c M w' := ⟨S.pr.below hb, S.rel, S.val, S.len, S.st0, S.st1⟩
theorem Say.aftSt (S : Say p m b n D L c M w) (x : Ad) (v : Int) : AftP (storeA L x v) (c + 1) (stM M x v) := (aft_st x v S.val S.rel.nodup S.len).1
theorem Say.ldD {x : Ad} {k a f : Int} (S : Say p m b n D L c M w) (hc : c ≤ 900) (hx : x.k = k ∧ x.a = a ∧ x.f = f) (hv : M.V x = v) (P : Pr p m b n D M.s L M.s w1) :
    Calls Tryd.prog 68 #[.pointer (some ⟨b, 0, none⟩), .agg #[.int .u8 k, .int .i64 a, .int .i64 f]] w1 fun ee w' => ee = .returned (.int .u64 v) ∧ Pr p m b n D M.s L (ldM M x).s w' ∧ Fr p m b w1 w' := by
  obtain ⟨rfl, rfl, rfl⟩ := hx
  subst hv
  rw [← S.val]
  obtain ⟨_, a2⟩ := aft_ld x S.val S.rel.nodup S.len rfl
  rw [← a2]
  exact load_r x P (by have := S.len; omega) S.st0 S.st1
theorem Say.stD {x : Ad} {k a f : Int} (S : Say p m b n D L c M w) (hc : c ≤ 900) (hx : x.k = k ∧ x.a = a ∧ x.f = f) (v : Int) (P : Pr p m b n D M.s L M.s w1) :
    Calls Tryd.prog 41 #[.pointer (some ⟨b, 0, none⟩), .agg #[.int .u8 k, .int .i64 a, .int .i64 f], .int .u64 v] w1 fun ee w' => ee = .returned (.tuple #[]) ∧ Pr p m b n D M.s (storeA L x v) (stM M x v).s w' ∧ Fr p m b w1 w' := by
  obtain ⟨rfl, rfl, rfl⟩ := hx
  obtain ⟨_, a2⟩ := aft_st x v S.val S.rel.nodup S.len
  rw [← a2]
  exact store_r x v P (by have := S.len; omega) S.st0 S.st1
theorem Say.csD {x : Ad} {k a f : Int} (S : Say p m b n D L c M w) (hc : c ≤ 900) (hx : x.k = k ∧ x.a = a ∧ x.f = f) (u v : Int) {q : Bool} (hq : casV M.V x u = q) (P : Pr p m b n D M.s L M.s w1) :
    Calls Tryd.prog 70 #[.pointer (some ⟨b, 0, none⟩), .agg #[.int .u8 k, .int .i64 a, .int .i64 f], .int .u64 u, .int .u64 v] w1 fun ee w' => ee = .returned (.bool q) ∧ Pr p m b n D M.s (casL L x u v) (csM M x u v).s w' ∧ Fr p m b w1 w' := by
  obtain ⟨rfl, rfl, rfl⟩ := hx
  have hq2 : casA L x u = q := (casA_V _ u S.val).trans hq
  subst hq2
  obtain ⟨_, a2⟩ := aft_cs x u v rfl S.val S.rel.nodup S.len
  rw [← a2]
  exact cas_r x u v P (by have := S.len; omega) S.st0 S.st1
theorem OwnX.lt (h : OwnX B x w) : x < w.heap.size := by obtain ⟨_, t, cs, k, _⟩ := h; exact k.lt
theorem OwnX.same (h : OwnX B x w) (hs : w'.heap[x]? = w.heap[x]?) : OwnX B x w' := by obtain ⟨g, t, cs, k, h1⟩ := h; exact ⟨g, t, cs, k.same hs, h1⟩
theorem bq_type {t u : TypeId} {cs ds : List Value} (k : Bq x t cs w) (j : Bq x u ds w) : t = u := by
  have := Eq.trans (Eq.symm k) j
  simp only [Option.some.injEq, Obj.cells.injEq] at this
  exact this.2.1
theorem OwnX.ne (h : OwnX B x w) {u : TypeId} {ds : List Value} (k : Bq y u ds w) (hu : okT u = false) : x ≠ y := by
  rintro rfl
  obtain ⟨_, t, cs, k1, h1⟩ := h
  rw [bq_type k1 k, hu] at h1
  cases h1
theorem Pr.blocks (P : Pr p m b n D s L M.s w) : (∃ cs, Bq p 109 cs w) ∧ (∃ cs, Bq b 97 cs w) ∧ ∃ es k, w.heap[m]? = some (.map es k) := by
  obtain ⟨v, hr⟩ := P.ref
  exact ⟨⟨_, by unfold Bq; exact P.prog.blk⟩, ⟨_, hr.blk⟩, P.prog.map_at⟩
/-- What the document's step keeps. -/
theorem OwnX.fxl (h : OwnX B x w) (P : Pr p m b n D s L M.s w) (f : FxL B p b E w w') (hx : x ∉ E) : w'.heap[x]? = w.heap[x]? := by
  obtain ⟨⟨cp, kp⟩, ⟨cb, kb⟩, _⟩ := P.blocks
  have h1 := h.ne kp (by decide)
  have h2 := h.ne kb (by decide)
  obtain ⟨_, t, cs, k, ht⟩ := h
  exact (f.far x _ _ _ k (by rintro rfl; revert ht; decide) h1 h2 hx).trans (Eq.symm k)
theorem OwnX.onl (h : OwnX B x w) (F : VX p m M w) (o : Onl p m E w w') (hx : x ∉ E) : w'.heap[x]? = w.heap[x]? := by
  have hlt := h.lt
  obtain ⟨_, t, cs, k, ht⟩ := h
  obtain ⟨h1, h2⟩ := F.ne (by rintro rfl; revert ht; decide) k
  exact o.block x hlt h1 h2 hx
theorem onl_fxl (o : Onl p m E w w') (F : VX p m M w) (hp : B ≤ p) (hm : B ≤ m) (hE : ∀ x ∈ E, B ≤ x) (hB : B ≤ w.heap.size) : FxL B p b E w w' := by
  refine ⟨o.below hp hm hE hB, fun x cs t fr hx _ h1 _ h3 => (o.block x (Array.getElem?_eq_some_iff.1 hx).1 h1 ?_ h3).trans hx⟩
  rintro rfl
  obtain ⟨_, es, c, hm⟩ := F.objs
  rw [hx] at hm
  cases hm
/-- Both memories, as a step asks them. -/
theorem Both.say (h : Both p m b c w) (hc : c ≤ 900) : ∃ n D L M, Say p m b n D L c M w ∧ (n : Int) ≤ M.s.st ∧ M.s.st ≤ c := by
  obtain ⟨n, D, s, L, hP, hr, hL, hn, h0, h1⟩ := h
  exact ⟨n, D, L, ⟨vals L, s⟩, ⟨hP, hr, fun _ => rfl, hL, h0, by show s.st < 1000000; omega⟩, hn, h1⟩
/-- The program's memory behind the document's step. -/
theorem Say.vx {r' : Acc8} (S : Say p m b n D L c M w) (hn : (n : Int) ≤ M.s.st) (P1 : Pr p m b n D M.s L' r' w1) (hl : Lay w1) (hm : LayM w1) (h1 : 1 < m) : VX p m M w1 :=
  ⟨⟨n, D, hn, ⟨S.rel.map, S.rel.has⟩, P1.prog, fun x => (S.rel.val x).trans (S.val x)⟩, hl, hm, by have := P1.mp; omega, h1⟩
/-- Both memories behind the program's. -/
theorem Both.of_vx (P1 : Pr p m b n D s L' M'.s w1) (A : AftP L' (c + 1) M') (F : VX p m M' w2) (o : Onl p m E w1 w2) (hE : ∀ x ∈ E, OwnX B x w1) (hst : M'.s.st ≤ ((c + 1 : Nat) : Int)) : Both p m b (c + 1) w2 := by
  obtain ⟨⟨cp, kp⟩, _, es, k, hm⟩ := P1.blocks
  have kc : ∀ z (cs : Array Value) t, w1.heap[z]? = some (Obj.cells cs t (0, 0)) → okT t = false → t ≠ 109 → w2.heap[z]? = some (Obj.cells cs t (0, 0)) := fun z cs t hz h1 h2 => by
    have kz : Bq z t cs.toList w1 := by unfold Bq; simpa using hz
    refine (o.block z (Array.getElem?_eq_some_iff.1 hz).1 (kz.ne kp h2) ?_ (fun hx => (hE z hx).ne kz h1 rfl)).trans hz
    rintro rfl
    rw [hz] at hm
    cases hm
  have h0 := F.st0
  obtain ⟨n', D', g1, g2, g3, g4⟩ := F.mem
  refine ⟨n', D', M'.s, L', ⟨g3, ?_, P1.mp, P1.pb⟩, ⟨g2.map, A.2.2, fun x => (g4 x).trans (A.1 x).symm, g2.has⟩, A.2.1, g1, h0, hst⟩
  obtain ⟨v, hr⟩ := P1.ref
  refine ⟨v, kc _ _ _ hr.blk (by decide) (by decide), ⟨hr.own.1, ?_⟩, hr.pos⟩
  rcases hr.own.2 with hn | ⟨g, cap, cur, hv, hB, hh, rest⟩
  · exact .inl hn
  · exact .inr ⟨g, cap, cur, hv, hB, kc _ _ _ hh (by decide) (by decide), rest⟩
/-- What lies between two lines of a step of the document's. -/
structure OD (B p m b n : Nat) (D : DataW Unit) (s : Acc8) (K : Nat) (E : List Nat) (cs : List Value) (L : List (Ad × Int)) (r : Acc8) (w0 w : World) : Prop where
  k : Bk K 99 cs w
  pr : Pr p m b n D s L r w
  f : FxL B p b E w0 w
theorem OD.start (k : Bk K 99 cs w) (P : Pr p m b n D s L r w) (hB : B ≤ w.heap.size) : OD B p m b n D s K E cs L r w w := ⟨k, P, .of_below (Below.refl _ w) hB⟩
theorem OD.below (h : OD B p m b n D s K E cs L r w0 w) (hBK : B ≤ K) (hb : Below w.heap.size w w') : OD B p m b n D s K E cs L r w0 w' := ⟨h.k.below hb, h.pr.below hb, h.f.trans (.of_below hb (Nat.le_trans hBK (Nat.le_of_lt h.k.lt)))⟩
theorem OD.fr (h : OD B p m b n D s K E cs L r w0 w) (hBm : B ≤ m) (hn : K ≠ p ∧ K ≠ b) (P : Pr p m b n D s L' r' w') (f : Fr p m b w w') : OD B p m b n D s K E cs L' r' w0 w' := ⟨h.k.fr f (by decide) hn.1 hn.2, P, h.f.trans (.of_fr f hBm)⟩
theorem OD.set (h : OD B p m b n D s K E cs L r w0 w) (hBK : B ≤ K) (hE : K ∈ E) (hn : K ≠ p ∧ K ≠ b) (i : Nat) (v : Value) (e : cs' = cs.set i v) : OD B p m b n D s K E cs' L r w0 (w.setCell ⟨K, i, none⟩ v) := ⟨h.k.set i v e, h.pr.setX h.k (by decide) hn.1 hn.2 i v, h.f.trans (.set (E := E) _ hBK hE i v)⟩
/-- What a line leaves. -/
def OdS (B p m b n c : Nat) (D : DataW Unit) (s : Acc8) (K : Nat) (E : List Nat) (cs : List Value) (M' : MV) (w0 : World) (ee : Ending) (w' : World) : Prop := ee = .returned (.tuple #[]) ∧ ∃ L', AftP L' (c + 1) M' ∧ OD B p m b n D s K E cs L' M'.s w0 w'
end
end Go.Proofs.YtffkjdmpeeagoaaDoor
