/-
  Both memories in words: what each access of the document's does; from the document's step to the program's, and both memories behind it; what lies between two lines of a step of the document's; condition: both memories say the same.
-/
import Derived.Test.YtapcgikamldchaaDoorSE1
import Derived.Test.YtapcgikamldchaaDoorA1
import Derived.Test.YtapcgikamldchaaDoorD6
namespace Go.Proofs.YtapcgikamldchaaDoor
open Go.RowKit Go.Maps

/-- The document's words are that. -/
def AftP (L : List (Ad × Int)) (c : Nat) (M : MV) : Prop := (∀ x, vals L x = M.V x) ∧ L.length ≤ c ∧ (L.map Prod.fst).Nodup
/-- A block of a taker: not of the memories, not of the law's own (rows of threads may be either's). -/
def okT (t : TypeId) : Bool := t == 59 || t == 38 || t == 52
def OwnX (B x : Nat) (w : World) : Prop := B ≤ x ∧ ∃ t cs, Bq x t cs w ∧ okT t = true
section
variable {B p m b n c e K : Nat} {D : DataW Unit} {s r r' : Acc8} {L L' : List (Ad × Int)} {M M' : MV} {w w' w0 w1 w2 : World} {E : List Nat} {cs cs' : List Value} {v : Int} {q x y : Nat}
theorem vals_storeA (x : Ad) (v : Int) {V : Ad → Int} (hv : ∀ y, vals L y = V y) (y : Ad) : vals (storeA L x v) y = setV V x v y := by
  unfold storeA setV
  by_cases hm : mayB x.k x.a x.f = true
  · rw [if_pos hm, vals_put]
    by_cases e : x = y
    · rw [if_pos e, if_pos ⟨hm, (eqA_iff y x).2 e.symm⟩]
    · rw [if_neg e, if_neg (fun h => e ((eqA_iff y x).1 h.2).symm), hv]
  · rw [if_neg hm, if_neg (fun h => hm h.1), hv]
theorem casA_V (x : Ad) (u : Int) {V : Ad → Int} (hv : ∀ y, vals L y = V y) : casA L x u = casV V x u := by unfold casA casV; rw [hv]
theorem vals_casL (x : Ad) (u v : Int) {V : Ad → Int} (hv : ∀ y, vals L y = V y) (y : Ad) : vals (casL L x u v) y = csV V x u v y := by
  unfold casL csV
  rw [casA_V x u hv]
  by_cases hc : casV V x u = true
  · rw [if_pos hc, if_pos hc]
    have hm : mayB x.k x.a x.f = true := by unfold casV at hc; simp at hc; exact hc.1
    have := vals_storeA x v hv y
    rw [show storeA L x v = putA L x v from if_pos hm] at this
    exact this
  · rw [if_neg hc, if_neg hc, hv]
theorem storeA_nodup (h : (L.map Prod.fst).Nodup) (x : Ad) (v : Int) : ((storeA L x v).map Prod.fst).Nodup := by
  unfold storeA
  split
  · exact putA_nodup L x v h
  · exact h
theorem casL_nodup (h : (L.map Prod.fst).Nodup) (x : Ad) (u v : Int) : ((casL L x u v).map Prod.fst).Nodup := by
  unfold casL
  split
  · exact putA_nodup L x v h
  · exact h
theorem aft_ld {v : Int} (x : Ad) (hv : ∀ y, vals L y = M.V y) (hn : (L.map Prod.fst).Nodup) (hc : L.length ≤ c) (e : vals L x = v) : AftP L (c + 1) (ldM M x) ∧ M.s.touch 1 x v v false = (ldM M x).s := by
  subst e
  rw [hv]
  exact ⟨⟨hv, by omega, hn⟩, rfl⟩
theorem aft_st (x : Ad) (v : Int) (hv : ∀ y, vals L y = M.V y) (hn : (L.map Prod.fst).Nodup) (hc : L.length ≤ c) : AftP (storeA L x v) (c + 1) (stM M x v) ∧ M.s.touch 2 x (vals L x) (vals (storeA L x v) x) false = (stM M x v).s := by
  have hv' := vals_storeA x v hv
  rw [hv, hv']
  exact ⟨⟨hv', Nat.le_trans (storeA_len L x v) (by omega), storeA_nodup hn x v⟩, rfl⟩
theorem aft_cs (x : Ad) (u v : Int) {cc : Bool} (hcc : casA L x u = cc) (hv : ∀ y, vals L y = M.V y) (hn : (L.map Prod.fst).Nodup) (hc : L.length ≤ c) : AftP (casL L x u v) (c + 1) (csM M x u v) ∧ M.s.touch 3 x (vals L x) (vals (casL L x u v) x) cc = (csM M x u v).s := by
  subst hcc
  have hv' := vals_casL x u v hv
  rw [hv, hv', casA_V x u hv]
  exact ⟨⟨hv', Nat.le_trans (casL_len L x u v) (by omega), casL_nodup hn x u v⟩, rfl⟩
/-- What it needs: both memories say the same. -/
structure Say (p m b n : Nat) (D : DataW Unit) (L : List (Ad × Int)) (c : Nat) (M : MV) (w : World) : Prop where
  pr : Pr p m b n D M.s L M.s w
  rel : Rel D L
  val : ∀ x, vals L x = M.V x
  len : L.length ≤ c
  st0 : 0 ≤ M.s.st
  st1 : M.s.st < 1000000
theorem Say.u64 (S : Say p m b n D L c M w) (x : Ad) : U64 (M.V x) := by rw [← S.val]; exact S.pr.val_u64 S.rel x
theorem Say.aft (S : Say p m b n D L c M w) : AftP L (c + 1) M := ⟨S.val, by have := S.len; omega, S.rel.nodup⟩
theorem Say.aftLd (S : Say p m b n D L c M w) (x : Ad) : AftP L (c + 1) (ldM M x) := (aft_ld x S.val S.rel.nodup S.len rfl).1
theorem Say.aftCs (S : Say p m b n D L c M w) (x : Ad) (u v : Int) : AftP (casL L x u v) (c + 1) (csM M x u v) := (aft_cs x u v rfl S.val S.rel.nodup S.len).1
theorem Say.below (S : Say p m b n D L c M w) (hb : Below w.heap.size w w') : Say p m b n D L c M w' := ⟨S.pr.below hb, S.rel, S.val, S.len, S.st0, S.st1⟩
theorem Say.aftSt (S : Say p m b n D L c M w) (x : Ad) (v : Int) : AftP (storeA L x v) (c + 1) (stM M x v) := (aft_st x v S.val S.rel.nodup S.len).1
theorem Say.ldD {x : Ad} {k a f : Int} (S : Say p m b n D L c M w) (hc : c ≤ 900) (hx : x.k = k ∧ x.a = a ∧ x.f = f) (hv : M.V x = v) (P : Pr p m b n D M.s L M.s w1) :
    Calls Tryd.prog 30 #[.pointer (some ⟨b, 0, none⟩), .agg #[.int .u8 k, .int .i64 a, .int .i64 f]] w1 fun ee w' => ee = .returned (.int .u64 v) ∧ Pr p m b n D M.s L (ldM M x).s w' ∧ Fr p m b w1 w' := by
  obtain ⟨rfl, rfl, rfl⟩ := hx
  subst hv
  rw [← S.val]
  obtain ⟨_, a2⟩ := aft_ld x S.val S.rel.nodup S.len rfl
  rw [← a2]
  exact load_r x P (by have := S.len; omega) S.st0 S.st1
theorem Say.stD {x : Ad} {k a f : Int} (S : Say p m b n D L c M w) (hc : c ≤ 900) (hx : x.k = k ∧ x.a = a ∧ x.f = f) (v : Int) (P : Pr p m b n D M.s L M.s w1) :
    Calls Tryd.prog 28 #[.pointer (some ⟨b, 0, none⟩), .agg #[.int .u8 k, .int .i64 a, .int .i64 f], .int .u64 v] w1 fun ee w' => ee = .returned (.tuple #[]) ∧ Pr p m b n D M.s (storeA L x v) (stM M x v).s w' ∧ Fr p m b w1 w' := by
  obtain ⟨rfl, rfl, rfl⟩ := hx
  obtain ⟨_, a2⟩ := aft_st x v S.val S.rel.nodup S.len
  rw [← a2]
  exact store_r x v P (by have := S.len; omega) S.st0 S.st1
theorem OwnX.lt (h : OwnX B x w) : x < w.heap.size := by obtain ⟨_, t, cs, k, _⟩ := h; exact k.lt
theorem OwnX.same (h : OwnX B x w) (hs : w'.heap[x]? = w.heap[x]?) : OwnX B x w' := by obtain ⟨g, t, cs, k, h1⟩ := h; exact ⟨g, t, cs, k.same hs, h1⟩
theorem bq_type {t u : TypeId} {cs ds : List Value} (k : Bq x t cs w) (j : Bq x u ds w) : t = u := by
  have := Eq.trans (Eq.symm k) j
  simp only [Option.some.injEq, Obj.cells.injEq] at this
  exact this.2.1
theorem OwnX.ne (h : OwnX B x w) {u : TypeId} {ds : List Value} (k : Bq y u ds w) (hu : okT u = false) : x ≠ y := by
  rintro rfl
  obtain ⟨_, t, cs, k1, h1⟩ := h
  rw [bq_type k1 k, hu] at h1
  cases h1
theorem Pr.blocks (P : Pr p m b n D s L M.s w) : (∃ cs, Bq p 90 cs w) ∧ (∃ cs, Bq b 80 cs w) ∧ ∃ es k, w.heap[m]? = some (.map es k) := by
  obtain ⟨v, hr⟩ := P.ref
  exact ⟨⟨_, by unfold Bq; exact P.prog.blk⟩, ⟨_, hr.blk⟩, P.prog.map_at⟩
/-- What the document's step keeps. -/
theorem OwnX.fxl (h : OwnX B x w) (P : Pr p m b n D s L M.s w) (f : FxL B p b E w w') (hx : x ∉ E) : w'.heap[x]? = w.heap[x]? := by
  obtain ⟨⟨cp, kp⟩, ⟨cb, kb⟩, _⟩ := P.blocks
  have h1 := h.ne kp (by decide)
  have h2 := h.ne kb (by decide)
  obtain ⟨_, t, cs, k, ht⟩ := h
  exact (f.far x _ _ _ k (by rintro rfl; revert ht; decide) h1 h2 hx).trans (Eq.symm k)
theorem OwnX.onl (h : OwnX B x w) (F : VX p m M w) (o : Onl p m E w w') (hx : x ∉ E) : w'.heap[x]? = w.heap[x]? := by
  have hlt := h.lt
  obtain ⟨_, t, cs, k, ht⟩ := h
  obtain ⟨h1, h2⟩ := F.ne (by rintro rfl; revert ht; decide) k
  exact o.block x hlt h1 h2 hx
theorem onl_fxl (o : Onl p m E w w') (F : VX p m M w) (hp : B ≤ p) (hm : B ≤ m) (hE : ∀ x ∈ E, B ≤ x) (hB : B ≤ w.heap.size) : FxL B p b E w w' := by
  refine ⟨o.below hp hm hE hB, fun x cs t fr hx _ h1 _ h3 => (o.block x (Array.getElem?_eq_some_iff.1 hx).1 h1 ?_ h3).trans hx⟩
  rintro rfl
  obtain ⟨_, es, c, hm⟩ := F.objs
  rw [hx] at hm
  cases hm
/-- Both memories, as a step asks them. -/
theorem Both.say (h : Both p m b c w) (hc : c ≤ 900) : ∃ n D L M, Say p m b n D L c M w ∧ (n : Int) ≤ M.s.st ∧ M.s.st ≤ c := by
  obtain ⟨n, D, s, L, hP, hr, hL, hn, h0, h1⟩ := h
  exact ⟨n, D, L, ⟨vals L, s⟩, ⟨hP, hr, fun _ => rfl, hL, h0, by show s.st < 1000000; omega⟩, hn, h1⟩
/-- The program's memory behind the document's step. -/
theorem Say.vx {r' : Acc8} (S : Say p m b n D L c M w) (hn : (n : Int) ≤ M.s.st) (P1 : Pr p m b n D M.s L' r' w1) (hl : Lay w1) (hm : LayM w1) (h1 : 0 < m) : VX p m M w1 :=
  ⟨⟨n, D, hn, ⟨S.rel.map, S.rel.has⟩, P1.prog, fun x => (S.rel.val x).trans (S.val x)⟩, hl, hm, by have := P1.mp; omega, h1⟩
/-- Both memories behind the program's. -/
theorem Both.of_vx (P1 : Pr p m b n D s L' M'.s w1) (A : AftP L' (c + 1) M') (F : VX p m M' w2) (o : Onl p m E w1 w2) (hE : ∀ x ∈ E, OwnX B x w1) (hst : M'.s.st ≤ ((c + 1 : Nat) : Int)) : Both p m b (c + 1) w2 := by
  obtain ⟨⟨cp, kp⟩, _, es, k, hm⟩ := P1.blocks
  have kc : ∀ z (cs : Array Value) t, w1.heap[z]? = some (Obj.cells cs t (0, 0)) → okT t = false → t ≠ 90 → w2.heap[z]? = some (Obj.cells cs t (0, 0)) := fun z cs t hz h1 h2 => by
    have kz : Bq z t cs.toList w1 := by unfold Bq; simpa using hz
    refine (o.block z (Array.getElem?_eq_some_iff.1 hz).1 (kz.ne kp h2) ?_ (fun hx => (hE z hx).ne kz h1 rfl)).trans hz
    rintro rfl
    rw [hz] at hm
    cases hm
  have h0 := F.st0
  obtain ⟨n', D', g1, g2, g3, g4⟩ := F.mem
  refine ⟨n', D', M'.s, L', ⟨g3, ?_, P1.mp, P1.pb⟩, ⟨g2.map, A.2.2, fun x => (g4 x).trans (A.1 x).symm, g2.has⟩, A.2.1, g1, h0, hst⟩
  obtain ⟨v, hr⟩ := P1.ref
  refine ⟨v, kc _ _ _ hr.blk (by decide) (by decide), ⟨hr.own.1, ?_⟩, hr.pos⟩
  rcases hr.own.2 with hn | ⟨g, cap, cur, hv, hB, hh, rest⟩
  · exact .inl hn
  · exact .inr ⟨g, cap, cur, hv, hB, kc _ _ _ hh (by decide) (by decide), rest⟩
/-- Both memories, that hold M. -/
def BothM (p m b c : Nat) (M : MV) (w : World) : Prop := ∃ n D L, Say p m b n D L c M w ∧ (n : Int) ≤ M.s.st ∧ M.s.st ≤ c
theorem BothM.both (h : BothM p m b c M w) : Both p m b c w := by
  obtain ⟨n, D, L, S, hn, hs⟩ := h
  exact ⟨n, D, M.s, L, S.pr, S.rel, S.len, hn, S.st0, hs⟩
theorem Both.toM (h : Both p m b c w) (hc : c ≤ 900) : ∃ M, BothM p m b c M w := by
  obtain ⟨n, D, L, M, S, hn, hs⟩ := h.say hc
  exact ⟨M, n, D, L, S, hn, hs⟩
theorem BothM.below (h : BothM p m b c M w) (hb : Below w.heap.size w w') : BothM p m b c M w' := by
  obtain ⟨n, D, L, S, hn, hs⟩ := h
  exact ⟨n, D, L, S.below hb, hn, hs⟩
theorem BothM.of_vx {M' : MV} (P1 : Pr p m b n D s L M'.s w1) (A : AftP L (c + 1) M') (F : VX p m M' w2) (o : Onl p m E w1 w2) (hE : ∀ x ∈ E, OwnX B x w1) (hst : M'.s.st ≤ ((c + 1 : Nat) : Int)) (hc : c ≤ 900) : BothM p m b (c + 1) M' w2 := by
  obtain ⟨⟨cp, kp⟩, _, es, k, hm⟩ := P1.blocks
  have kc : ∀ z (cs : Array Value) t, w1.heap[z]? = some (Obj.cells cs t (0, 0)) → okT t = false → t ≠ 90 → w2.heap[z]? = some (Obj.cells cs t (0, 0)) := fun z cs t hz h1 h2 => by
    have kz : Bq z t cs.toList w1 := by unfold Bq; simpa using hz
    refine (o.block z (Array.getElem?_eq_some_iff.1 hz).1 (kz.ne kp h2) ?_ (fun hx => (hE z hx).ne kz h1 rfl)).trans hz
    rintro rfl
    rw [hz] at hm
    cases hm
  have h0 := F.st0
  obtain ⟨n', D', g1, g2, g3, g4⟩ := F.mem
  refine ⟨n', D', L, ⟨⟨g3, ?_, P1.mp, P1.pb⟩, ⟨g2.map, A.2.2, fun x => (g4 x).trans (A.1 x).symm, g2.has⟩, A.1, A.2.1, h0, by push_cast at hst; omega⟩, g1, hst⟩
  obtain ⟨v, hr⟩ := P1.ref
  refine ⟨v, kc _ _ _ hr.blk (by decide) (by decide), ⟨hr.own.1, ?_⟩, hr.pos⟩
  rcases hr.own.2 with hn | ⟨g, cap, cur, hv, hB, hh, rest⟩
  · exact .inl hn
  · exact .inr ⟨g, cap, cur, hv, hB, kc _ _ _ hh (by decide) (by decide), rest⟩
theorem Pr.keepE (P : Pr p m b n D s L r w) (hs : ∀ z, z < w.heap.size → (∀ cs, ¬ Bq z 52 cs w) → w'.heap[z]? = w.heap[z]?) : Pr p m b n D s L r w' := by
  obtain ⟨⟨cp, kp⟩, ⟨cb, kb⟩, es, k, hm⟩ := P.blocks (M := ⟨fun _ => 0, r⟩)
  have key : ∀ z (cs : Array Value) t, w.heap[z]? = some (Obj.cells cs t (0, 0)) → t ≠ 52 → w'.heap[z]? = some (Obj.cells cs t (0, 0)) := fun z cs t hz ht => by
    have kz : Bq z t cs.toList w := by unfold Bq; simpa using hz
    exact (hs z kz.lt fun ds kd => ht (bq_type kz kd)).trans hz
  refine ⟨P.prog.keep3 (hs p kp.lt fun ds kd => absurd (bq_type kp kd) (by decide)) (hs m (Array.getElem?_eq_some_iff.1 hm).1 fun ds kd => ?_), ?_, P.mp, P.pb⟩
  · unfold Bq at kd
    rw [hm] at kd
    cases kd
  · obtain ⟨v, hr⟩ := P.ref
    refine ⟨v, key _ _ _ hr.blk (by decide), ⟨hr.own.1, ?_⟩, hr.pos⟩
    rcases hr.own.2 with hn | ⟨g, cap, cur, hv, hB, hh, rest⟩
    · exact .inl hn
    · exact .inr ⟨g, cap, cur, hv, hB, key _ _ _ hh (by decide), rest⟩
theorem ownsRow_form {v' : Value} {base : Nat} {t : TypeId} {size k : Nat} {xs : List Value} (h : w.ownsRow base t size v' k xs) : ∃ A c, v' = .slice A k c := by
  rcases h.2 with ⟨rfl, rfl⟩ | ⟨g, cap, cur, rfl, _⟩
  · exact ⟨_, _, rfl⟩
  · exact ⟨_, _, rfl⟩
/-- The document's taker, its cells. -/
def RDt (s : SG) (v : Value) : List Value := [.int .i64 s.ln, v, .int .u64 0, .int .i64 s.bl, .int .i64 (s.fd : Int)]
/-- What lies between two lines of its step. -/
structure OT (B p m b n : Nat) (D : DataW Unit) (s : Acc8) (K : Nat) (E : List Nat) (cs : List Value) (v : Value) (l : List TH) (L : List (Ad × Int)) (r : Acc8) (w0 w : World) : Prop where
  k : Bk K 38 cs w
  row : OwnH w B v l
  pr : Pr p m b n D s L r w
  f : FxL B p b E w0 w
theorem Bk.neT (h : Bk K 38 cs w) (P : Pr p m b n D s L r w) : K ≠ p ∧ K ≠ b := by
  obtain ⟨⟨cp, kp⟩, ⟨cb, kb⟩, _⟩ := P.blocks (M := ⟨fun _ => 0, r⟩)
  have hK : Bq K 38 cs w := h
  exact ⟨hK.ne kp (by decide), hK.ne kb (by decide)⟩
theorem OwnH.neQ {v : Value} {xs : List TH} (h : OwnH w B v xs) (hx : v.ownBlock = some x) (P : Pr p m b n D s L r w) : x ≠ p ∧ x ≠ b := by
  obtain ⟨_, cs, k⟩ := h.bq hx
  obtain ⟨⟨cp, kp⟩, ⟨cb, kb⟩, _⟩ := P.blocks (M := ⟨fun _ => 0, r⟩)
  exact ⟨k.ne kp (by decide), k.ne kb (by decide)⟩
theorem OwnH.fr {v : Value} {xs : List TH} (h : OwnH w B v xs) (P : Pr p m b n D s L r w) (f : Fr p m b w w') : OwnH w' B v xs := h.same fun x hx => by
  obtain ⟨n1, n2⟩ := h.neQ hx P
  obtain ⟨_, cs, k⟩ := h.bq hx
  exact (f.cell (show Bk x _ cs w from k) (by decide) n1 n2).trans (Eq.symm k)
section
variable {v : Value} {l : List TH}
theorem OT.start (k : Bk K 38 cs w) (R : OwnH w B v l) (P : Pr p m b n D s L r w) (hB : B ≤ w.heap.size) : OT B p m b n D s K E cs v l L r w w := ⟨k, R, P, .of_below (Below.refl _ w) hB⟩
theorem OT.below (h : OT B p m b n D s K E cs v l L r w0 w) (hBK : B ≤ K) (hb : Below w.heap.size w w') : OT B p m b n D s K E cs v l L r w0 w' := ⟨h.k.below hb, h.row.below hb, h.pr.below hb, h.f.trans (.of_below hb (Nat.le_trans hBK (Nat.le_of_lt h.k.lt)))⟩
theorem OT.fr (h : OT B p m b n D s K E cs v l L r w0 w) (hBm : B ≤ m) (P : Pr p m b n D s L' r' w') (f : Fr p m b w w') : OT B p m b n D s K E cs v l L' r' w0 w' := by
  obtain ⟨n1, n2⟩ := h.k.neT h.pr
  exact ⟨h.k.fr f (by decide) n1 n2, h.row.fr h.pr f, P, h.f.trans (.of_fr f hBm)⟩
/-- Blocks that were not there yet count as nothing. -/
theorem FxL.fresh {E' : List Nat} {X Y : World} (h : FxL B p b E X Y) (hE : ∀ x ∈ E, x ∈ E' ∨ X.heap.size ≤ x) : FxL B p b E' X Y := ⟨h.low, fun x cs t fr hx ht h1 h2 h3 => h.far x cs t fr hx ht h1 h2 fun k => by
  rcases hE x k with h4 | h4
  · exact h3 h4
  · have := (Array.getElem?_eq_some_iff.1 hx).1
    omega⟩
/-- One of its words is another one. -/
theorem OT.set (h : OT B p m b n D s K E cs v l L r w0 w) (hBK : B ≤ K) (hE : K ∈ E) (i : Nat) (u : Value) (e : cs' = cs.set i u) : OT B p m b n D s K E cs' v l L r w0 (w.setCell ⟨K, i, none⟩ u) := by
  obtain ⟨n1, n2⟩ := h.k.neT h.pr
  have hK : Bq K 38 cs w := h.k
  refine ⟨h.k.set i u e, h.row.same fun x hx => ?_, h.pr.setX h.k (by decide) n1 n2 i u, h.f.trans (.set (E := E) _ hBK hE i u)⟩
  obtain ⟨_, ds, k⟩ := h.row.bq hx
  exact Below.heap_setCell w ⟨K, i, none⟩ u x (k.ne hK (by decide))
/-- One of its threads' words is another one. -/
theorem flatH_set : ∀ (l : List TH) (j f : Nat) (u : Int), j < l.length → f < 10 → flatH (l.set j ((l.getD j TH.zero).set f u)) = (flatH l).set (j * 10 + f) (.int .u64 u)
  | [], _, _, _, h, _ => absurd h (by simp)
  | x :: r, 0, f, u, _, hf => by
    unfold flatH
    simp only [List.set_cons_zero, List.flatMap_cons, List.getD_cons_zero, TH.cells_set x hf]
    rw [List.set_append_left _ _ (by rw [TH.cells_len]; omega)]
    simp
  | x :: r, j + 1, f, u, h, hf => by
    have ih := flatH_set r j f u (by simpa using h) hf
    unfold flatH at ih ⊢
    simp only [List.set_cons_succ, List.flatMap_cons, List.getD_cons_succ]
    rw [ih, List.set_append_right _ _ (by rw [TH.cells_len]; omega), TH.cells_len, show (j + 1) * 10 + f - 10 = j * 10 + f by omega]
theorem OwnH.set {g n c : Nat} {A : List TH} (h : OwnH w B (.slice (some ⟨g, 0, none⟩) n c) A) {j f : Nat} (hj : j < A.length) (hf : f < 10) (u : Int) :
    OwnH (w.setCell ⟨g, j * 10 + f, none⟩ (.int .u64 u)) B (.slice (some ⟨g, 0, none⟩) n c) (A.set j ((A.getD j TH.zero).set f u)) := by
  have hn : n = A.length := h.see.len
  subst hn
  have h1 := (World.ownsRow.stored h (j * 10 + f) (.int .u64 u)).1
  unfold OwnH
  rw [List.length_set, flatH_set A j f u hj hf]
  exact h1
theorem OT.put {g n' c : Nat} (h : OT B p m b n D s K E cs (.slice (some ⟨g, 0, none⟩) n' c) l L r w0 w) (hgE : g ∈ E) {j f : Nat} (hj : j < l.length) (hf : f < 10) (u : Int) :
    OT B p m b n D s K E cs (.slice (some ⟨g, 0, none⟩) n' c) (l.set j ((l.getD j TH.zero).set f u)) L r w0 (w.setCell ⟨g, j * 10 + f, none⟩ (.int .u64 u)) := by
  obtain ⟨hBg, ds, k⟩ := h.row.bq rfl
  have hK : Bq K 38 cs w := h.k
  have hn := h.row.neQ rfl h.pr
  exact ⟨h.k.same (Below.heap_setCell w ⟨g, j * 10 + f, none⟩ _ K (hK.ne k (by decide))), h.row.set hj hf u, h.pr.setX k (by decide) hn.1 hn.2 _ _, h.f.trans (.set (E := E) _ hBg hgE _ _)⟩
/-- A thread more in its own row. -/
theorem OT.grow {e : TH} {v' : Value} {x1 x2 x3 x4 : Value} (h : OT B p m b n D s K E (x1 :: v :: x2 :: x3 :: x4 :: []) v l L r w0 w) (hBK : B ≤ K) (hKE : K ∈ E) (hE : ∀ x, v.ownBlock = some x → x ∈ E) (ho : w'.ownsRow B 52 10 v' (l.length + 1) (flatH l ++ e.cells)) (hg : w.grownBy w' v.ownBlock) (_hb : v'.ownBlock = v.ownBlock ∨ v'.ownBlock = some w.heap.size) :
    w'.cell? ⟨K, 1, none⟩ = some v ∧ w'.frozen? ⟨K, 1, none⟩ = false ∧ OT B p m b n D s K (E ++ v'.ownBlock.toList) (x1 :: v' :: x2 :: x3 :: x4 :: []) v' (l ++ [e]) L r w0 (w'.setCell ⟨K, 1, none⟩ v') := by
  have hs : ∀ z, z < w.heap.size → (∀ cs, ¬ Bq z 52 cs w) → w'.heap[z]? = w.heap[z]? := fun z hz hne => hg.block z hz fun e => by
    obtain ⟨_, cs, k⟩ := h.row.bq (Eq.symm e)
    exact hne cs k
  have hK : Bq K 38 _ w := h.k
  have hK' : Bk K 38 _ w' := h.k.same (hs K h.k.lt fun cs k => absurd (bq_type hK k) (by decide))
  have far : ∀ y, y ≠ K → (w'.setCell ⟨K, 1, none⟩ v').heap[y]? = w'.heap[y]? := fun y hy => Below.heap_setCell w' ⟨K, 1, none⟩ v' y hy
  have hG : OwnH w' B v' (l ++ [e]) := by
    unfold OwnH
    rw [flatH_app, List.length_append, show flatH [e] = e.cells by simp [flatH]]
    exact ho
  have P' := h.pr.keepE hs
  obtain ⟨n1, n2⟩ := hK'.neT P'
  have hBw : B ≤ w.heap.size := Nat.le_trans hBK (Nat.le_of_lt h.k.lt)
  have fg : FxL B p b E w w' := by
    refine ⟨⟨hg.os, hg.tape, hg.output, hg.size, fun k hk => hg.block k (by omega) fun e => by have := (h.row.bq (Eq.symm e)).1; omega⟩, fun x cs t fr hx _ _ _ hE2 => (hg.block x (Array.getElem?_eq_some_iff.1 hx).1 fun e => hE2 (hE x (Eq.symm e))).trans hx⟩
  refine ⟨hK'.cell 1, hK'.free 1, ⟨hK'.set 1 v' rfl, hG.same fun x hx => far x ?_, P'.setX hK' (by decide) n1 n2 1 v', ((h.f.trans fg).trans (.set (E := E) _ hBK hKE 1 v')).more fun x hx => List.mem_append_left _ hx⟩⟩
  obtain ⟨_, cs, k⟩ := hG.bq hx
  exact k.ne (show Bq K _ _ w' from hK') (by decide)
end
end
end Go.Proofs.YtapcgikamldchaaDoor
