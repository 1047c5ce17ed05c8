/-
  The two memories of layer 2 side by side: that they say the same, and that a call on one leaves the other and all boxes of others alone; condition: both lie as they say, the document's behind the program's.
  The calls on both memories of layer 2, side by side: what each answers, makes of its own memory, and leaves alone; condition: both lie as they say, at most 999 words.
-/
import Derived.Test.YtapcgikamldchaaDoorO1
import Derived.Test.YtapcgikamldchaaDoorR3
import Derived.Test.YtapcgikamldchaaDoorK2
import Derived.Test.YtapcgikamldchaaDoorAcc
namespace Go.Proofs.YtapcgikamldchaaDoor
open Go.RowKit Go.Maps

instance : DecidableEq Ad := fun x y => decidable_of_iff (x.same y = true) (Ad.same_iff x y)
def toWd (x : Ad × Int) : Wd := ⟨x.1.k, x.1.a, x.1.f, x.2⟩
theorem is_iff (y x : Ad) (v : Int) : (toWd (y, v)).is x.k x.a x.f = true ↔ y = x := by
  unfold Wd.is toWd
  constructor
  · intro h
    simp at h
    exact Ad.ext ⟨h.1.1, h.1.2, h.2⟩
  · rintro rfl
    simp
/-- What put makes of the list. -/
def putA : List (Ad × Int) → Ad → Int → List (Ad × Int)
  | [], x, v => [(x, v)]
  | y :: r, x, v => if (toWd y).is x.k x.a x.f = true then (y.1, v) :: r else y :: putA r x v
theorem putA_map (L : List (Ad × Int)) (x : Ad) (v : Int) : (putA L x v).map toWd = putL (L.map toWd) x.k x.a x.f v := by
  induction L with
  | nil => rfl
  | cons y r ih =>
    unfold putA
    rw [List.map_cons]
    unfold putL
    by_cases h : (toWd y).is x.k x.a x.f = true
    · rw [if_pos h, if_pos h]; rfl
    · rw [if_neg h, if_neg h, List.map_cons, ih]
theorem putA_len (L : List (Ad × Int)) (x : Ad) (v : Int) : (putA L x v).length ≤ L.length + 1 := by
  induction L with
  | nil => simp [putA]
  | cons y r ih => unfold putA; split <;> simp [ih]
def vals (L : List (Ad × Int)) (x : Ad) : Int := look (L.map toWd) x.k x.a x.f
theorem vals_cons (y : Ad) (c : Int) (r : List (Ad × Int)) (x : Ad) : vals ((y, c) :: r) x = if y = x then c else vals r x := by
  show (if (toWd (y, c)).is x.k x.a x.f = true then (toWd (y, c)).v else look (r.map toWd) x.k x.a x.f) = _
  unfold vals
  by_cases h : y = x
  · rw [if_pos ((is_iff y x c).2 h), if_pos h]; rfl
  · rw [if_neg (fun e => h ((is_iff y x c).1 e)), if_neg h]
theorem vals_put (L : List (Ad × Int)) (x : Ad) (v : Int) (z : Ad) : vals (putA L x v) z = if x = z then v else vals L z := by
  induction L with
  | nil => unfold putA; rw [vals_cons]
  | cons y r ih =>
    obtain ⟨y, c⟩ := y
    unfold putA
    by_cases h : y = x
    · subst h
      rw [if_pos ((is_iff y y c).2 rfl), vals_cons, vals_cons]
      split <;> rfl
    · rw [if_neg (fun e => h ((is_iff y x c).1 e)), vals_cons, vals_cons, ih]
      by_cases e : y = z
      · subst e
        rw [if_pos rfl, if_neg (Ne.symm h), if_pos rfl]
      · rw [if_neg e, if_neg e]
theorem putA_fst (L : List (Ad × Int)) (x : Ad) (v : Int) : ∀ z, z ∈ (putA L x v).map Prod.fst → z = x ∨ z ∈ L.map Prod.fst := by
  induction L with
  | nil => intro z hz; simpa [putA] using hz
  | cons y r ih =>
    intro z hz
    unfold putA at hz
    split at hz
    · rw [List.map_cons] at hz ⊢
      exact .inr hz
    · rw [List.map_cons, List.mem_cons] at hz ⊢
      rcases hz with e | e
      · exact .inr (.inl e)
      · rcases ih z e with e | e
        · exact .inl e
        · exact .inr (.inr e)
theorem putA_nodup (L : List (Ad × Int)) (x : Ad) (v : Int) (h : (L.map Prod.fst).Nodup) : ((putA L x v).map Prod.fst).Nodup := by
  induction L with
  | nil => simp [putA]
  | cons y r ih =>
    obtain ⟨h1, h2⟩ := List.nodup_cons.1 (by rw [List.map_cons] at h; exact h)
    unfold putA
    by_cases e : (toWd y).is x.k x.a x.f = true
    · rw [if_pos e, List.map_cons]
      exact List.nodup_cons.2 ⟨h1, h2⟩
    · rw [if_neg e, List.map_cons]
      refine List.nodup_cons.2 ⟨fun hz => ?_, ih h2⟩
      rcases putA_fst r x v _ hz with e' | e'
      · exact e ((is_iff y.1 x y.2).2 e')
      · exact h1 e'
theorem vals_of_mem (L : List (Ad × Int)) (h : (L.map Prod.fst).Nodup) (x : Ad) (v : Int) (hm : (x, v) ∈ L) : vals L x = v := by
  induction L with
  | nil => cases hm
  | cons y r ih =>
    obtain ⟨y, c⟩ := y
    obtain ⟨h1, h2⟩ := List.nodup_cons.1 (by rw [List.map_cons] at h; exact h)
    rw [vals_cons]
    rcases List.mem_cons.1 hm with e | e
    · cases e
      rw [if_pos rfl]
    · rw [if_neg (fun e' : y = x => h1 (by subst e'; exact List.mem_map.2 ⟨_, e, rfl⟩)), ih h2 e]
theorem mem_of_vals (L : List (Ad × Int)) (x : Ad) (h : vals L x ≠ 0) : (x, vals L x) ∈ L := by
  induction L with
  | nil => exact absurd rfl h
  | cons y r ih =>
    obtain ⟨y, c⟩ := y
    rw [vals_cons] at h ⊢
    by_cases e : y = x
    · subst e
      rw [if_pos rfl]
      simp
    · rw [if_neg e] at h ⊢
      exact List.mem_cons_of_mem _ (ih h)

/-- That both say the same. -/
structure Rel (D : DataW Unit) (L : List (Ad × Int)) : Prop where
  map : IsMap D
  nodup : (L.map Prod.fst).Nodup
  val : ∀ x : Ad, valD D x = vals L x
  has : ∀ x : Ad, has D x.lit = true ↔ valD D x ≠ 0
theorem rel_nil : Rel (.map []) [] := ⟨isMap_empty, by simp, fun _ => rfl, fun _ => by simp [Maps.has, valD, DataW.atKey]⟩
theorem Rel.put {D : DataW Unit} {L : List (Ad × Int)} (h : Rel D L) (x : Ad) (v : Int) : Rel (putD D x v) (putA L x v) := by
  refine ⟨isMap_putD h.map x v, putA_nodup L x v h.nodup, fun z => ?_, fun z => ?_⟩
  · rw [vals_put]
    by_cases e : x = z
    · subst e; rw [if_pos rfl, valD_put_same _ h.map]
    · rw [if_neg e, valD_put_other _ (Ne.symm e), h.val]
  · by_cases e : x = z
    · subst e; rw [has_put_same' _ h.map, valD_put_same _ h.map]; simp
    · rw [has_put_other' _ (Ne.symm e), valD_put_other _ (Ne.symm e), h.has]
theorem Rel.size {D : DataW Unit} {L : List (Ad × Int)} (h : Rel D L) {w : World} {m n : Nat} (hown : w.ownsMap Tryd.prog 42 (plainElem Tryd.prog 34) m n D) : Maps.size D ≤ L.length := by
  have hn : ((L.filter fun y => decide (y.2 ≠ 0)).map Prod.fst).Nodup := h.nodup.sublist (List.Sublist.map _ List.filter_sublist)
  have := own_size hown hn fun x => by
    rw [h.has x, h.val x, List.mem_map]
    constructor
    · rintro ⟨⟨y, v⟩, hy, rfl⟩
      obtain ⟨h1, h2⟩ := List.mem_filter.1 hy
      rw [vals_of_mem L h.nodup y v h1]
      simpa using h2
    · intro hx
      exact ⟨(x, vals L x), List.mem_filter.2 ⟨mem_of_vals L x hx, by simpa using hx⟩, rfl⟩
  rw [← this, List.length_map]
  exact List.length_filter_le _ _
end Go.Proofs.YtapcgikamldchaaDoor
namespace Go.Proofs.YtapcgikamldchaaDoor
open Go.RowKit Go.Maps

/-- Both memories: the program's (struct in p, map in m), the document's (struct in b, its row behind). -/
structure Pr (p m b n : Nat) (D : DataW Unit) (s : Acc8) (L : List (Ad × Int)) (r : Acc8) (W : World) : Prop where
  prog : PM p m n D s.st s.ak s.k s.a s.f s.was s.is s.done W
  ref : ∃ v, R2 b b (L.map toWd) v (rest8 r.st r.ak r.k r.a r.f r.was r.is r.done) W
  mp : m < p
  pb : p < b
/-- What a call on either leaves alone. -/
structure Fr (p m b : Nat) (X Y : World) : Prop where
  low : Below m X Y
  far : ∀ q cs t fr, X.heap[q]? = some (.cells cs t fr) → t ≠ 106 → q ≠ p → q ≠ b → Y.heap[q]? = some (.cells cs t fr)
theorem Fr.trans {p m b : Nat} {X Y Z : World} (h : Fr p m b X Y) (k : Fr p m b Y Z) : Fr p m b X Z := ⟨h.low.trans k.low, fun q cs t fr hq ht h1 h2 => k.far q cs t fr (h.far q cs t fr hq ht h1 h2) ht h1 h2⟩
theorem Fr.of_below {p m b : Nat} {X Y : World} (h : Below X.heap.size X Y) (hm : m ≤ X.heap.size) : Fr p m b X Y := ⟨h.mono hm, fun q _ _ _ hq _ _ _ => (h.block q (Array.getElem?_eq_some_iff.1 hq).1).trans hq⟩
theorem PM.keep {p m n : Nat} {D : DataW Unit} {st ak k a f was is : Int} {done : Bool} {X Y : World} (h : PM p m n D st ak k a f was is done X) (hp : Y.heap[p]? = X.heap[p]?) (hm : Y.heap[m]? = X.heap[m]?) : PM p m n D st ak k a f was is done Y := by
  obtain ⟨h1, es, clock, hb, rest⟩ := h
  exact ⟨hp.trans h1, es, clock, hm.trans hb, rest⟩
theorem PM.map_at {p m n : Nat} {D : DataW Unit} {st ak k a f was is : Int} {done : Bool} {X : World} (h : PM p m n D st ak k a f was is done X) : ∃ es c, X.heap[m]? = some (.map es c) := by
  obtain ⟨_, es, clock, hb, _⟩ := h
  exact ⟨es, clock, hb⟩
theorem R2.keep {B b : Nat} {l : List Wd} {v : Value} {rest : List Value} {X Y : World} (h : R2 B b l v rest X) (hBb : B ≤ b) (hk : ∀ q, B ≤ q → q < X.heap.size → Y.heap[q]? = X.heap[q]?) : R2 B b l v rest Y := by
  refine ⟨(hk b hBb h.size).trans h.blk, ⟨h.own.1, ?_⟩, h.pos⟩
  rcases h.own.2 with hn | ⟨g, cap, cur, hv, hB, hg, r⟩
  · exact .inl hn
  · exact .inr ⟨g, cap, cur, hv, hB, (hk g hB (Array.getElem?_eq_some_iff.1 hg).1).trans hg, r⟩
section
variable {p m b n : Nat} {D : DataW Unit} {s r : Acc8} {L : List (Ad × Int)} {W W' : World}
theorem Pr.lt (h : Pr p m b n D s L r W) : b < W.heap.size := by obtain ⟨v, hr⟩ := h.ref; exact hr.size
theorem Pr.m_le (h : Pr p m b n D s L r W) : m ≤ W.heap.size := by have := h.lt; have := h.mp; have := h.pb; omega
theorem Pr.below (h : Pr p m b n D s L r W) (hb : Below W.heap.size W W') : Pr p m b n D s L r W' := by
  obtain ⟨h1, ⟨v, h2⟩, h3, h4⟩ := h
  exact ⟨h1.below hb, ⟨v, h2.below hb⟩, h3, h4⟩
theorem Pr.only (h : Pr p m b n D s L r W) (ho : Only p m W W') {n' : Nat} {D' : DataW Unit} {s' : Acc8} (hp : PM p m n' D' s'.st s'.ak s'.k s'.a s'.f s'.was s'.is s'.done W') : Pr p m b n' D' s' L r W' ∧ Fr p m b W W' := by
  obtain ⟨es, c, hm⟩ := h.prog.map_at
  obtain ⟨v, hr⟩ := h.ref
  have := h.mp
  have := h.pb
  refine ⟨⟨hp, ⟨v, hr.keep (Nat.le_refl _) fun q hq hl => ho.block q hl (by omega) (by omega)⟩, h.mp, h.pb⟩, ⟨ho.os, ho.tape, ho.output, ho.size, fun q hq => ho.block q (by have := h.m_le; omega) (by omega) (by omega)⟩, fun q cs t fr hq _ h1 _ => (ho.block q (Array.getElem?_eq_some_iff.1 hq).1 h1 fun e => ?_).trans hq⟩
  subst e
  rw [hm] at hq
  cases hq
theorem Pr.sp (h : Pr p m b n D s L r W) {v : Value} {rest : List Value} (hv : R2 b b (L.map toWd) v rest W) (ho : Sp b b v W W') {L' : List (Ad × Int)} {r' : Acc8} (hr : ∃ v', R2 b b (L'.map toWd) v' (rest8 r'.st r'.ak r'.k r'.a r'.f r'.was r'.is r'.done) W') : Pr p m b n D s L' r' W' ∧ Fr p m b W W' := by
  have := h.mp
  have := h.pb
  refine ⟨⟨h.prog.keep (ho.low.block p h.pb) (ho.low.block m (by omega)), hr, h.mp, h.pb⟩, ho.low.mono (by omega), fun q cs t fr hq ht _ h2 => (ho.far q (Array.getElem?_eq_some_iff.1 hq).1 h2 fun e => ?_).trans hq⟩
  rcases hv.own.2 with ⟨hn, _⟩ | ⟨g, cap, cur, hg, _, hb, _⟩
  · subst hn; simp [Value.ownBlock] at e
  · subst hg
    simp only [Value.ownBlock, Option.some.injEq] at e
    subst e
    rw [hb] at hq
    injection hq with hq
    injection hq with _ h3
    exact ht h3.symm

theorem load_p (x : Ad) (h : Pr p m b n D s L r W) (h0 : 0 ≤ s.st) (h1 : s.st < 1000000) :
    Calls Tryd.prog 38 #[.pointer (some ⟨p, 0, none⟩), .agg #[.int .u8 x.k, .int .i64 x.a, .int .i64 x.f]] W fun e W' => e = .returned (.int .u64 (valD D x)) ∧ Pr p m b n D (s.touch 1 x (valD D x) (valD D x) false) L r W' ∧ Fr p m b W W' :=
  (load_prog p m n D s.st s.ak s.k s.a s.f s.was s.is s.done x h0 (by omega) W h.prog).mono fun e W' hh => ⟨hh.1, h.only hh.2.2 (s' := s.touch 1 x (valD D x) (valD D x) false) hh.2.1⟩
theorem load_r (x : Ad) (h : Pr p m b n D s L r W) (hL : L.length ≤ 999) (h0 : 0 ≤ r.st) (h1 : r.st < 1000000) :
    Calls Tryd.prog 30 #[.pointer (some ⟨b, 0, none⟩), .agg #[.int .u8 x.k, .int .i64 x.a, .int .i64 x.f]] W fun e W' => e = .returned (.int .u64 (vals L x)) ∧ Pr p m b n D s L (r.touch 1 x (vals L x) (vals L x) false) W' ∧ Fr p m b W W' := by
  obtain ⟨v, hr⟩ := h.ref
  refine (load_any b b (L.map toWd) v r.st r.ak r.k r.a r.f r.was r.is r.done x.k x.a x.f W hr (by simp; omega) (Nat.le_refl _) (Nat.le_of_lt h.lt) h0 (by omega)).mono fun e W' hh => ⟨hh.1, ?_⟩
  exact h.sp hr hh.2.2 (r' := r.touch 1 x (vals L x) (vals L x) false) ⟨v, hh.2.1⟩
theorem store_p (x : Ad) (v : Int) (hv : (Lit.int .u64 v).wf = true) (h : Pr p m b n D s L r W) (hl : LayM W) (h0 : 0 ≤ s.st) (h1 : s.st < 1000000) (hn : n < 1000000) :
    Calls Tryd.prog 25 #[.pointer (some ⟨p, 0, none⟩), .agg #[.int .u8 x.k, .int .i64 x.a, .int .i64 x.f], .int .u64 v] W fun e W' => e = .returned (.tuple #[]) ∧ Pr p m b (n + 1) (storeD D x v) (s.touch 2 x (valD D x) (valD (storeD D x v) x) false) L r W' ∧ Fr p m b W W' :=
  (store_prog p m n D s.st s.ak s.k s.a s.f s.was s.is s.done x v hv h0 (by omega) (by omega) W hl h.prog).mono fun e W' hh => ⟨hh.1, h.only hh.2.2 (s' := s.touch 2 x (valD D x) (valD (storeD D x v) x) false) hh.2.1⟩
def storeA (L : List (Ad × Int)) (x : Ad) (v : Int) : List (Ad × Int) := if mayB x.k x.a x.f = true then putA L x v else L
theorem storeA_map (L : List (Ad × Int)) (x : Ad) (v : Int) : putM (L.map toWd) x.k x.a x.f v = (storeA L x v).map toWd := by
  unfold putM storeA
  split
  · rw [putA_map]
  · rfl
theorem storeA_len (L : List (Ad × Int)) (x : Ad) (v : Int) : (storeA L x v).length ≤ L.length + 1 := by
  unfold storeA
  split
  · exact putA_len L x v
  · omega
theorem Rel.store {D : DataW Unit} {L : List (Ad × Int)} (h : Rel D L) (x : Ad) (v : Int) : Rel (storeD D x v) (storeA L x v) := by
  unfold storeD storeA
  split
  · exact h.put x v
  · exact h
theorem store_r (x : Ad) (v : Int) (h : Pr p m b n D s L r W) (hL : L.length ≤ 999) (h0 : 0 ≤ r.st) (h1 : r.st < 1000000) :
    Calls Tryd.prog 28 #[.pointer (some ⟨b, 0, none⟩), .agg #[.int .u8 x.k, .int .i64 x.a, .int .i64 x.f], .int .u64 v] W fun e W' => e = .returned (.tuple #[]) ∧ Pr p m b n D s (storeA L x v) (r.touch 2 x (vals L x) (vals (storeA L x v) x) false) W' ∧ Fr p m b W W' := by
  obtain ⟨u, hr⟩ := h.ref
  refine (store_any b b (L.map toWd) u r.st r.ak r.k r.a r.f r.was r.is r.done x.k x.a x.f v W hr (by simp; omega) (Nat.le_refl _) (Nat.le_of_lt h.lt) h0 (by omega)).mono fun e W' hh => ⟨hh.1, ?_⟩
  obtain ⟨_, ⟨v', h2⟩, h3⟩ := hh
  rw [storeA_map] at h2
  exact h.sp hr h3 (r' := r.touch 2 x (vals L x) (vals (storeA L x v) x) false) ⟨v', h2⟩
def casA (L : List (Ad × Int)) (x : Ad) (u : Int) : Bool := mayB x.k x.a x.f && decide (vals L x = u)
def casL (L : List (Ad × Int)) (x : Ad) (u v : Int) : List (Ad × Int) := if casA L x u = true then putA L x v else L
theorem casL_len (L : List (Ad × Int)) (x : Ad) (u v : Int) : (casL L x u v).length ≤ L.length + 1 := by
  unfold casL
  split
  · exact putA_len L x v
  · omega
theorem Rel.casB {D : DataW Unit} {L : List (Ad × Int)} (h : Rel D L) (x : Ad) (u : Int) : casB D x u = casA L x u := by
  unfold YtapcgikamldchaaDoor.casB casA
  rw [h.val]
theorem Rel.cas {D : DataW Unit} {L : List (Ad × Int)} (h : Rel D L) (x : Ad) (u v : Int) : Rel (casD D x u v) (casL L x u v) := by
  unfold casD casL
  rw [h.casB]
  split
  · exact h.put x v
  · exact h
end
end Go.Proofs.YtapcgikamldchaaDoor
