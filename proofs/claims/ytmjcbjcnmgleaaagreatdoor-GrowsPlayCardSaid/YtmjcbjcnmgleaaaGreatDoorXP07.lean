/-
  The two memories of layer 2 side by side; The calls on both memories of layer 2, side by side; The law's pair of memories; conditions as each theorem says.
-/
import Derived.Test.YtmjcbjcnmgleaaaGreatDoorXP04
import Derived.Test.YtmjcbjcnmgleaaaGreatDoorXP06
import Derived.Test.YtmjcbjcnmgleaaaGreatDoorXP03
import Derived.Deep.RegionHeld3
namespace Go.Proofs.YtmjcbjcnmgleaaaGreatDoor
open Go.RowKit Go.Maps
instance : DecidableEq Ad := fun x y => decidable_of_iff (x.same y = true) (Ad.same_iff x y)
def toWd (x : Ad × Int) : Wd := ⟨x.1.k, x.1.a, x.1.f, x.2⟩
theorem is_iff (y x : Ad) (v : Int) : (toWd (y, v)).is x.k x.a x.f = true ↔ y = x := by
  unfold Wd.is toWd
  constructor
  · intro h
    simp at h
    exact Ad.ext ⟨h.1.1, h.1.2, h.2⟩
  · rintro rfl
    simp
def putA : List (Ad × Int) → Ad → Int → List (Ad × Int)
  | [], x, v => [(x, v)]
  | y :: r, x, v => if (toWd y).is x.k x.a x.f = true then (y.1, v) :: r else y :: putA r x v
theorem putA_map (L : List (Ad × Int)) (x : Ad) (v : Int) : (putA L x v).map toWd = putL (L.map toWd) x.k x.a x.f v := by
  induction L with
  | nil => rfl
  | cons y r ih =>
    unfold putA
    rw [List.map_cons]
    unfold putL
    by_cases h : (toWd y).is x.k x.a x.f = true
    · rw [if_pos h, if_pos h]; rfl
    · rw [if_neg h, if_neg h, List.map_cons, ih]
theorem putA_len (L : List (Ad × Int)) (x : Ad) (v : Int) : (putA L x v).length ≤ L.length + 1 := by
  induction L with
  | nil => simp [putA]
  | cons y r ih => unfold putA; split <;> simp [ih]
def vals (L : List (Ad × Int)) (x : Ad) : Int := look (L.map toWd) x.k x.a x.f
theorem vals_cons (y : Ad) (c : Int) (r : List (Ad × Int)) (x : Ad) : vals ((y, c) :: r) x = if y = x then c else vals r x := by
  show (if (toWd (y, c)).is x.k x.a x.f = true then (toWd (y, c)).v else look (r.map toWd) x.k x.a x.f) = _
  unfold vals
  by_cases h : y = x
  · rw [if_pos ((is_iff y x c).2 h), if_pos h]; rfl
  · rw [if_neg (fun e => h ((is_iff y x c).1 e)), if_neg h]
theorem vals_put (L : List (Ad × Int)) (x : Ad) (v : Int) (z : Ad) : vals (putA L x v) z = if x = z then v else vals L z := by
  induction L with
  | nil => unfold putA; rw [vals_cons]
  | cons y r ih =>
    obtain ⟨y, c⟩ := y
    unfold putA
    by_cases h : y = x
    · subst h
      rw [if_pos ((is_iff y y c).2 rfl), vals_cons, vals_cons]
      split <;> rfl
    · rw [if_neg (fun e => h ((is_iff y x c).1 e)), vals_cons, vals_cons, ih]
      by_cases e : y = z
      · subst e
        rw [if_pos rfl, if_neg (Ne.symm h), if_pos rfl]
      · rw [if_neg e, if_neg e]
theorem putA_fst (L : List (Ad × Int)) (x : Ad) (v : Int) : ∀ z, z ∈ (putA L x v).map Prod.fst → z = x ∨ z ∈ L.map Prod.fst := by
  induction L with
  | nil => intro z hz; simpa [putA] using hz
  | cons y r ih =>
    intro z hz
    unfold putA at hz
    split at hz
    · rw [List.map_cons] at hz ⊢
      exact .inr hz
    · rw [List.map_cons, List.mem_cons] at hz ⊢
      rcases hz with e | e
      · exact .inr (.inl e)
      · rcases ih z e with e | e
        · exact .inl e
        · exact .inr (.inr e)
theorem putA_nodup (L : List (Ad × Int)) (x : Ad) (v : Int) (h : (L.map Prod.fst).Nodup) : ((putA L x v).map Prod.fst).Nodup := by
  induction L with
  | nil => simp [putA]
  | cons y r ih =>
    obtain ⟨h1, h2⟩ := List.nodup_cons.1 (by rw [List.map_cons] at h; exact h)
    unfold putA
    by_cases e : (toWd y).is x.k x.a x.f = true
    · rw [if_pos e, List.map_cons]
      exact List.nodup_cons.2 ⟨h1, h2⟩
    · rw [if_neg e, List.map_cons]
      refine List.nodup_cons.2 ⟨fun hz => ?_, ih h2⟩
      rcases putA_fst r x v _ hz with e' | e'
      · exact e ((is_iff y.1 x y.2).2 e')
      · exact h1 e'
theorem vals_of_mem (L : List (Ad × Int)) (h : (L.map Prod.fst).Nodup) (x : Ad) (v : Int) (hm : (x, v) ∈ L) : vals L x = v := by
  induction L with
  | nil => cases hm
  | cons y r ih =>
    obtain ⟨y, c⟩ := y
    obtain ⟨h1, h2⟩ := List.nodup_cons.1 (by rw [List.map_cons] at h; exact h)
    rw [vals_cons]
    rcases List.mem_cons.1 hm with e | e
    · cases e
      rw [if_pos rfl]
    · rw [if_neg (fun e' : y = x => h1 (by subst e'; exact List.mem_map.2 ⟨_, e, rfl⟩)), ih h2 e]
theorem mem_of_vals (L : List (Ad × Int)) (x : Ad) (h : vals L x ≠ 0) : (x, vals L x) ∈ L := by
  induction L with
  | nil => exact absurd rfl h
  | cons y r ih =>
    obtain ⟨y, c⟩ := y
    rw [vals_cons] at h ⊢
    by_cases e : y = x
    · subst e
      rw [if_pos rfl]
      simp
    · rw [if_neg e] at h ⊢
      exact List.mem_cons_of_mem _ (ih h)
structure Rel (D : DataW Unit) (L : List (Ad × Int)) : Prop where
  map : IsMap D
  nodup : (L.map Prod.fst).Nodup
  val : ∀ x : Ad, valD D x = vals L x
  has : ∀ x : Ad, has D x.lit = true ↔ valD D x ≠ 0
theorem rel_nil : Rel (.map []) [] := ⟨isMap_empty, by simp, fun _ => rfl, fun _ => by simp [Maps.has, valD, DataW.atKey]⟩
theorem Rel.put {D : DataW Unit} {L : List (Ad × Int)} (h : Rel D L) (x : Ad) (v : Int) : Rel (putD D x v) (putA L x v) := by
  refine ⟨isMap_putD h.map x v, putA_nodup L x v h.nodup, fun z => ?_, fun z => ?_⟩
  · rw [vals_put]
    by_cases e : x = z
    · subst e; rw [if_pos rfl, valD_put_same _ h.map]
    · rw [if_neg e, valD_put_other _ (Ne.symm e), h.val]
  · by_cases e : x = z
    · subst e; rw [has_put_same' _ h.map, valD_put_same _ h.map]; simp
    · rw [has_put_other' _ (Ne.symm e), valD_put_other _ (Ne.symm e), h.has]
theorem Rel.size {D : DataW Unit} {L : List (Ad × Int)} (h : Rel D L) {w : World} {m n : Nat} (hown : w.ownsMap Tryz.prog 33 (plainElem Tryz.prog 34) m n D) : Maps.size D ≤ L.length := by
  have hn : ((L.filter fun y => decide (y.2 ≠ 0)).map Prod.fst).Nodup := h.nodup.sublist (List.Sublist.map _ List.filter_sublist)
  have := own_size hown hn fun x => by
    rw [h.has x, h.val x, List.mem_map]
    constructor
    · rintro ⟨⟨y, v⟩, hy, rfl⟩
      obtain ⟨h1, h2⟩ := List.mem_filter.1 hy
      rw [vals_of_mem L h.nodup y v h1]
      simpa using h2
    · intro hx
      exact ⟨(x, vals L x), List.mem_filter.2 ⟨mem_of_vals L x hx, by simpa using hx⟩, rfl⟩
  rw [← this, List.length_map]
  exact List.length_filter_le _ _
end Go.Proofs.YtmjcbjcnmgleaaaGreatDoor
namespace Go.Proofs.YtmjcbjcnmgleaaaGreatDoor
open Go.RowKit Go.Maps
structure Pr (p m b n : Nat) (D : DataW Unit) (s : Acc8) (L : List (Ad × Int)) (r : Acc8) (W : World) : Prop where
  prog : PM p m n D s.st s.ak s.k s.a s.f s.was s.is s.done W
  ref : ∃ v, R2 b b (L.map toWd) v (rest8 r.st r.ak r.k r.a r.f r.was r.is r.done) W
  mp : m < p
  pb : p < b
structure Fr (p m b : Nat) (X Y : World) : Prop where
  low : Below m X Y
  far : ∀ q cs t fr, X.heap[q]? = some (.cells cs t fr) → t ≠ 118 → q ≠ p → q ≠ b → Y.heap[q]? = some (.cells cs t fr)
theorem Fr.trans {p m b : Nat} {X Y Z : World} (h : Fr p m b X Y) (k : Fr p m b Y Z) : Fr p m b X Z := ⟨h.low.trans k.low, fun q cs t fr hq ht h1 h2 => k.far q cs t fr (h.far q cs t fr hq ht h1 h2) ht h1 h2⟩
theorem Fr.of_below {p m b : Nat} {X Y : World} (h : Below X.heap.size X Y) (hm : m ≤ X.heap.size) : Fr p m b X Y := ⟨h.mono hm, fun q _ _ _ hq _ _ _ => (h.block q (Array.getElem?_eq_some_iff.1 hq).1).trans hq⟩
theorem PM.keep {p m n : Nat} {D : DataW Unit} {st ak k a f was is : Int} {done : Bool} {X Y : World} (h : PM p m n D st ak k a f was is done X) (hp : Y.heap[p]? = X.heap[p]?) (hm : Y.heap[m]? = X.heap[m]?) : PM p m n D st ak k a f was is done Y := by
  obtain ⟨h1, es, clock, hb, rest⟩ := h
  exact ⟨hp.trans h1, es, clock, hm.trans hb, rest⟩
theorem PM.map_at {p m n : Nat} {D : DataW Unit} {st ak k a f was is : Int} {done : Bool} {X : World} (h : PM p m n D st ak k a f was is done X) : ∃ es c, X.heap[m]? = some (.map es c) := by
  obtain ⟨_, es, clock, hb, _⟩ := h
  exact ⟨es, clock, hb⟩
theorem R2.keep {B b : Nat} {l : List Wd} {v : Value} {rest : List Value} {X Y : World} (h : R2 B b l v rest X) (hBb : B ≤ b) (hk : ∀ q, B ≤ q → q < X.heap.size → Y.heap[q]? = X.heap[q]?) : R2 B b l v rest Y := by
  refine ⟨(hk b hBb h.size).trans h.blk, ⟨h.own.1, ?_⟩, h.pos⟩
  rcases h.own.2 with hn | ⟨g, cap, cur, hv, hB, hg, r⟩
  · exact .inl hn
  · exact .inr ⟨g, cap, cur, hv, hB, (hk g hB (Array.getElem?_eq_some_iff.1 hg).1).trans hg, r⟩
section
variable {p m b n : Nat} {D : DataW Unit} {s r : Acc8} {L : List (Ad × Int)} {W W' : World}
theorem Pr.lt (h : Pr p m b n D s L r W) : b < W.heap.size := by obtain ⟨v, hr⟩ := h.ref; exact hr.size
theorem Pr.m_le (h : Pr p m b n D s L r W) : m ≤ W.heap.size := by have := h.lt; have := h.mp; have := h.pb; omega
theorem Pr.below (h : Pr p m b n D s L r W) (hb : Below W.heap.size W W') : Pr p m b n D s L r W' := by
  obtain ⟨h1, ⟨v, h2⟩, h3, h4⟩ := h
  exact ⟨h1.below hb, ⟨v, h2.below hb⟩, h3, h4⟩
theorem Pr.only (h : Pr p m b n D s L r W) (ho : Only p m W W') {n' : Nat} {D' : DataW Unit} {s' : Acc8} (hp : PM p m n' D' s'.st s'.ak s'.k s'.a s'.f s'.was s'.is s'.done W') : Pr p m b n' D' s' L r W' ∧ Fr p m b W W' := by
  obtain ⟨es, c, hm⟩ := h.prog.map_at
  obtain ⟨v, hr⟩ := h.ref
  have := h.mp
  have := h.pb
  refine ⟨⟨hp, ⟨v, hr.keep (Nat.le_refl _) fun q hq hl => ho.block q hl (by omega) (by omega)⟩, h.mp, h.pb⟩, ⟨ho.os, ho.tape, ho.output, ho.size, fun q hq => ho.block q (by have := h.m_le; omega) (by omega) (by omega)⟩, fun q cs t fr hq _ h1 _ => (ho.block q (Array.getElem?_eq_some_iff.1 hq).1 h1 fun e => ?_).trans hq⟩
  subst e
  rw [hm] at hq
  cases hq
theorem Pr.sp (h : Pr p m b n D s L r W) {v : Value} {rest : List Value} (hv : R2 b b (L.map toWd) v rest W) (ho : Sp b b v W W') {L' : List (Ad × Int)} {r' : Acc8} (hr : ∃ v', R2 b b (L'.map toWd) v' (rest8 r'.st r'.ak r'.k r'.a r'.f r'.was r'.is r'.done) W') : Pr p m b n D s L' r' W' ∧ Fr p m b W W' := by
  have := h.mp
  have := h.pb
  refine ⟨⟨h.prog.keep (ho.low.block p h.pb) (ho.low.block m (by omega)), hr, h.mp, h.pb⟩, ho.low.mono (by omega), fun q cs t fr hq ht _ h2 => (ho.far q (Array.getElem?_eq_some_iff.1 hq).1 h2 fun e => ?_).trans hq⟩
  rcases hv.own.2 with ⟨hn, _⟩ | ⟨g, cap, cur, hg, _, hb, _⟩
  · subst hn; simp [Value.ownBlock] at e
  · subst hg
    simp only [Value.ownBlock, Option.some.injEq] at e
    subst e
    rw [hb] at hq
    injection hq with hq
    injection hq with _ h3
    exact ht h3.symm
theorem load_r (x : Ad) (h : Pr p m b n D s L r W) (hL : L.length ≤ 4999) (h0 : 0 ≤ r.st) (h1 : r.st < 1000000) :
    Calls Tryz.prog 67 #[.pointer (some ⟨b, 0, none⟩), .agg #[.int .u8 x.k, .int .i64 x.a, .int .i64 x.f]] W fun e W' => e = .returned (.int .u64 (vals L x)) ∧ Pr p m b n D s L (r.touch 1 x (vals L x) (vals L x) false) W' ∧ Fr p m b W W' := by
  obtain ⟨v, hr⟩ := h.ref
  refine (load_any b b (L.map toWd) v r.st r.ak r.k r.a r.f r.was r.is r.done x.k x.a x.f W hr (by simp; omega) (Nat.le_refl _) (Nat.le_of_lt h.lt) h0 (by omega)).mono fun e W' hh => ⟨hh.1, ?_⟩
  exact h.sp hr hh.2.2 (r' := r.touch 1 x (vals L x) (vals L x) false) ⟨v, hh.2.1⟩
theorem store_p (x : Ad) (v : Int) (hv : (Lit.int .u64 v).wf = true) (h : Pr p m b n D s L r W) (hl : LayM W) (h0 : 0 ≤ s.st) (h1 : s.st < 1000000) (hn : n < 1000000) :
    Calls Tryz.prog 32 #[.pointer (some ⟨p, 0, none⟩), .agg #[.int .u8 x.k, .int .i64 x.a, .int .i64 x.f], .int .u64 v] W fun e W' => e = .returned (.tuple #[]) ∧ Pr p m b (n + 1) (storeD D x v) (s.touch 2 x (valD D x) (valD (storeD D x v) x) false) L r W' ∧ Fr p m b W W' :=
  (store_prog p m n D s.st s.ak s.k s.a s.f s.was s.is s.done x v hv h0 (by omega) (by omega) W hl h.prog).mono fun e W' hh => ⟨hh.1, h.only hh.2.2 (s' := s.touch 2 x (valD D x) (valD (storeD D x v) x) false) hh.2.1⟩
def storeA (L : List (Ad × Int)) (x : Ad) (v : Int) : List (Ad × Int) := if mayB x.k x.a x.f = true then putA L x v else L
theorem storeA_map (L : List (Ad × Int)) (x : Ad) (v : Int) : putM (L.map toWd) x.k x.a x.f v = (storeA L x v).map toWd := by
  unfold putM storeA
  split
  · rw [putA_map]
  · rfl
theorem storeA_len (L : List (Ad × Int)) (x : Ad) (v : Int) : (storeA L x v).length ≤ L.length + 1 := by
  unfold storeA
  split
  · exact putA_len L x v
  · omega
theorem Rel.store {D : DataW Unit} {L : List (Ad × Int)} (h : Rel D L) (x : Ad) (v : Int) : Rel (storeD D x v) (storeA L x v) := by
  unfold storeD storeA
  split
  · exact h.put x v
  · exact h
theorem store_r (x : Ad) (v : Int) (h : Pr p m b n D s L r W) (hL : L.length ≤ 4999) (h0 : 0 ≤ r.st) (h1 : r.st < 1000000) :
    Calls Tryz.prog 33 #[.pointer (some ⟨b, 0, none⟩), .agg #[.int .u8 x.k, .int .i64 x.a, .int .i64 x.f], .int .u64 v] W fun e W' => e = .returned (.tuple #[]) ∧ Pr p m b n D s (storeA L x v) (r.touch 2 x (vals L x) (vals (storeA L x v) x) false) W' ∧ Fr p m b W W' := by
  obtain ⟨u, hr⟩ := h.ref
  refine (store_any b b (L.map toWd) u r.st r.ak r.k r.a r.f r.was r.is r.done x.k x.a x.f v W hr (by simp; omega) (Nat.le_refl _) (Nat.le_of_lt h.lt) h0 (by omega)).mono fun e W' hh => ⟨hh.1, ?_⟩
  obtain ⟨_, ⟨v', h2⟩, h3⟩ := hh
  rw [storeA_map] at h2
  exact h.sp hr h3 (r' := r.touch 2 x (vals L x) (vals (storeA L x v) x) false) ⟨v', h2⟩
def casA (L : List (Ad × Int)) (x : Ad) (u : Int) : Bool := mayB x.k x.a x.f && decide (vals L x = u)
def casL (L : List (Ad × Int)) (x : Ad) (u v : Int) : List (Ad × Int) := if casA L x u = true then putA L x v else L
theorem casL_len (L : List (Ad × Int)) (x : Ad) (u v : Int) : (casL L x u v).length ≤ L.length + 1 := by
  unfold casL
  split
  · exact putA_len L x v
  · omega
theorem cas_r (x : Ad) (u v : Int) (h : Pr p m b n D s L r W) (hL : L.length ≤ 4999) (h0 : 0 ≤ r.st) (h1 : r.st < 1000000) :
    Calls Tryz.prog 70 #[.pointer (some ⟨b, 0, none⟩), .agg #[.int .u8 x.k, .int .i64 x.a, .int .i64 x.f], .int .u64 u, .int .u64 v] W fun e W' => e = .returned (.bool (casA L x u)) ∧ Pr p m b n D s (casL L x u v) (r.touch 3 x (vals L x) (vals (casL L x u v) x) (casA L x u)) W' ∧ Fr p m b W W' := by
  obtain ⟨o, hr⟩ := h.ref
  by_cases hy : vals L x = u
  · by_cases hm : mayB x.k x.a x.f = true
    · have e1 : casA L x u = true := by unfold casA; rw [hm]; simp [hy]
      have e2 : casL L x u v = putA L x v := if_pos e1
      rw [e1, e2]
      refine (cas_done b b (L.map toWd) o r.st r.ak r.k r.a r.f r.was r.is r.done x.k x.a x.f u v W hr (by simp; omega) (Nat.le_refl _) (Nat.le_of_lt h.lt) h0 (by omega) (by simpa [vals] using hy) hm).mono fun e W' hh => ⟨hh.1, ?_⟩
      obtain ⟨_, ⟨v', h2⟩, h3⟩ := hh
      rw [storeA_map, show storeA L x v = putA L x v from if_pos hm] at h2
      exact h.sp hr h3 (r' := r.touch 3 x (vals L x) (vals (putA L x v) x) true) ⟨v', h2⟩
    · have hm' : mayB x.k x.a x.f = false := by simpa using hm
      have e1 : casA L x u = false := by unfold casA; rw [hm']; rfl
      have e2 : casL L x u v = L := if_neg (by rw [e1]; simp)
      rw [e1, e2]
      refine (cas_bars b b (L.map toWd) o r.st r.ak r.k r.a r.f r.was r.is r.done x.k x.a x.f u v W hr (by simp; omega) (Nat.le_refl _) (Nat.le_of_lt h.lt) h0 (by omega) (by simpa [vals] using hy) hm').mono fun e W' hh => ⟨hh.1, ?_⟩
      obtain ⟨_, h2, h3⟩ := hh
      exact h.sp hr h3 (r' := r.touch 3 x (vals L x) (vals L x) false) h2
  · have e1 : casA L x u = false := by unfold casA; simp [hy]
    have e2 : casL L x u v = L := if_neg (by rw [e1]; simp)
    rw [e1, e2]
    refine (cas_other b b (L.map toWd) o r.st r.ak r.k r.a r.f r.was r.is r.done x.k x.a x.f u v W hr (by simp; omega) (Nat.le_refl _) (Nat.le_of_lt h.lt) h0 (by omega) (by simpa [vals] using hy)).mono fun e W' hh => ⟨hh.1, ?_⟩
    obtain ⟨_, h2, h3⟩ := hh
    exact h.sp hr h3 (r' := r.touch 3 x (vals L x) (vals L x) false) h2
end
end Go.Proofs.YtmjcbjcnmgleaaaGreatDoor
namespace Go.Proofs.YtmjcbjcnmgleaaaGreatDoor
open Go.RowKit Go.Maps
theorem Fr.lay {p m b : Nat} {X Y : World} (h : Fr p m b X Y) (hm : 0 < m) (hl : LayM X) : LayM Y := hl.same h.low.size (h.low.block 0 hm)
theorem Fr.cell {p m b : Nat} {X Y : World} (h : Fr p m b X Y) {q : Nat} {cs : Array Value} {t : TypeId} (hq : X.heap[q]? = some (.cells cs t (0, 0))) (ht : t ≠ 118) (h1 : q ≠ p) (h2 : q ≠ b) : Y.heap[q]? = some (.cells cs t (0, 0)) := h.far q cs t (0, 0) hq ht h1 h2
set_option maxRecDepth 100000 in
theorem eq_acc (s : Acc8) (w : World) : (binOp .eql 101 (.agg #[.int .u8 s.ak, .int .u8 s.k, .int .i64 s.a, .int .i64 s.f, .int .u64 s.was, .int .u64 s.is, .bool s.done]) (.agg #[.int .u8 s.ak, .int .u8 s.k, .int .i64 s.a, .int .i64 s.f, .int .u64 s.was, .int .u64 s.is, .bool s.done])).run Tryz.prog w = .ok (.bool true) w := by
  have hS : Tryz.prog.underlying 101 = some (.struct (Tryz.prog.fieldsOf 101)) := by kernel_rfl
  have hp : Tryz.prog.stoodInHeld 101 = false := by kernel_rfl
  have hS1 : Tryz.prog.underlying 33 = some (.struct (Tryz.prog.fieldsOf 33)) := by kernel_rfl
  have hp1 : Tryz.prog.stoodInHeld 33 = false := by kernel_rfl
  have e31 : ∀ w, (Op.equalIn 9999 33 (.agg #[.int .u8 s.k, .int .i64 s.a, .int .i64 s.f]) (.agg #[.int .u8 s.k, .int .i64 s.a, .int .i64 s.f])).run Tryz.prog w = .ok true w := fun w => by
    rw [show (9999 : Nat) = 9998 + 1 from rfl, run_equalIn_agg w 9998 33 _ _ hS1 hp1]
    simp only [Program.fieldsOf, Tryz.underlying33]
    go_simp
  rw [run_eql_struct, show (10000 : Nat) = 9999 + 1 from rfl, run_equalIn_agg w 9999 101 _ _ hS hp]
  clear hS1 hp1
  simp only [Program.fieldsOf, Tryz.underlying101]
  go_simp
section
variable {p m b n : Nat} {D : DataW Unit} {s r : Acc8} {L : List (Ad × Int)} {W : World}
set_option maxRecDepth 100000 in
set_option maxHeartbeats 2000000 in
theorem pair_store (x : Ad) (v : Int) (hv : (Lit.int .u64 v).wf = true) (h : Pr p m b n D s L r W) (hl : LayM W) (h0 : 0 ≤ s.st) (h1 : s.st < 1000000) (hn : n < 1000000) (hL : L.length ≤ 4999) (h2 : 0 ≤ r.st) (h3 : r.st < 1000000) :
    Calls Tryz.prog 13 #[.agg #[.pointer (some ⟨p, 0, none⟩), .pointer (some ⟨b, 0, none⟩)], .agg #[.int .u8 x.k, .int .i64 x.a, .int .i64 x.f, .int .u64 v]] W fun e W' =>
      e = .returned (.tuple #[]) ∧ Pr p m b (n + 1) (storeD D x v) (s.touch 2 x (valD D x) (valD (storeD D x v) x) false) (storeA L x v) (r.touch 2 x (vals L x) (vals (storeA L x v) x) false) W' ∧ Fr p m b W W' := by
  have hB : Below W.heap.size W ((W.alloc (.cells #[.pointer (some ⟨p, 0, none⟩), .pointer (some ⟨b, 0, none⟩)] 28)).alloc (.cells #[.int .u8 x.k, .int .i64 x.a, .int .i64 x.f, .int .u64 v] 36)) := ((Below.refl _ _).alloc (Nat.le_refl _) _).alloc (by simp) _
  have HP := Lib.hid (h.below hB)
  have HL := Lib.hid (hl.below hB)
  have HF := Lib.hid (Fr.of_below (p := p) (b := b) hB h.m_le)
  have HV := Lib.hid hv
  have hlt := h.lt
  have hpb := h.pb
  have k0 : ((W.alloc (.cells #[.pointer (some ⟨p, 0, none⟩), .pointer (some ⟨b, 0, none⟩)] 28)).alloc (.cells #[.int .u8 x.k, .int .i64 x.a, .int .i64 x.f, .int .u64 v] 36)).heap[W.heap.size]? = some (.cells #[.pointer (some ⟨p, 0, none⟩), .pointer (some ⟨b, 0, none⟩)] 28 (0, 0)) :=
    (Below.heap_alloc _ _ _ (by simp)).trans (World.alloc_heap_new _ _)
  have k1 : ((W.alloc (.cells #[.pointer (some ⟨p, 0, none⟩), .pointer (some ⟨b, 0, none⟩)] 28)).alloc (.cells #[.int .u8 x.k, .int .i64 x.a, .int .i64 x.f, .int .u64 v] 36)).heap[W.heap.size + 1]? = some (.cells #[.int .u8 x.k, .int .i64 x.a, .int .i64 x.f, .int .u64 v] 36 (0, 0)) := by
    have := World.alloc_heap_new (W.alloc (.cells #[.pointer (some ⟨p, 0, none⟩), .pointer (some ⟨b, 0, none⟩)] 28)) (.cells #[.int .u8 x.k, .int .i64 x.a, .int .i64 x.f, .int .u64 v] 36)
    simpa using this
  have HK0 := Lib.hid k0
  have HK1 := Lib.hid k1
  have c0 := Joins.cell_of_block k0 0
  have c1 := Joins.cell_of_block k0 1
  have d0 := Joins.cell_of_block k1 0
  have d1 := Joins.cell_of_block k1 1
  have d2 := Joins.cell_of_block k1 2
  have d3 := Joins.cell_of_block k1 3
  simp only [List.getElem?_toArray, List.getElem?_cons_zero, List.getElem?_cons_succ] at c0 c1 d0 d1 d2 d3
  clear h hl hv hB k0 k1
  go_enter Tryz.func13, Tryz.ntmps13
  go_wp2_with fail
  revert HP HL HF HK0 HK1 c0 c1 d0 d1 d2 d3
  generalize (W.alloc (.cells #[.pointer (some ⟨p, 0, none⟩), .pointer (some ⟨b, 0, none⟩)] 28)).alloc (.cells #[.int .u8 x.k, .int .i64 x.a, .int .i64 x.f, .int .u64 v] 36) = W1
  intro HP HL HF HK0 HK1 c0 c1 d0 d1 d2 d3
  ((with_reducible refine (store_p x v HV.out HP.out HL.out h0 h1 hn).mono ?_); rintro e W2 ⟨rfl, hp, hf⟩)
  have HP2 := Lib.hid hp
  have HF2 := Lib.hid (HF.out.trans hf)
  have g1 := hf.cell HK0.out (by decide) (by omega) (by omega)
  have g2 := hf.cell HK1.out (by decide) (by omega) (by omega)
  have e1 := Joins.cell_of_block g1 1
  have f0 := Joins.cell_of_block g2 0
  have f1 := Joins.cell_of_block g2 1
  have f2 := Joins.cell_of_block g2 2
  have f3 := Joins.cell_of_block g2 3
  simp only [List.getElem?_toArray, List.getElem?_cons_zero, List.getElem?_cons_succ] at e1 f0 f1 f2 f3
  clear hp hf g1 g2 HP HL HF HK0 HK1 c0 c1 d0 d1 d2 d3
  go_wp2_with fail
  ((with_reducible refine (store_r x v HP2.out hL h2 h3).mono ?_); rintro e W3 ⟨rfl, hp, hf⟩)
  have HP3 := Lib.hid hp
  have HF3 := Lib.hid (HF2.out.trans hf)
  clear hp hf
  go_wp2_with fail
  go_end0
  exact ⟨rfl, HP3.out, HF3.out⟩
theorem last_p (h : Pr p m b n D s L r W) : Calls Tryz.prog 41 #[.pointer (some ⟨p, 0, none⟩)] W fun e W' => e = .returned (.agg #[.int .u8 s.ak, .int .u8 s.k, .int .i64 s.a, .int .i64 s.f, .int .u64 s.was, .int .u64 s.is, .bool s.done]) ∧ Below W.heap.size W W' :=
  last_prog p m n D s.st s.ak s.k s.a s.f s.was s.is s.done W h.prog
theorem steps_p (h : Pr p m b n D s L r W) : Calls Tryz.prog 17 #[.pointer (some ⟨p, 0, none⟩)] W fun e W' => e = .returned (.int .i64 s.st) ∧ W = W' :=
  steps_prog p m n D s.st s.ak s.k s.a s.f s.was s.is s.done W h.prog
def SameS (q p b : Nat) (r : Acc8) (w0 W : World) : Prop :=
  (W.cell? ⟨q, 0, none⟩ = some (.pointer (some ⟨p, 0, none⟩)) ∧ W.cell? ⟨q, 1, none⟩ = some (.pointer (some ⟨b, 0, none⟩)) ∧ W.cell? ⟨b, 1, none⟩ = some (.int .i64 r.st) ∧ W.cell? ⟨b, 2, none⟩ = some (.int .u8 r.ak) ∧ W.cell? ⟨b, 3, none⟩ = some (.int .u8 r.k) ∧ W.cell? ⟨b, 4, none⟩ = some (.int .i64 r.a) ∧
    W.cell? ⟨b, 5, none⟩ = some (.int .i64 r.f) ∧ W.cell? ⟨b, 6, none⟩ = some (.int .u64 r.was) ∧ W.cell? ⟨b, 7, none⟩ = some (.int .u64 r.is) ∧ W.cell? ⟨b, 8, none⟩ = some (.bool r.done)) ∧ Hid (Below w0.heap.size w0 W)
theorem SameS.step {q p b : Nat} {r : Acc8} {w0 w W : World} (h : SameS q p b r w0 w) (hb : Below w.heap.size w W) : SameS q p b r w0 W := by
  obtain ⟨⟨h0, h1, h2, h3, h4, h5, h6, h7, h8, h9⟩, hB⟩ := h
  have k : ∀ {q j : Nat} {v : Value}, w.cell? ⟨q, j, none⟩ = some v → W.cell? ⟨q, j, none⟩ = some v := fun {q j v} hc => (hb.cell (p := ⟨q, j, none⟩) (World.block_lt_of_cell? w _ hc)).trans hc
  exact ⟨⟨k h0, k h1, k h2, k h3, k h4, k h5, k h6, k h7, k h8, k h9⟩, Lib.hid (hB.out.trans (hb.mono hB.out.size))⟩
set_option maxRecDepth 100000 in
set_option maxHeartbeats 2000000 in
theorem pair_same (h : Pr p m b n D s L s W) :
    Calls Tryz.prog 15 #[.agg #[.pointer (some ⟨p, 0, none⟩), .pointer (some ⟨b, 0, none⟩)]] W fun e W' => e = .returned (.bool true) ∧ Below W.heap.size W W' := by
  have hB : Below W.heap.size W (W.alloc (.cells #[.pointer (some ⟨p, 0, none⟩), .pointer (some ⟨b, 0, none⟩)] 28)) := (Below.refl _ _).alloc (Nat.le_refl _) _
  have HP := Lib.hid (h.below hB)
  have HB := Lib.hid hB
  have k0 : (W.alloc (.cells #[.pointer (some ⟨p, 0, none⟩), .pointer (some ⟨b, 0, none⟩)] 28)).heap[W.heap.size]? = some (.cells #[.pointer (some ⟨p, 0, none⟩), .pointer (some ⟨b, 0, none⟩)] 28 (0, 0)) := World.alloc_heap_new _ _
  have c0 := Joins.cell_of_block k0 0
  have c1 := Joins.cell_of_block k0 1
  simp only [List.getElem?_toArray, List.getElem?_cons_zero, List.getElem?_cons_succ] at c0 c1
  have hq := eq_acc s
  have hS : SameS W.heap.size p b s (W.alloc (.cells #[.pointer (some ⟨p, 0, none⟩), .pointer (some ⟨b, 0, none⟩)] 28)) (W.alloc (.cells #[.pointer (some ⟨p, 0, none⟩), .pointer (some ⟨b, 0, none⟩)] 28)) := by
    obtain ⟨v, hr⟩ := HP.out.ref
    exact ⟨⟨c0, c1, hr.cell8 1, hr.cell8 2, hr.cell8 3, hr.cell8 4, hr.cell8 5, hr.cell8 6, hr.cell8 7, hr.cell8 8⟩, Lib.hid (Below.refl _ _)⟩
  have HSd := Lib.hid (hS.step (Below.refl _ _).drew)
  have HPd := Lib.hid (HP.out.below (Below.refl _ _).drew)
  clear h hB k0 HP hS c0 c1
  go_enter Tryz.func15, Tryz.ntmps15
  go_wp2_with fail
  revert HB HSd HPd
  generalize W.alloc (.cells #[.pointer (some ⟨p, 0, none⟩), .pointer (some ⟨b, 0, none⟩)] 28) = w0
  intro HB HSd HPd
  go_region_held3 (fun w1 => (w1.cell? ⟨W.heap.size, 0, none⟩ = some (.pointer (some ⟨p, 0, none⟩)) ∧ w1.cell? ⟨W.heap.size, 1, none⟩ = some (.pointer (some ⟨b, 0, none⟩)) ∧ w1.cell? ⟨b, 1, none⟩ = some (.int .i64 s.st) ∧ w1.cell? ⟨b, 2, none⟩ = some (.int .u8 s.ak) ∧ w1.cell? ⟨b, 3, none⟩ = some (.int .u8 s.k) ∧ w1.cell? ⟨b, 4, none⟩ = some (.int .i64 s.a) ∧
    w1.cell? ⟨b, 5, none⟩ = some (.int .i64 s.f) ∧ w1.cell? ⟨b, 6, none⟩ = some (.int .u64 s.was) ∧ w1.cell? ⟨b, 7, none⟩ = some (.int .u64 s.is) ∧ w1.cell? ⟨b, 8, none⟩ = some (.bool s.done)) ∧ Hid (Below w0.heap.size w0 w1))
    (first | exact HSd.out | (refine SameS.step (r := s) (p := p) ?_ hA; assumption) | assumption)
    (first
      | (go_at_call 41; with_reducible refine (last_p HPd.out).mono ?_; rintro e wA ⟨rfl, hA⟩)
      | (go_at_call 17; with_reducible refine (steps_p (HPd.out.below hA)).mono ?_; rintro e wB ⟨rfl, rfl⟩))
  have HS2 : SameS W.heap.size p b s w0 wA := by assumption
  go_wp2_with fail
  go_ret
  exact ⟨rfl, HB.out.trans (HS2.2.out.mono HB.out.size)⟩
end
end Go.Proofs.YtmjcbjcnmgleaaaGreatDoor
