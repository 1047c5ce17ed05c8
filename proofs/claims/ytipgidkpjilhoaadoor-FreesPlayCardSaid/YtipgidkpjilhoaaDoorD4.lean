/-
  The document's words of layer 2 of whatever memory, and how they stand to the program's: both lists are the same where each address has the same word; condition: one entry an address.
  The two memories of layer 2 side by side: that they say the same, and that a call on one leaves the other and all boxes of others alone; condition: both lie as they say, the document's behind the program's.
-/
import Derived.Test.YtipgidkpjilhoaaDoorD2
import Derived.Test.YtipgidkpjilhoaaDoorO1
import Derived.Test.YtipgidkpjilhoaaDoorR7
namespace Go.Proofs.YtipgidkpjilhoaaDoor
open Go.RowKit Go.Maps

set_option maxHeartbeats 1000000 in
theorem ref_words_nil (b : Nat) (w : World) (hb : w.cell? ⟨b, 0, none⟩ = some (.slice none 0 0)) : Calls Tryd.prog 42 #[.pointer (some ⟨b, 0, none⟩)] w (RefWords [] w) := by
  go_enter Tryd.func42, Tryd.ntmps42
  go_wp2_with fail
  refine wp_loop_rounds 1 ?_
  rw [rounds_succ]
  go_wp2_with fail
  go_ret
  exact ⟨_, rfl, World.ownsRow_nil _ _ _ _, Below.refl _ _⟩
theorem ref_words_any (B b : Nat) (l : List Wd) (v : Value) (rest : List Value) (w : World) (h : R2 B b l v rest w) (hn : l.length ≤ 1000) : Calls Tryd.prog 42 #[.pointer (some ⟨b, 0, none⟩)] w (RefWords l w) := by
  rcases h.own.2 with ⟨hv, h0⟩ | ⟨g, cap, cur, hv, hB, hg, r⟩
  · have e : l = [] := List.length_eq_zero_iff.1 h0
    subst e hv
    exact ref_words_nil b w h.head
  · subst hv
    exact ref_words B b g cap l rest w h hn

/-! ### Sorted lists -/
theorem sorted_ext {α : Type} {r : α → α → Prop} (irr : ∀ x, ¬ r x x) (asy : ∀ x y, r x y → ¬ r y x) : ∀ s t : List α, s.Pairwise r → t.Pairwise r → (∀ x, x ∈ s ↔ x ∈ t) → s = t := by
  intro s
  induction s with
  | nil =>
    intro t _ _ h
    cases t with
    | nil => rfl
    | cons b t => exact absurd ((h b).2 (by simp)) (by simp)
  | cons a s ih =>
    intro t hs ht h
    cases t with
    | nil => exact absurd ((h a).1 (by simp)) (by simp)
    | cons b t =>
      obtain ⟨h1, h2⟩ := List.pairwise_cons.1 hs
      obtain ⟨k1, k2⟩ := List.pairwise_cons.1 ht
      have e : a = b := by
        rcases List.mem_cons.1 ((h a).1 (by simp)) with e | e
        · exact e
        · rcases List.mem_cons.1 ((h b).2 (by simp)) with e' | e'
          · exact e'.symm
          · exact absurd (h1 b e') (asy b a (k1 a e))
      subst e
      rw [ih t h2 k2 fun x => ⟨fun hx => ?_, fun hx => ?_⟩]
      · rcases List.mem_cons.1 ((h x).1 (List.mem_cons_of_mem _ hx)) with e | e
        · subst e; exact absurd (h1 x hx) (irr x)
        · exact e
      · rcases List.mem_cons.1 ((h x).2 (List.mem_cons_of_mem _ hx)) with e | e
        · subst e; exact absurd (k1 x hx) (irr x)
        · exact e
theorem lessB_irr (k a f : Int) : lessB k a f k a f = false := by simp [lessB]
theorem lessB_iff (k a f k' a' f' : Int) : lessB k a f k' a' f' = true ↔ (k < k' ∨ (k = k' ∧ (a < a' ∨ (a = a' ∧ f < f')))) := by
  unfold lessB
  split
  · simp; omega
  · split
    · simp; omega
    · simp; omega
theorem lessW_irr (x : Wd) : ¬ lessW x x = true := by simp [lessW, lessB_irr]
theorem lessW_asy (x y : Wd) (h : lessW x y = true) : ¬ lessW y x = true := by
  unfold lessW at *
  rw [lessB_iff] at *
  omega
theorem lessW_trans {x y z : Wd} (h : lessW x y = true) (h' : lessW y z = true) : lessW x z = true := by
  unfold lessW at *
  rw [lessB_iff] at *
  omega
theorem mem_insW (sl : List Wd) (y z : Wd) : z ∈ insW sl y ↔ z = y ∨ z ∈ sl := by
  induction sl with
  | nil => simp [insW]
  | cons x r ih =>
    unfold insW
    split
    · simp only [List.mem_cons, ih]
      constructor
      · rintro (h | h | h)
        · exact .inr (.inl h)
        · exact .inl h
        · exact .inr (.inr h)
      · rintro (h | h | h)
        · exact .inr (.inl h)
        · exact .inl h
        · exact .inr (.inr h)
    · simp
theorem insW_sorted (y : Wd) (sl : List Wd) (h : sl.Pairwise fun x z => lessW x z = true) (ht : ∀ x ∈ sl, lessW x y = true ∨ lessW y x = true) : (insW sl y).Pairwise fun x z => lessW x z = true := by
  induction sl with
  | nil => simp [insW]
  | cons x r ih =>
    obtain ⟨h1, h2⟩ := List.pairwise_cons.1 h
    unfold insW
    split
    · rename_i hx
      refine List.pairwise_cons.2 ⟨fun z hz => ?_, ih h2 fun z hz => ht z (List.mem_cons_of_mem _ hz)⟩
      rcases (mem_insW r y z).1 hz with e | e
      · subst e; exact hx
      · exact h1 z e
    · rename_i hx
      have hy : lessW y x = true := (ht x (by simp)).resolve_left hx
      refine List.pairwise_cons.2 ⟨fun z hz => ?_, h⟩
      rcases List.mem_cons.1 hz with e | e
      · subst e; exact hy
      · exact lessW_trans hy (h1 z e)
/-- One entry an address. -/
def Apart (l : List Wd) : Prop := l.Pairwise fun x y => ¬ (x.k = y.k ∧ x.a = y.a ∧ x.f = y.f)
theorem lessW_total {x y : Wd} (h : ¬ (x.k = y.k ∧ x.a = y.a ∧ x.f = y.f)) : lessW x y = true ∨ lessW y x = true := by
  unfold lessW
  rw [lessB_iff, lessB_iff]
  omega
theorem wordsF_spec (l : List Wd) : ∀ acc : List Wd, Apart l → acc.Pairwise (fun x z => lessW x z = true) → (∀ x ∈ acc, ∀ y ∈ l, ¬ (x.k = y.k ∧ x.a = y.a ∧ x.f = y.f)) →
    (l.foldl stepW acc).Pairwise (fun x z => lessW x z = true) ∧ ∀ z, z ∈ l.foldl stepW acc ↔ z ∈ acc ∨ (z ∈ l ∧ z.v ≠ 0) := by
  induction l with
  | nil => intro acc _ h _; exact ⟨h, by simp⟩
  | cons y r ih =>
    intro acc hl ha hd
    obtain ⟨l1, l2⟩ := List.pairwise_cons.1 hl
    have e : (y :: r).foldl stepW acc = r.foldl stepW (stepW acc y) := rfl
    rw [e]
    by_cases hv : y.v = 0
    · rw [show stepW acc y = acc from if_pos hv]
      obtain ⟨i1, i2⟩ := ih acc l2 ha fun x hx z hz => hd x hx z (List.mem_cons_of_mem _ hz)
      refine ⟨i1, fun z => ?_⟩
      rw [i2 z]
      constructor
      · rintro (h | ⟨h, h'⟩)
        · exact .inl h
        · exact .inr ⟨List.mem_cons_of_mem _ h, h'⟩
      · rintro (h | ⟨h, h'⟩)
        · exact .inl h
        · rcases List.mem_cons.1 h with e | e
          · subst e; exact absurd hv h'
          · exact .inr ⟨e, h'⟩
    · rw [show stepW acc y = insW acc y from if_neg hv]
      obtain ⟨i1, i2⟩ := ih (insW acc y) l2 (insW_sorted y acc ha fun x hx => lessW_total (hd x hx y (by simp))) fun x hx z hz => by
        rcases (mem_insW acc y x).1 hx with e | e
        · subst e; exact l1 z hz
        · exact hd x e z (List.mem_cons_of_mem _ hz)
      refine ⟨i1, fun z => ?_⟩
      rw [i2 z, mem_insW]
      constructor
      · rintro ((h | h) | ⟨h, h'⟩)
        · subst h; exact .inr ⟨by simp, hv⟩
        · exact .inl h
        · exact .inr ⟨List.mem_cons_of_mem _ h, h'⟩
      · rintro (h | ⟨h, h'⟩)
        · exact .inl (.inr h)
        · rcases List.mem_cons.1 h with e | e
          · exact .inl (.inl e)
          · exact .inr ⟨e, h'⟩
end Go.Proofs.YtipgidkpjilhoaaDoor
namespace Go.Proofs.YtipgidkpjilhoaaDoor
open Go.RowKit Go.Maps

instance : DecidableEq Ad := fun x y => decidable_of_iff (x.same y = true) (Ad.same_iff x y)
def toWd (x : Ad × Int) : Wd := ⟨x.1.k, x.1.a, x.1.f, x.2⟩
theorem is_iff (y x : Ad) (v : Int) : (toWd (y, v)).is x.k x.a x.f = true ↔ y = x := by
  unfold Wd.is toWd
  constructor
  · intro h
    simp at h
    exact Ad.ext ⟨h.1.1, h.1.2, h.2⟩
  · rintro rfl
    simp
/-- What put makes of the list. -/
def putA : List (Ad × Int) → Ad → Int → List (Ad × Int)
  | [], x, v => [(x, v)]
  | y :: r, x, v => if (toWd y).is x.k x.a x.f = true then (y.1, v) :: r else y :: putA r x v
theorem putA_map (L : List (Ad × Int)) (x : Ad) (v : Int) : (putA L x v).map toWd = putL (L.map toWd) x.k x.a x.f v := by
  induction L with
  | nil => rfl
  | cons y r ih =>
    unfold putA
    rw [List.map_cons]
    unfold putL
    by_cases h : (toWd y).is x.k x.a x.f = true
    · rw [if_pos h, if_pos h]; rfl
    · rw [if_neg h, if_neg h, List.map_cons, ih]
theorem putA_len (L : List (Ad × Int)) (x : Ad) (v : Int) : (putA L x v).length ≤ L.length + 1 := by
  induction L with
  | nil => simp [putA]
  | cons y r ih => unfold putA; split <;> simp [ih]
def vals (L : List (Ad × Int)) (x : Ad) : Int := look (L.map toWd) x.k x.a x.f
theorem vals_cons (y : Ad) (c : Int) (r : List (Ad × Int)) (x : Ad) : vals ((y, c) :: r) x = if y = x then c else vals r x := by
  show (if (toWd (y, c)).is x.k x.a x.f = true then (toWd (y, c)).v else look (r.map toWd) x.k x.a x.f) = _
  unfold vals
  by_cases h : y = x
  · rw [if_pos ((is_iff y x c).2 h), if_pos h]; rfl
  · rw [if_neg (fun e => h ((is_iff y x c).1 e)), if_neg h]
theorem vals_put (L : List (Ad × Int)) (x : Ad) (v : Int) (z : Ad) : vals (putA L x v) z = if x = z then v else vals L z := by
  induction L with
  | nil => unfold putA; rw [vals_cons]
  | cons y r ih =>
    obtain ⟨y, c⟩ := y
    unfold putA
    by_cases h : y = x
    · subst h
      rw [if_pos ((is_iff y y c).2 rfl), vals_cons, vals_cons]
      split <;> rfl
    · rw [if_neg (fun e => h ((is_iff y x c).1 e)), vals_cons, vals_cons, ih]
      by_cases e : y = z
      · subst e
        rw [if_pos rfl, if_neg (Ne.symm h), if_pos rfl]
      · rw [if_neg e, if_neg e]
theorem putA_fst (L : List (Ad × Int)) (x : Ad) (v : Int) : ∀ z, z ∈ (putA L x v).map Prod.fst → z = x ∨ z ∈ L.map Prod.fst := by
  induction L with
  | nil => intro z hz; simpa [putA] using hz
  | cons y r ih =>
    intro z hz
    unfold putA at hz
    split at hz
    · rw [List.map_cons] at hz ⊢
      exact .inr hz
    · rw [List.map_cons, List.mem_cons] at hz ⊢
      rcases hz with e | e
      · exact .inr (.inl e)
      · rcases ih z e with e | e
        · exact .inl e
        · exact .inr (.inr e)
theorem putA_nodup (L : List (Ad × Int)) (x : Ad) (v : Int) (h : (L.map Prod.fst).Nodup) : ((putA L x v).map Prod.fst).Nodup := by
  induction L with
  | nil => simp [putA]
  | cons y r ih =>
    obtain ⟨h1, h2⟩ := List.nodup_cons.1 (by rw [List.map_cons] at h; exact h)
    unfold putA
    by_cases e : (toWd y).is x.k x.a x.f = true
    · rw [if_pos e, List.map_cons]
      exact List.nodup_cons.2 ⟨h1, h2⟩
    · rw [if_neg e, List.map_cons]
      refine List.nodup_cons.2 ⟨fun hz => ?_, ih h2⟩
      rcases putA_fst r x v _ hz with e' | e'
      · exact e ((is_iff y.1 x y.2).2 e')
      · exact h1 e'
theorem vals_of_mem (L : List (Ad × Int)) (h : (L.map Prod.fst).Nodup) (x : Ad) (v : Int) (hm : (x, v) ∈ L) : vals L x = v := by
  induction L with
  | nil => cases hm
  | cons y r ih =>
    obtain ⟨y, c⟩ := y
    obtain ⟨h1, h2⟩ := List.nodup_cons.1 (by rw [List.map_cons] at h; exact h)
    rw [vals_cons]
    rcases List.mem_cons.1 hm with e | e
    · cases e
      rw [if_pos rfl]
    · rw [if_neg (fun e' : y = x => h1 (by subst e'; exact List.mem_map.2 ⟨_, e, rfl⟩)), ih h2 e]
theorem mem_of_vals (L : List (Ad × Int)) (x : Ad) (h : vals L x ≠ 0) : (x, vals L x) ∈ L := by
  induction L with
  | nil => exact absurd rfl h
  | cons y r ih =>
    obtain ⟨y, c⟩ := y
    rw [vals_cons] at h ⊢
    by_cases e : y = x
    · subst e
      rw [if_pos rfl]
      simp
    · rw [if_neg e] at h ⊢
      exact List.mem_cons_of_mem _ (ih h)

/-- That both say the same. -/
structure Rel (D : DataW Unit) (L : List (Ad × Int)) : Prop where
  map : IsMap D
  nodup : (L.map Prod.fst).Nodup
  val : ∀ x : Ad, valD D x = vals L x
  has : ∀ x : Ad, has D x.lit = true ↔ valD D x ≠ 0
theorem rel_nil : Rel (.map []) [] := ⟨isMap_empty, by simp, fun _ => rfl, fun _ => by simp [Maps.has, valD, DataW.atKey]⟩
theorem Rel.put {D : DataW Unit} {L : List (Ad × Int)} (h : Rel D L) (x : Ad) (v : Int) : Rel (putD D x v) (putA L x v) := by
  refine ⟨isMap_putD h.map x v, putA_nodup L x v h.nodup, fun z => ?_, fun z => ?_⟩
  · rw [vals_put]
    by_cases e : x = z
    · subst e; rw [if_pos rfl, valD_put_same _ h.map]
    · rw [if_neg e, valD_put_other _ (Ne.symm e), h.val]
  · by_cases e : x = z
    · subst e; rw [has_put_same' _ h.map, valD_put_same _ h.map]; simp
    · rw [has_put_other' _ (Ne.symm e), valD_put_other _ (Ne.symm e), h.has]
theorem apart_of (L : List (Ad × Int)) (h : (L.map Prod.fst).Nodup) : Apart (L.map toWd) := by
  unfold Apart
  rw [List.pairwise_map]
  rw [List.nodup_iff_pairwise_ne, List.pairwise_map] at h
  exact h.imp fun hne e => hne (Ad.ext e)
theorem Rel.words {D : DataW Unit} {L : List (Ad × Int)} (h : Rel D L) {ts : List Ad} (ht : Addrs D ts) : wordsF (L.map toWd) = ts.map fun x => toWd (x, valD D x) := by
  obtain ⟨s1, s2⟩ := wordsF_spec (L.map toWd) [] (apart_of L h.nodup) List.Pairwise.nil (fun x hx => by cases hx)
  refine sorted_ext (r := fun x z => lessW x z = true) lessW_irr lessW_asy _ _ s1 ?_ fun z => ?_
  · rw [List.pairwise_map]
    exact ht.1.imp fun hh => hh
  · show z ∈ (L.map toWd).foldl stepW [] ↔ _
    rw [s2 z]
    constructor
    · rintro (hz | ⟨hz, hv⟩)
      · cases hz
      · obtain ⟨⟨x, v⟩, hm, rfl⟩ := List.mem_map.1 hz
        have e := vals_of_mem L h.nodup x v hm
        have e' : valD D x = v := (h.val x).trans e
        refine List.mem_map.2 ⟨x, (ht.2.1 x).2 ((h.has x).2 (by rw [e']; exact hv)), by rw [e']⟩
    · intro hz
      obtain ⟨x, hx, rfl⟩ := List.mem_map.1 hz
      have hne := (h.has x).1 ((ht.2.1 x).1 hx)
      refine .inr ⟨List.mem_map.2 ⟨(x, valD D x), ?_, rfl⟩, hne⟩
      rw [h.val x] at hne ⊢
      exact mem_of_vals L x hne
theorem Rel.size {D : DataW Unit} {L : List (Ad × Int)} (h : Rel D L) {w : World} {m n : Nat} (hown : w.ownsMap Tryd.prog 33 (plainElem Tryd.prog 34) m n D) : Maps.size D ≤ L.length := by
  have hn : ((L.filter fun y => decide (y.2 ≠ 0)).map Prod.fst).Nodup := h.nodup.sublist (List.Sublist.map _ List.filter_sublist)
  have := own_size hown hn fun x => by
    rw [h.has x, h.val x, List.mem_map]
    constructor
    · rintro ⟨⟨y, v⟩, hy, rfl⟩
      obtain ⟨h1, h2⟩ := List.mem_filter.1 hy
      rw [vals_of_mem L h.nodup y v h1]
      simpa using h2
    · intro hx
      exact ⟨(x, vals L x), List.mem_filter.2 ⟨mem_of_vals L x hx, by simpa using hx⟩, rfl⟩
  rw [← this, List.length_map]
  exact List.length_filter_le _ _
end Go.Proofs.YtipgidkpjilhoaaDoor
