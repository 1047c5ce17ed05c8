/-
  The two memories of layer 2 side by side: that they say the same, and that a call on one leaves the other and all boxes of others alone; condition: both lie as they say, the document's behind the program's.
-/
import Derived.Test.YtodfjnpnfalioaaDoorO1
import Derived.Test.YtodfjnpnfalioaaDoorR7
import Derived.Test.YtodfjnpnfalioaaDoorK2
namespace Go.Proofs.YtodfjnpnfalioaaDoor
open Go.RowKit Go.Maps

instance : DecidableEq Ad := fun x y => decidable_of_iff (x.same y = true) (Ad.same_iff x y)
def toWd (x : Ad × Int) : Wd := ⟨x.1.k, x.1.a, x.1.f, x.2⟩
theorem is_iff (y x : Ad) (v : Int) : (toWd (y, v)).is x.k x.a x.f = true ↔ y = x := by
  unfold Wd.is toWd
  constructor
  · intro h
    simp at h
    exact Ad.ext ⟨h.1.1, h.1.2, h.2⟩
  · rintro rfl
    simp
/-- What put makes of the list. -/
def putA : List (Ad × Int) → Ad → Int → List (Ad × Int)
  | [], x, v => [(x, v)]
  | y :: r, x, v => if (toWd y).is x.k x.a x.f = true then (y.1, v) :: r else y :: putA r x v
theorem putA_map (L : List (Ad × Int)) (x : Ad) (v : Int) : (putA L x v).map toWd = putL (L.map toWd) x.k x.a x.f v := by
  induction L with
  | nil => rfl
  | cons y r ih =>
    unfold putA
    rw [List.map_cons]
    unfold putL
    by_cases h : (toWd y).is x.k x.a x.f = true
    · rw [if_pos h, if_pos h]; rfl
    · rw [if_neg h, if_neg h, List.map_cons, ih]
theorem putA_len (L : List (Ad × Int)) (x : Ad) (v : Int) : (putA L x v).length ≤ L.length + 1 := by
  induction L with
  | nil => simp [putA]
  | cons y r ih => unfold putA; split <;> simp [ih]
def vals (L : List (Ad × Int)) (x : Ad) : Int := look (L.map toWd) x.k x.a x.f
theorem vals_cons (y : Ad) (c : Int) (r : List (Ad × Int)) (x : Ad) : vals ((y, c) :: r) x = if y = x then c else vals r x := by
  show (if (toWd (y, c)).is x.k x.a x.f = true then (toWd (y, c)).v else look (r.map toWd) x.k x.a x.f) = _
  unfold vals
  by_cases h : y = x
  · rw [if_pos ((is_iff y x c).2 h), if_pos h]; rfl
  · rw [if_neg (fun e => h ((is_iff y x c).1 e)), if_neg h]
theorem vals_put (L : List (Ad × Int)) (x : Ad) (v : Int) (z : Ad) : vals (putA L x v) z = if x = z then v else vals L z := by
  induction L with
  | nil => unfold putA; rw [vals_cons]
  | cons y r ih =>
    obtain ⟨y, c⟩ := y
    unfold putA
    by_cases h : y = x
    · subst h
      rw [if_pos ((is_iff y y c).2 rfl), vals_cons, vals_cons]
      split <;> rfl
    · rw [if_neg (fun e => h ((is_iff y x c).1 e)), vals_cons, vals_cons, ih]
      by_cases e : y = z
      · subst e
        rw [if_pos rfl, if_neg (Ne.symm h), if_pos rfl]
      · rw [if_neg e, if_neg e]
theorem putA_fst (L : List (Ad × Int)) (x : Ad) (v : Int) : ∀ z, z ∈ (putA L x v).map Prod.fst → z = x ∨ z ∈ L.map Prod.fst := by
  induction L with
  | nil => intro z hz; simpa [putA] using hz
  | cons y r ih =>
    intro z hz
    unfold putA at hz
    split at hz
    · rw [List.map_cons] at hz ⊢
      exact .inr hz
    · rw [List.map_cons, List.mem_cons] at hz ⊢
      rcases hz with e | e
      · exact .inr (.inl e)
      · rcases ih z e with e | e
        · exact .inl e
        · exact .inr (.inr e)
theorem putA_nodup (L : List (Ad × Int)) (x : Ad) (v : Int) (h : (L.map Prod.fst).Nodup) : ((putA L x v).map Prod.fst).Nodup := by
  induction L with
  | nil => simp [putA]
  | cons y r ih =>
    obtain ⟨h1, h2⟩ := List.nodup_cons.1 (by rw [List.map_cons] at h; exact h)
    unfold putA
    by_cases e : (toWd y).is x.k x.a x.f = true
    · rw [if_pos e, List.map_cons]
      exact List.nodup_cons.2 ⟨h1, h2⟩
    · rw [if_neg e, List.map_cons]
      refine List.nodup_cons.2 ⟨fun hz => ?_, ih h2⟩
      rcases putA_fst r x v _ hz with e' | e'
      · exact e ((is_iff y.1 x y.2).2 e')
      · exact h1 e'
theorem vals_of_mem (L : List (Ad × Int)) (h : (L.map Prod.fst).Nodup) (x : Ad) (v : Int) (hm : (x, v) ∈ L) : vals L x = v := by
  induction L with
  | nil => cases hm
  | cons y r ih =>
    obtain ⟨y, c⟩ := y
    obtain ⟨h1, h2⟩ := List.nodup_cons.1 (by rw [List.map_cons] at h; exact h)
    rw [vals_cons]
    rcases List.mem_cons.1 hm with e | e
    · cases e
      rw [if_pos rfl]
    · rw [if_neg (fun e' : y = x => h1 (by subst e'; exact List.mem_map.2 ⟨_, e, rfl⟩)), ih h2 e]
theorem mem_of_vals (L : List (Ad × Int)) (x : Ad) (h : vals L x ≠ 0) : (x, vals L x) ∈ L := by
  induction L with
  | nil => exact absurd rfl h
  | cons y r ih =>
    obtain ⟨y, c⟩ := y
    rw [vals_cons] at h ⊢
    by_cases e : y = x
    · subst e
      rw [if_pos rfl]
      simp
    · rw [if_neg e] at h ⊢
      exact List.mem_cons_of_mem _ (ih h)

/-- That both say the same. -/
structure Rel (D : DataW Unit) (L : List (Ad × Int)) : Prop where
  map : IsMap D
  nodup : (L.map Prod.fst).Nodup
  val : ∀ x : Ad, valD D x = vals L x
  has : ∀ x : Ad, has D x.lit = true ↔ valD D x ≠ 0
theorem rel_nil : Rel (.map []) [] := ⟨isMap_empty, by simp, fun _ => rfl, fun _ => by simp [Maps.has, valD, DataW.atKey]⟩
theorem Rel.put {D : DataW Unit} {L : List (Ad × Int)} (h : Rel D L) (x : Ad) (v : Int) : Rel (putD D x v) (putA L x v) := by
  refine ⟨isMap_putD h.map x v, putA_nodup L x v h.nodup, fun z => ?_, fun z => ?_⟩
  · rw [vals_put]
    by_cases e : x = z
    · subst e; rw [if_pos rfl, valD_put_same _ h.map]
    · rw [if_neg e, valD_put_other _ (Ne.symm e), h.val]
  · by_cases e : x = z
    · subst e; rw [has_put_same' _ h.map, valD_put_same _ h.map]; simp
    · rw [has_put_other' _ (Ne.symm e), valD_put_other _ (Ne.symm e), h.has]
theorem Rel.size {D : DataW Unit} {L : List (Ad × Int)} (h : Rel D L) {w : World} {m n : Nat} (hown : w.ownsMap Tryd.prog 55 (plainElem Tryd.prog 33) m n D) : Maps.size D ≤ L.length := by
  have hn : ((L.filter fun y => decide (y.2 ≠ 0)).map Prod.fst).Nodup := h.nodup.sublist (List.Sublist.map _ List.filter_sublist)
  have := own_size hown hn fun x => by
    rw [h.has x, h.val x, List.mem_map]
    constructor
    · rintro ⟨⟨y, v⟩, hy, rfl⟩
      obtain ⟨h1, h2⟩ := List.mem_filter.1 hy
      rw [vals_of_mem L h.nodup y v h1]
      simpa using h2
    · intro hx
      exact ⟨(x, vals L x), List.mem_filter.2 ⟨mem_of_vals L x hx, by simpa using hx⟩, rfl⟩
  rw [← this, List.length_map]
  exact List.length_filter_le _ _
end Go.Proofs.YtodfjnpnfalioaaDoor
