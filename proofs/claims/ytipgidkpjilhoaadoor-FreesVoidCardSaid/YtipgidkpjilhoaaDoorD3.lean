/-
  The document's words of layer 2 of whatever memory, and how they stand to the program's: both lists are the same where each address has the same word; condition: one entry an address.
-/
import Derived.Test.YtipgidkpjilhoaaDoorD2
import Derived.Test.YtipgidkpjilhoaaDoorO1
namespace Go.Proofs.YtipgidkpjilhoaaDoor
open Go.RowKit Go.Maps

set_option maxHeartbeats 1000000 in
theorem ref_words_nil (b : Nat) (w : World) (hb : w.cell? ⟨b, 0, none⟩ = some (.slice none 0 0)) : Calls Tryd.prog 42 #[.pointer (some ⟨b, 0, none⟩)] w (RefWords [] w) := by
  go_enter Tryd.func42, Tryd.ntmps42
  go_wp2_with fail
  refine wp_loop_rounds 1 ?_
  rw [rounds_succ]
  go_wp2_with fail
  go_ret
  exact ⟨_, rfl, World.ownsRow_nil _ _ _ _, Below.refl _ _⟩
theorem ref_words_any (B b : Nat) (l : List Wd) (v : Value) (rest : List Value) (w : World) (h : R2 B b l v rest w) (hn : l.length ≤ 1000) : Calls Tryd.prog 42 #[.pointer (some ⟨b, 0, none⟩)] w (RefWords l w) := by
  rcases h.own.2 with ⟨hv, h0⟩ | ⟨g, cap, cur, hv, hB, hg, r⟩
  · have e : l = [] := List.length_eq_zero_iff.1 h0
    subst e hv
    exact ref_words_nil b w h.head
  · subst hv
    exact ref_words B b g cap l rest w h hn

/-! ### Sorted lists -/
theorem sorted_ext {α : Type} {r : α → α → Prop} (irr : ∀ x, ¬ r x x) (asy : ∀ x y, r x y → ¬ r y x) : ∀ s t : List α, s.Pairwise r → t.Pairwise r → (∀ x, x ∈ s ↔ x ∈ t) → s = t := by
  intro s
  induction s with
  | nil =>
    intro t _ _ h
    cases t with
    | nil => rfl
    | cons b t => exact absurd ((h b).2 (by simp)) (by simp)
  | cons a s ih =>
    intro t hs ht h
    cases t with
    | nil => exact absurd ((h a).1 (by simp)) (by simp)
    | cons b t =>
      obtain ⟨h1, h2⟩ := List.pairwise_cons.1 hs
      obtain ⟨k1, k2⟩ := List.pairwise_cons.1 ht
      have e : a = b := by
        rcases List.mem_cons.1 ((h a).1 (by simp)) with e | e
        · exact e
        · rcases List.mem_cons.1 ((h b).2 (by simp)) with e' | e'
          · exact e'.symm
          · exact absurd (h1 b e') (asy b a (k1 a e))
      subst e
      rw [ih t h2 k2 fun x => ⟨fun hx => ?_, fun hx => ?_⟩]
      · rcases List.mem_cons.1 ((h x).1 (List.mem_cons_of_mem _ hx)) with e | e
        · subst e; exact absurd (h1 x hx) (irr x)
        · exact e
      · rcases List.mem_cons.1 ((h x).2 (List.mem_cons_of_mem _ hx)) with e | e
        · subst e; exact absurd (k1 x hx) (irr x)
        · exact e
theorem lessB_irr (k a f : Int) : lessB k a f k a f = false := by simp [lessB]
theorem lessB_iff (k a f k' a' f' : Int) : lessB k a f k' a' f' = true ↔ (k < k' ∨ (k = k' ∧ (a < a' ∨ (a = a' ∧ f < f')))) := by
  unfold lessB
  split
  · simp; omega
  · split
    · simp; omega
    · simp; omega
theorem lessW_irr (x : Wd) : ¬ lessW x x = true := by simp [lessW, lessB_irr]
theorem lessW_asy (x y : Wd) (h : lessW x y = true) : ¬ lessW y x = true := by
  unfold lessW at *
  rw [lessB_iff] at *
  omega
theorem lessW_trans {x y z : Wd} (h : lessW x y = true) (h' : lessW y z = true) : lessW x z = true := by
  unfold lessW at *
  rw [lessB_iff] at *
  omega
theorem mem_insW (sl : List Wd) (y z : Wd) : z ∈ insW sl y ↔ z = y ∨ z ∈ sl := by
  induction sl with
  | nil => simp [insW]
  | cons x r ih =>
    unfold insW
    split
    · simp only [List.mem_cons, ih]
      constructor
      · rintro (h | h | h)
        · exact .inr (.inl h)
        · exact .inl h
        · exact .inr (.inr h)
      · rintro (h | h | h)
        · exact .inr (.inl h)
        · exact .inl h
        · exact .inr (.inr h)
    · simp
theorem insW_sorted (y : Wd) (sl : List Wd) (h : sl.Pairwise fun x z => lessW x z = true) (ht : ∀ x ∈ sl, lessW x y = true ∨ lessW y x = true) : (insW sl y).Pairwise fun x z => lessW x z = true := by
  induction sl with
  | nil => simp [insW]
  | cons x r ih =>
    obtain ⟨h1, h2⟩ := List.pairwise_cons.1 h
    unfold insW
    split
    · rename_i hx
      refine List.pairwise_cons.2 ⟨fun z hz => ?_, ih h2 fun z hz => ht z (List.mem_cons_of_mem _ hz)⟩
      rcases (mem_insW r y z).1 hz with e | e
      · subst e; exact hx
      · exact h1 z e
    · rename_i hx
      have hy : lessW y x = true := (ht x (by simp)).resolve_left hx
      refine List.pairwise_cons.2 ⟨fun z hz => ?_, h⟩
      rcases List.mem_cons.1 hz with e | e
      · subst e; exact hy
      · exact lessW_trans hy (h1 z e)
/-- One entry an address. -/
def Apart (l : List Wd) : Prop := l.Pairwise fun x y => ¬ (x.k = y.k ∧ x.a = y.a ∧ x.f = y.f)
theorem lessW_total {x y : Wd} (h : ¬ (x.k = y.k ∧ x.a = y.a ∧ x.f = y.f)) : lessW x y = true ∨ lessW y x = true := by
  unfold lessW
  rw [lessB_iff, lessB_iff]
  omega
theorem wordsF_spec (l : List Wd) : ∀ acc : List Wd, Apart l → acc.Pairwise (fun x z => lessW x z = true) → (∀ x ∈ acc, ∀ y ∈ l, ¬ (x.k = y.k ∧ x.a = y.a ∧ x.f = y.f)) →
    (l.foldl stepW acc).Pairwise (fun x z => lessW x z = true) ∧ ∀ z, z ∈ l.foldl stepW acc ↔ z ∈ acc ∨ (z ∈ l ∧ z.v ≠ 0) := by
  induction l with
  | nil => intro acc _ h _; exact ⟨h, by simp⟩
  | cons y r ih =>
    intro acc hl ha hd
    obtain ⟨l1, l2⟩ := List.pairwise_cons.1 hl
    have e : (y :: r).foldl stepW acc = r.foldl stepW (stepW acc y) := rfl
    rw [e]
    by_cases hv : y.v = 0
    · rw [show stepW acc y = acc from if_pos hv]
      obtain ⟨i1, i2⟩ := ih acc l2 ha fun x hx z hz => hd x hx z (List.mem_cons_of_mem _ hz)
      refine ⟨i1, fun z => ?_⟩
      rw [i2 z]
      constructor
      · rintro (h | ⟨h, h'⟩)
        · exact .inl h
        · exact .inr ⟨List.mem_cons_of_mem _ h, h'⟩
      · rintro (h | ⟨h, h'⟩)
        · exact .inl h
        · rcases List.mem_cons.1 h with e | e
          · subst e; exact absurd hv h'
          · exact .inr ⟨e, h'⟩
    · rw [show stepW acc y = insW acc y from if_neg hv]
      obtain ⟨i1, i2⟩ := ih (insW acc y) l2 (insW_sorted y acc ha fun x hx => lessW_total (hd x hx y (by simp))) fun x hx z hz => by
        rcases (mem_insW acc y x).1 hx with e | e
        · subst e; exact l1 z hz
        · exact hd x e z (List.mem_cons_of_mem _ hz)
      refine ⟨i1, fun z => ?_⟩
      rw [i2 z, mem_insW]
      constructor
      · rintro ((h | h) | ⟨h, h'⟩)
        · subst h; exact .inr ⟨by simp, hv⟩
        · exact .inl h
        · exact .inr ⟨List.mem_cons_of_mem _ h, h'⟩
      · rintro (h | ⟨h, h'⟩)
        · exact .inl (.inr h)
        · rcases List.mem_cons.1 h with e | e
          · exact .inl (.inl e)
          · exact .inr ⟨e, h'⟩
end Go.Proofs.YtipgidkpjilhoaaDoor
