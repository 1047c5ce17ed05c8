/-
  The plain side of HeadersOnce: each generation is live at most once in a past; a header that stands twice in a row may not be; no condition of its own.
-/
import Derived.Test.YtfholfmlkehfnaaDoorHE4
namespace Go.Proofs.YtfholfmlkehfnaaDoor
open Go.RowKit

/-- How often a generation is live. -/
def liveN (ps : List Int) (g : Int) : Nat := (ps.filter fun x => decide (x = hw 1 g)).length
theorem liveN_snoc (ps : List Int) (x g : Int) : liveN (ps ++ [x]) g = liveN ps g + if x = hw 1 g then 1 else 0 := by
  unfold liveN
  rw [List.filter_append, List.length_append, List.filter_cons, List.filter_nil]
  by_cases h : x = hw 1 g <;> simp [h]
/-- What a past that may be says of live ones. -/
structure LiveOk (ps : List Int) (s g most : Int) : Prop where
  once : ∀ k, liveN ps k ≤ 1
  above : ∀ k, g < k → liveN ps k = 0
  fresh : s = 0 ∨ s = 3 → liveN ps g = 0
  each : ∀ x ∈ ps, ∃ a b, x = hw a b ∧ HOk a b most
theorem LiveOk.start {most : Int} (ho : HOk 0 0 most) : LiveOk [hw 0 0] 0 0 most := by
  have h : ∀ k : Int, liveN [hw 0 0] k = 0 := fun k => by
    unfold liveN
    rw [List.filter_cons_of_neg, List.filter_nil]
    · rfl
    · rw [decide_eq_true_eq]
      unfold hw
      omega
  exact ⟨fun k => by rw [h k]; omega, fun k _ => h k, fun _ => h 0, fun x hx => ⟨0, 0, List.mem_singleton.1 hx, ho⟩⟩
theorem LiveOk.step {ps : List Int} {s g c t h most : Int} (hp : LiveOk ps s g most) (ho : HOk s g most) (hd : doneS s g c most = some (t, h)) : LiveOk (ps ++ [hw t h]) t h most := by
  obtain ⟨hst, hot⟩ := step_of ho hd
  obtain ⟨p1, p2, p3, p4⟩ := hp
  have hup := hst.up
  have hgh : g ≤ h := by rw [hup]; split <;> omega
  have hlive := hst.live
  have hsame : ∀ k, hw t h = hw 1 k → t = 1 ∧ k = h := fun k e => by
    unfold hw at e
    have := hot.s0
    have := hot.s4
    omega
  refine ⟨fun k => ?_, fun k hk => ?_, fun hs => ?_, fun x hx => ?_⟩
  · rw [liveN_snoc]
    by_cases e : hw t h = hw 1 k
    · rw [if_pos e]
      obtain ⟨h1, rfl⟩ := hsame k e
      obtain ⟨h2, h3⟩ := hlive h1
      subst h3
      have := p3 (.inl h2)
      omega
    · rw [if_neg e]
      exact p1 k
  · rw [liveN_snoc, p2 k (by omega), if_neg]
    intro e
    have := (hsame k e).2
    omega
  · rw [liveN_snoc, if_neg (by intro e; have := (hsame h e).1; omega)]
    rcases hs with hs | hs
    · by_cases hh : h = g
      · subst hh
        rw [p3 (.inr (hst.free hs rfl))]
      · rw [p2 h (by omega)]
    · obtain ⟨h1, h2⟩ := hst.parked hs
      subst h2
      rw [p3 (.inl h1)]
  · rcases List.mem_append.1 hx with hx | hx
    · exact p4 x hx
    · exact ⟨t, h, List.mem_singleton.1 hx, hot⟩
/-- With a header twice in a row. -/
def twiceC (ps : List Int) (k : Nat) : List Int := ps.take (k + 1) ++ [ps.getD k 0] ++ ps.drop (k + 1)
theorem twice_at {ps : List Int} {k j : Nat} (hk : k < ps.length) (hj : j ≤ k) : (twiceC ps k).getD j 0 = ps.getD j 0 := by
  unfold twiceC
  rw [List.getD_eq_getElem?_getD, List.append_assoc, List.getElem?_append_left (by rw [List.length_take]; omega), List.getElem?_take_of_lt (by omega), ← List.getD_eq_getElem?_getD]
theorem twice_mid {ps : List Int} {k : Nat} (hk : k < ps.length) : (twiceC ps k).getD (k + 1) 0 = ps.getD k 0 := by
  unfold twiceC
  have hl : (ps.take (k + 1)).length = k + 1 := by rw [List.length_take]; omega
  rw [List.getD_eq_getElem?_getD, List.append_assoc, List.getElem?_append_right (by omega), hl, Nat.sub_self]
  rfl
theorem twice_length {ps : List Int} {k : Nat} (hk : k < ps.length) : (twiceC ps k).length = ps.length + 1 := by
  unfold twiceC
  rw [List.length_append, List.length_append, List.length_take, List.length_drop, List.length_singleton]
  omega
theorem twice_past {ps : List Int} {s g most : Int} {k : Nat} (hp : PastOk ps s g most) (hv : LiveOk ps s g most) (hm : U32 most) (hk : k < ps.length) : pastH (twiceC ps k) most = k + 1 := by
  refine past_first (by rw [twice_length hk]; omega) ?_ (fun j hj => ?_)
  · unfold okAt
    rw [if_neg (by omega), Nat.add_sub_cancel, twice_at hk (Nat.le_refl _), twice_mid hk]
    have hmem : ps.getD k 0 ∈ ps := by
      rw [List.getD_eq_getElem?_getD, List.getElem?_eq_getElem hk]
      exact List.getElem_mem hk
    obtain ⟨a, b, e, ho⟩ := hv.each _ hmem
    rw [e, of_self ho hm]
    rfl
  · have h := hp.ok j (by omega)
    unfold okAt at h ⊢
    rw [twice_at hk (by omega), twice_at hk (by omega), twice_at hk (by omega)]
    exact h
end Go.Proofs.YtfholfmlkehfnaaDoor
