/-
  Threads over the list of free slots, in plain words: whole steps, and what the law asks in the end; no condition.
-/
import Derived.Test.YtipgidkpjilhoaaDoorH5
import Derived.Test.YtipgidkpjilhoaaDoorF9
namespace Go.Proofs.YtipgidkpjilhoaaDoor
open Go.RowKit Go.Maps

section
variable {n k : Nat} {th : Nat → Th} {S : List Int} {T : Int} {M : MS}
theorem OpOk.pre {o : TO} (h : OpOk n M S T o) (hn : n ≤ 60) (ho : o ≠ .no) : Pre o := by
  cases o with
  | no => exact absurd rfl ho
  | pop o =>
    obtain ⟨hu, h | ⟨h1, h2, _⟩ | ⟨h1, _⟩⟩ := h
    · exact ⟨hu, by omega, fun e => by omega⟩
    · exact ⟨hu, by omega, fun _ => h2⟩
    · exact ⟨hu, by omega, fun e => by omega⟩
  | push o =>
    obtain ⟨hu, hin, h⟩ := h
    refine ⟨hu, ?_, fun _ => by omega⟩
    rcases h with h | ⟨h, _⟩ | ⟨h, _⟩ <;> omega
theorem begin_op (t : Th) (b : Bool) : (beginF t b).op ≠ .no := by
  unfold beginF
  split
  · split <;> exact TO.noConfusion
  · rename_i h
    intro e
    exact h e
theorem cnt_len : ∀ (n : Nat) (l : List Int), (∀ z, l.count z ≤ if 0 ≤ z ∧ z < n then 1 else 0) → l.length ≤ n := by
  intro n
  induction n with
  | zero =>
    intro l h
    cases l with
    | nil => simp
    | cons x r =>
      have h1 := h x
      rw [if_neg (by omega)] at h1
      simp at h1
  | succ n ih =>
    intro l h
    by_cases hm : (n : Int) ∈ l
    · have h1 := ih (l.erase (n : Int)) fun z => by
        have h2 := h z
        rw [List.count_erase]
        by_cases hz : (n : Int) = z
        · subst hz
          rw [if_pos (by omega)] at h2
          simp
          omega
        · have hb : ((n : Int) == z) = false := by simpa using hz
          rw [hb]
          by_cases h3 : 0 ≤ z ∧ z < n
          · rw [if_pos (by omega)] at h2
            rw [if_pos h3]
            simpa using h2
          · rw [if_neg (by omega)] at h2
            rw [if_neg h3]
            simpa using h2
      rw [List.length_erase_of_mem hm] at h1
      omega
    · have h1 := ih l fun z => by
        have h2 := h z
        by_cases hz : (n : Int) = z
        · subst hz
          rw [List.count_eq_zero.2 hm]
          omega
        · by_cases h3 : 0 ≤ z ∧ z < n
          · rw [if_pos (by omega)] at h2
            rw [if_pos h3]
            exact h2
          · rw [if_neg (by omega)] at h2
            rw [if_neg h3]
            exact h2
      omega
theorem Inv.held_len (I : Inv n th S T M) (hk : k < 6) : (th k).held.length ≤ n := by
  refine cnt_len _ _ fun z => ?_
  have h1 := I.cnt z
  have h2 := sum6_ge (fun k => (ownT (th k)).count z) hk
  have h3 : (th k).held.count z ≤ (ownT (th k)).count z := by unfold ownT; rw [List.count_append]; omega
  unfold cntT at h1
  omega
theorem Inv.S_len (I : Inv n th S T M) : S.length ≤ n := by
  refine cnt_len _ _ fun z => ?_
  have h1 := I.cnt z
  unfold cntT at h1
  omega
theorem begin_len (t : Th) (b : Bool) : (beginF t b).held.length ≤ t.held.length := by
  unfold beginF
  split
  · split
    · simp
    · exact Nat.le_refl _
  · exact Nat.le_refl _
/-- A whole step of thread k. -/
def stepS (th : Nat → Th) (k : Nat) (b : Bool) (M : MS) : (Nat → Th) × MS := (updT th k (goF (beginF (th k) b) M).1, (goF (beginF (th k) b) M).2)
theorem Inv.step (I : Inv n th S T M) (hn : n ≤ 60) (hT : T + 1 < 1000000) (hk : k < 6) (b : Bool) :
    ∃ S' T', Inv n (stepS th k b M).1 S' T' (stepS th k b M).2 ∧ T ≤ T' ∧ T' ≤ T + 1 ∧ (((stepS th k b M).1 k).op = .no ∨ remF (stepS th k b M).2 ((stepS th k b M).1 k).op + 1 ≤ remF M (beginF (th k) b).op) := by
  have I1 := I.begin hk b
  have hop : (updT th k (beginF (th k) b) k).op ≠ .no := by rw [updT_same]; exact begin_op _ _
  obtain ⟨S', T', h1, h2, h3, h4⟩ := I1.go hn hT hk hop
  rw [updT_same, updT_two] at h1
  rw [updT_same] at h4
  refine ⟨S', T', h1, h2, h3, ?_⟩
  simp only [stepS, updT_same]
  exact h4
theorem remF_le (M : MS) (o : TO) : remF M o ≤ 5 := by
  unfold remF
  split
  · omega
  all_goals (repeat' split) <;> omega
theorem step_other (th : Nat → Th) {j k : Nat} (b : Bool) (M : MS) (h : j ≠ k) : (stepS th k b M).1 j = th j := updT_ne _ _ h
theorem begin_id {t : Th} {b : Bool} (h : t.op ≠ .no) : beginF t b = t := by
  unfold beginF
  split
  · rename_i e; exact absurd e h
  · rfl
/-- All that six threads have. -/
def helds (th : Nat → Th) (m : Nat) : List Int := (List.range m).flatMap fun k => (th k).held
theorem helds_succ (th : Nat → Th) (m : Nat) : helds th (m + 1) = helds th m ++ (th m).held := by
  simp [helds, List.range_succ]
theorem helds_count (th : Nat → Th) (z : Int) : (helds th 6).count z = sum6 fun k => (th k).held.count z := by
  simp only [helds_succ, List.count_append, sum6]
  have : helds th 0 = [] := rfl
  simp only [this, List.count_nil]
  omega
theorem Inv.whole (I : Inv n th S T M) (h : ∀ k, k < 6 → (th k).op = .no) (z : Int) : (S ++ helds th 6).count z = if 0 ≤ z ∧ z < n then 1 else 0 := by
  have h1 := I.cnt z
  rw [List.count_append, helds_count]
  unfold cntT at h1
  have e : (sum6 fun k => (ownT (th k)).count z) = sum6 fun k => (th k).held.count z := by
    simp only [sum6, ownT]
    rw [h 0 (by omega), h 1 (by omega), h 2 (by omega), h 3 (by omega), h 4 (by omega), h 5 (by omega)]
    simp [pend]
  omega
theorem Inv.held_all (I : Inv n th S T M) (z : Int) : (helds th 6).count z ≤ if 0 ≤ z ∧ z < n then 1 else 0 := by
  have h1 := I.cnt z
  rw [helds_count]
  unfold cntT at h1
  have e : (sum6 fun k => (th k).held.count z) ≤ sum6 fun k => (ownT (th k)).count z := by
    unfold sum6 ownT
    simp only [List.count_append]
    omega
  omega
/-- At first. -/
def th0 : Nat → Th := fun _ => ⟨[], .no⟩
theorem inv0 {s : List Int} (h : Stk M s T) (hc : ∀ z, s.count z = if 0 ≤ z ∧ z < n then 1 else 0) : Inv n th0 s T M := by
  refine ⟨h, fun k _ => trivial, fun z => ?_⟩
  simp only [cntT, th0, ownT, pend, sum6, List.append_nil, List.count_nil]
  have := hc z
  omega
/-- The list that is filled. -/
def downS : Nat → List Int
  | 0 => []
  | n + 1 => (n : Int) :: downS n
theorem down_count (n : Nat) (z : Int) : (downS n).count z = if 0 ≤ z ∧ z < n then 1 else 0 := by
  induction n with
  | zero => rw [if_neg (by omega)]; rfl
  | succ n ih =>
    simp only [downS, List.count_cons]
    rw [ih]
    by_cases h : (n : Int) = z
    · subst h
      rw [if_neg (show ¬ (0 ≤ (n : Int) ∧ (n : Int) < n) by omega), if_pos (show 0 ≤ (n : Int) ∧ (n : Int) < ((n + 1 : Nat) : Int) by omega)]
      simp
    · have hb : ((n : Int) == z) = false := by simpa using h
      rw [hb]
      by_cases h1 : 0 ≤ z ∧ z < n
      · rw [if_pos h1, if_pos (show 0 ≤ z ∧ z < ((n + 1 : Nat) : Int) by omega)]; rfl
      · rw [if_neg h1, if_neg (show ¬ (0 ≤ z ∧ z < ((n + 1 : Nat) : Int)) by omega)]; rfl
theorem down_notin (n : Nat) : (n : Int) ∉ downS n := by
  rw [← List.count_eq_zero, down_count, if_neg (by omega)]
end
end Go.Proofs.YtipgidkpjilhoaaDoor
