/-
  A table in plain words: how many have joined each block; who joins gets the first thread that is free, who leaves makes room for one; no condition.
-/
import Derived.Test.YtodfjnpnfalioaaDoorTC3
namespace Go.Proofs.YtodfjnpnfalioaaDoor
open Go.RowKit Go.Maps

/-- Has somebody the thread? how many of a block. -/
def occ (V : Ad → Int) (t : Int) : Int := if V (adT t 0) = 0 then 0 else 1
def cnt (V : Ad → Int) (i : Int) : Int := occ V (4 * i) + occ V (4 * i + 1) + occ V (4 * i + 2) + occ V (4 * i + 3)
/-- A table of n blocks, block sh of them is closed (n: none is). -/
structure Tab (n sh : Int) (V : Ad → Int) : Prop where
  n14 : 1 ≤ n ∧ n ≤ 4
  s : 0 ≤ sh ∧ sh ≤ n
  N : V adN = n
  K : ∀ i, 0 ≤ i → i < 4 → V (adK i) = blockW (cnt V i) (decide (i = sh ∧ sh < n))
  I : ∀ t, 0 ≤ t → t < 16 → V (adT t 1) = 0
  out : ∀ t, 0 ≤ t → t < 16 → 4 * n ≤ t ∨ t / 4 = sh → V (adT t 0) = 0
/-- A thread that may be joined. -/
def okT' (n sh t : Int) : Prop := 0 ≤ t ∧ t < 4 * n ∧ t / 4 ≠ sh
section
variable {n sh i t ow : Int} {V V' : Ad → Int}
theorem occ_in (V : Ad → Int) (t : Int) : 0 ≤ occ V t ∧ occ V t ≤ 1 := by unfold occ; split <;> omega
theorem occ_0 : occ V t = 0 ↔ V (adT t 0) = 0 := by unfold occ; split <;> simp_all
theorem occ_1 : occ V t = 1 ↔ V (adT t 0) ≠ 0 := by unfold occ; split <;> simp_all
theorem occ_same (h : V' (adT t 0) = V (adT t 0)) : occ V' t = occ V t := by unfold occ; rw [h]
theorem cnt_in (V : Ad → Int) (i : Int) : 0 ≤ cnt V i ∧ cnt V i ≤ 4 := by
  have h0 := occ_in V (4 * i)
  have h1 := occ_in V (4 * i + 1)
  have h2 := occ_in V (4 * i + 2)
  have h3 := occ_in V (4 * i + 3)
  unfold cnt
  omega
theorem Tab.room (T : Tab n sh V) (h0 : 0 ≤ i) (h1 : i < n) : Room V i ↔ i ≠ sh ∧ cnt V i < 4 := by
  have hn := T.n14
  have hs := T.s
  have hc := cnt_in V i
  unfold Room
  obtain ⟨e1, e2⟩ := blk_back (decide (i = sh ∧ sh < n)) (j := cnt V i) ⟨hc.1, by omega⟩
  rw [T.K i h0 (by omega), e1, e2, decide_eq_false_iff_not]
  constructor
  · rintro ⟨h, h2⟩
    exact ⟨fun e => h ⟨e, by omega⟩, h2⟩
  · rintro ⟨h, h2⟩
    exact ⟨fun e => h e.1, h2⟩
theorem first4 (P : Int → Prop) (h : ∃ i, 0 ≤ i ∧ i < 4 ∧ P i) : ∃ i, 0 ≤ i ∧ i < 4 ∧ P i ∧ ∀ l, 0 ≤ l → l < i → ¬ P l := by
  classical
  by_cases h0 : P 0
  · exact ⟨0, by decide, by decide, h0, fun l a b => by omega⟩
  by_cases h1 : P 1
  · exact ⟨1, by decide, by decide, h1, fun l a b => by obtain rfl : l = 0 := by omega
                                                        exact h0⟩
  by_cases h2 : P 2
  · refine ⟨2, by decide, by decide, h2, fun l a b => ?_⟩
    obtain rfl | rfl : l = 0 ∨ l = 1 := by omega
    · exact h0
    · exact h1
  by_cases h3 : P 3
  · refine ⟨3, by decide, by decide, h3, fun l a b => ?_⟩
    obtain rfl | rfl | rfl : l = 0 ∨ l = 1 ∨ l = 2 := by omega
    · exact h0
    · exact h1
    · exact h2
  · obtain ⟨i, a, b, h⟩ := h
    obtain rfl | rfl | rfl | rfl : i = 0 ∨ i = 1 ∨ i = 2 ∨ i = 3 := by omega
    · exact absurd h h0
    · exact absurd h h1
    · exact absurd h h2
    · exact absurd h h3
/-- Of a block with room a thread is free. -/
theorem cnt_free (h : cnt V i < 4) : ∃ k, 0 ≤ k ∧ k < 4 ∧ V (adT (4 * i + k) 0) = 0 := by
  have h0 := occ_in V (4 * i)
  have h1 := occ_in V (4 * i + 1)
  have h2 := occ_in V (4 * i + 2)
  have h3 := occ_in V (4 * i + 3)
  unfold cnt at h
  rcases (show occ V (4 * i) = 0 ∨ occ V (4 * i + 1) = 0 ∨ occ V (4 * i + 2) = 0 ∨ occ V (4 * i + 3) = 0 by omega) with h | h | h | h
  · exact ⟨0, by decide, by decide, by rw [Int.add_zero]; exact occ_0.1 h⟩
  · exact ⟨1, by decide, by decide, occ_0.1 h⟩
  · exact ⟨2, by decide, by decide, occ_0.1 h⟩
  · exact ⟨3, by decide, by decide, occ_0.1 h⟩
/-- The thread that is joined next. -/
theorem Tab.next (T : Tab n sh V) (h : ∃ i, 0 ≤ i ∧ i < n ∧ i ≠ sh ∧ cnt V i < 4) : ∃ i k, (0 ≤ i ∧ i < n) ∧ (0 ≤ k ∧ k < 4) ∧ i ≠ sh ∧ Room V i ∧ (∀ l, 0 ≤ l → l < i → ¬ Room V l) ∧ V (adT (4 * i + k) 0) = 0 ∧ ∀ l, 0 ≤ l → l < k → V (adT (4 * i + l) 0) ≠ 0 := by
  have hn := T.n14
  obtain ⟨i, a, b, ⟨c, d⟩, e⟩ := first4 (fun i => i < n ∧ Room V i) (by
    obtain ⟨i, a, b, c⟩ := h
    exact ⟨i, a, by omega, b, (T.room a b).2 c⟩)
  have hr := (T.room a c).1 d
  obtain ⟨k, f, g, h1, h2⟩ := first4 (fun k => V (adT (4 * i + k) 0) = 0) (cnt_free hr.2)
  exact ⟨i, k, ⟨a, c⟩, ⟨f, g⟩, hr.1, d, fun l x y hl => e l x y ⟨by omega, hl⟩, h1, h2⟩
/-- How many have joined, of all blocks that are open. -/
def tot (n sh : Int) (V : Ad → Int) : Int := (if 0 < n ∧ 0 ≠ sh then cnt V 0 else 0) + (if 1 < n ∧ 1 ≠ sh then cnt V 1 else 0) + (if 2 < n ∧ 2 ≠ sh then cnt V 2 else 0) + (if 3 < n ∧ 3 ≠ sh then cnt V 3 else 0)
def rooms (n sh : Int) : Int := if sh < n then 4 * n - 4 else 4 * n
theorem tot_free (hn : 1 ≤ n ∧ n ≤ 4) (hs : 0 ≤ sh ∧ sh ≤ n) (h : tot n sh V < rooms n sh) : ∃ i, 0 ≤ i ∧ i < n ∧ i ≠ sh ∧ cnt V i < 4 := by
  apply Classical.byContradiction
  intro hno
  have key : ∀ i, 0 ≤ i → i < n → i ≠ sh → ¬ cnt V i < 4 := fun i a b c d => hno ⟨i, a, b, c, d⟩
  have k0 := key 0 (by decide)
  have k1 := key 1 (by decide)
  have k2 := key 2 (by decide)
  have k3 := key 3 (by decide)
  have c0 := cnt_in V 0
  have c1 := cnt_in V 1
  have c2 := cnt_in V 2
  have c3 := cnt_in V 3
  unfold tot rooms at h
  clear hno key
  generalize cnt V 0 = a0 at *
  generalize cnt V 1 = a1 at *
  generalize cnt V 2 = a2 at *
  generalize cnt V 3 = a3 at *
  obtain rfl | rfl | rfl | rfl : n = 1 ∨ n = 2 ∨ n = 3 ∨ n = 4 := by omega
  all_goals (rcases (show sh = 0 ∨ sh = 1 ∨ sh = 2 ∨ sh = 3 ∨ sh = 4 by omega) with rfl | rfl | rfl | rfl | rfl)
  all_goals first | omega | (simp at h k0 k1 k2 k3; omega)
theorem tot_full (hn : 1 ≤ n ∧ n ≤ 4) (hs : 0 ≤ sh ∧ sh ≤ n) (h : rooms n sh ≤ tot n sh V) (h0 : 0 ≤ i) (h1 : i < n) (h2 : i ≠ sh) : cnt V i = 4 := by
  have c0 := cnt_in V 0
  have c1 := cnt_in V 1
  have c2 := cnt_in V 2
  have c3 := cnt_in V 3
  have e : (i = 0 → cnt V i = cnt V 0) ∧ (i = 1 → cnt V i = cnt V 1) ∧ (i = 2 → cnt V i = cnt V 2) ∧ (i = 3 → cnt V i = cnt V 3) := ⟨fun e => by rw [e], fun e => by rw [e], fun e => by rw [e], fun e => by rw [e]⟩
  unfold tot rooms at h
  generalize cnt V i = a at *
  generalize cnt V 0 = a0 at *
  generalize cnt V 1 = a1 at *
  generalize cnt V 2 = a2 at *
  generalize cnt V 3 = a3 at *
  obtain rfl | rfl | rfl | rfl : n = 1 ∨ n = 2 ∨ n = 3 ∨ n = 4 := by omega
  all_goals (rcases (show sh = 0 ∨ sh = 1 ∨ sh = 2 ∨ sh = 3 ∨ sh = 4 by omega) with rfl | rfl | rfl | rfl | rfl)
  all_goals first | omega | (simp at h; omega)
/-- All threads that may be joined are. -/
def Full (n sh : Int) (V : Ad → Int) : Prop := ∀ i, 0 ≤ i → i < n → i ≠ sh → cnt V i = 4
theorem Full.none (T : Tab n sh V) (h : Full n sh V) : ∀ l, 0 ≤ l → l < n → ¬ Room V l := fun l a b hr => by
  have := (T.room a b).1 hr
  have := h l a b this.1
  omega
theorem Full.has (h : Full n sh V) (h0 : 0 ≤ t) (h1 : t < 4 * n) (h2 : t / 4 ≠ sh) : V (adT t 0) ≠ 0 := by
  have hc := h (t / 4) (by omega) (by omega) h2
  have g0 := occ_in V (4 * (t / 4))
  have g1 := occ_in V (4 * (t / 4) + 1)
  have g2 := occ_in V (4 * (t / 4) + 2)
  have g3 := occ_in V (4 * (t / 4) + 3)
  unfold cnt at hc
  rcases (show t = 4 * (t / 4) ∨ t = 4 * (t / 4) + 1 ∨ t = 4 * (t / 4) + 2 ∨ t = 4 * (t / 4) + 3 by omega) with e | e | e | e
  · rw [e]; exact occ_1.1 (by omega)
  · rw [e]; exact occ_1.1 (by omega)
  · rw [e]; exact occ_1.1 (by omega)
  · rw [e]; exact occ_1.1 (by omega)
/-- One thread turns, and its block's word. -/
theorem cnt_turn (_ht : 0 ≤ t ∧ t < 16) (hf : ∀ t', 0 ≤ t' → t' < 16 → t' ≠ t → V' (adT t' 0) = V (adT t' 0)) (hi : 0 ≤ i ∧ i < 4) : cnt V' i = cnt V i + (if i = t / 4 then occ V' t - occ V t else 0) := by
  unfold cnt
  by_cases h : i = t / 4
  · rw [if_pos h]
    have o : ∀ k, 0 ≤ k → k < 4 → 4 * i + k ≠ t → occ V' (4 * i + k) = occ V (4 * i + k) := fun k a b c => occ_same (hf _ (by omega) (by omega) c)
    rcases (show t = 4 * i ∨ t = 4 * i + 1 ∨ t = 4 * i + 2 ∨ t = 4 * i + 3 by omega) with e | e | e | e
    · have a1 := o 1 (by decide) (by decide) (by omega)
      have a2 := o 2 (by decide) (by decide) (by omega)
      have a3 := o 3 (by decide) (by decide) (by omega)
      rw [e]; omega
    · have a1 := o 0 (by decide) (by decide) (by omega)
      have a2 := o 2 (by decide) (by decide) (by omega)
      have a3 := o 3 (by decide) (by decide) (by omega)
      rw [Int.add_zero] at a1
      rw [e]; omega
    · have a1 := o 0 (by decide) (by decide) (by omega)
      have a2 := o 1 (by decide) (by decide) (by omega)
      have a3 := o 3 (by decide) (by decide) (by omega)
      rw [Int.add_zero] at a1
      rw [e]; omega
    · have a1 := o 0 (by decide) (by decide) (by omega)
      have a2 := o 1 (by decide) (by decide) (by omega)
      have a3 := o 2 (by decide) (by decide) (by omega)
      rw [Int.add_zero] at a1
      rw [e]; omega
  · rw [if_neg h]
    have a0 := occ_same (hf (4 * i) (by omega) (by omega) (by omega))
    have a1 := occ_same (hf (4 * i + 1) (by omega) (by omega) (by omega))
    have a2 := occ_same (hf (4 * i + 2) (by omega) (by omega) (by omega))
    have a3 := occ_same (hf (4 * i + 3) (by omega) (by omega) (by omega))
    omega
theorem addW_blk {c : Int} (b : Bool) (h : 0 ≤ c ∧ c < 100) : addW (blockW c b) = blockW (c + 1) b := by
  obtain ⟨e1, e2⟩ := blk_back b (j := c) ⟨h.1, by omega⟩
  unfold addW
  rw [e1, e2]
theorem fewW_blk {c : Int} (b : Bool) (h : 1 ≤ c ∧ c < 100) : fewW (blockW c b) = blockW (c - 1) b := by
  obtain ⟨e1, e2⟩ := blk_back b (j := c) ⟨by omega, by omega⟩
  unfold fewW
  rw [e1, e2, if_neg (by omega)]
/-- Somebody has joined. -/
theorem Tab.took (T : Tab n sh V) (ht : 0 ≤ t ∧ t < 4 * n) (hs : t / 4 ≠ sh) (h0 : V (adT t 0) = 0) (how : 0 < ow) (k : Took V V' t ow) : Tab n sh V' ∧ occ V' t = 1 ∧ (∀ t', 0 ≤ t' → t' < 16 → t' ≠ t → occ V' t' = occ V t') ∧ tot n sh V' = tot n sh V + 1 := by
  have hn := T.n14
  have ht16 : 0 ≤ t ∧ t < 16 := by omega
  have far : ∀ t', 0 ≤ t' → t' < 16 → t' ≠ t → V' (adT t' 0) = V (adT t' 0) := fun t' a b c => k.same_T ht16 ⟨a, b⟩ (by decide) c
  have o1 : occ V' t = 1 := occ_1.2 (by rw [k.own]; omega)
  have o0 : occ V t = 0 := occ_0.2 h0
  have hc : ∀ i, 0 ≤ i → i < 4 → cnt V' i = cnt V i + (if i = t / 4 then 1 else 0) := fun i a b => by
    rw [cnt_turn ht16 far ⟨a, b⟩, o1, o0]; rfl
  refine ⟨⟨hn, T.s, (k.same_N ht16).trans T.N, fun i a b => ?_, fun t' a b => ?_, fun t' a b c => ?_⟩, o1, fun t' a b c => occ_same (far t' a b c), ?_⟩
  · rw [hc i a b]
    by_cases e : i = t / 4
    · rw [if_pos e, e, k.blk, T.K (t / 4) (by omega) (by omega), addW_blk _ (by have := cnt_in V (t / 4); omega)]
    · rw [if_neg e, k.same_K ht16 ⟨a, b⟩ e, T.K i a b, Int.add_zero]
  · by_cases e : t' = t
    · rw [e]; exact k.wiped 1 (by decide) (by decide)
    · rw [k.same_T ht16 ⟨a, b⟩ (by decide) e]; exact T.I t' a b
  · have e : t' ≠ t := fun e => by rw [e] at c; omega
    rw [far t' a b e]; exact T.out t' a b c
  · have h0 := hc 0 (by decide) (by decide)
    have h1 := hc 1 (by decide) (by decide)
    have h2 := hc 2 (by decide) (by decide)
    have h3 := hc 3 (by decide) (by decide)
    unfold tot
    rw [h0, h1, h2, h3]
    rcases (show t / 4 = 0 ∨ t / 4 = 1 ∨ t / 4 = 2 ∨ t / 4 = 3 by omega) with e | e | e | e
    · rw [e, if_pos (show (0 : Int) < n ∧ 0 ≠ sh by omega), if_pos (show (0 : Int) < n ∧ 0 ≠ sh by omega), if_pos (show (0 : Int) = 0 from rfl), if_neg (show ¬ (1 : Int) = 0 by decide), if_neg (show ¬ (2 : Int) = 0 by decide), if_neg (show ¬ (3 : Int) = 0 by decide), Int.add_zero, Int.add_zero, Int.add_zero]; omega
    · rw [e, if_pos (show (1 : Int) < n ∧ 1 ≠ sh by omega), if_pos (show (1 : Int) < n ∧ 1 ≠ sh by omega), if_pos (show (1 : Int) = 1 from rfl), if_neg (show ¬ (0 : Int) = 1 by decide), if_neg (show ¬ (2 : Int) = 1 by decide), if_neg (show ¬ (3 : Int) = 1 by decide), Int.add_zero, Int.add_zero, Int.add_zero]; omega
    · rw [e, if_pos (show (2 : Int) < n ∧ 2 ≠ sh by omega), if_pos (show (2 : Int) < n ∧ 2 ≠ sh by omega), if_pos (show (2 : Int) = 2 from rfl), if_neg (show ¬ (0 : Int) = 2 by decide), if_neg (show ¬ (1 : Int) = 2 by decide), if_neg (show ¬ (3 : Int) = 2 by decide), Int.add_zero, Int.add_zero, Int.add_zero]; omega
    · rw [e, if_pos (show (3 : Int) < n ∧ 3 ≠ sh by omega), if_pos (show (3 : Int) < n ∧ 3 ≠ sh by omega), if_pos (show (3 : Int) = 3 from rfl), if_neg (show ¬ (0 : Int) = 3 by decide), if_neg (show ¬ (1 : Int) = 3 by decide), if_neg (show ¬ (2 : Int) = 3 by decide), Int.add_zero, Int.add_zero, Int.add_zero]; omega
/-- Somebody has left. -/
theorem Tab.left (T : Tab n sh V) (ht : 0 ≤ t ∧ t < 4 * n) (hs : t / 4 ≠ sh) (h0 : V (adT t 0) ≠ 0) : Tab n sh (leftV V t) ∧ leftV V t (adT t 0) = 0 ∧ (∀ t', 0 ≤ t' → t' < 16 → t' ≠ t → leftV V t (adT t' 0) = V (adT t' 0)) ∧ ∀ i, 0 ≤ i → i < 4 → cnt (leftV V t) i = cnt V i - (if i = t / 4 then 1 else 0) := by
  have hn := T.n14
  have ht16 : 0 ≤ t ∧ t < 16 := by omega
  have hi4 : 0 ≤ t / 4 ∧ t / 4 < 4 := by omega
  have far : ∀ t', 0 ≤ t' → t' < 16 → t' ≠ t → leftV V t (adT t' 0) = V (adT t' 0) := fun t' a b c => left_far ht16 (Ne.symm (neKT hi4 ⟨a, b⟩ (by decide))) (neTT ⟨a, b⟩ (by decide) ht16 (by decide) (.inl c)) (neTT ⟨a, b⟩ (by decide) ht16 (by decide) (.inl c))
  have hl := left_T (V := V) ht16
  have hc : ∀ i, 0 ≤ i → i < 4 → cnt (leftV V t) i = cnt V i - (if i = t / 4 then 1 else 0) := fun i a b => by
    rw [cnt_turn ht16 far ⟨a, b⟩, occ_0.2 hl, occ_1.2 h0]
    split <;> omega
  refine ⟨⟨hn, T.s, (left_far ht16 (neNK hi4) (neNT ht16 (by decide)) (neNT ht16 (by decide))).trans T.N, fun i a b => ?_, fun t' a b => ?_, fun t' a b c => ?_⟩, hl, far, hc⟩
  · rw [hc i a b]
    by_cases e : i = t / 4
    · have h4 : 1 ≤ cnt V (t / 4) := by
        have := hc (t / 4) (by omega) (by omega)
        rw [if_pos rfl] at this
        have := (cnt_in (leftV V t) (t / 4)).1
        omega
      rw [if_pos e, e, left_K ht16, T.K (t / 4) (by omega) (by omega), fewW_blk _ ⟨h4, by have := (cnt_in V (t / 4)).2; omega⟩]
    · rw [if_neg e, left_far ht16 (neKK ⟨a, b⟩ hi4 e) (neKT ⟨a, b⟩ ht16 (by decide)) (neKT ⟨a, b⟩ ht16 (by decide)), T.K i a b, Int.sub_zero]
  · rw [left_far ht16 (Ne.symm (neKT hi4 ⟨a, b⟩ (by decide))) (neTT ⟨a, b⟩ (by decide) ht16 (by decide) (.inr (by decide))) (neTT ⟨a, b⟩ (by decide) ht16 (by decide) (.inr (by decide)))]
    exact T.I t' a b
  · have e : t' ≠ t := fun e => by rw [e] at c; omega
    rw [far t' a b e]; exact T.out t' a b c
/-- What others store behind the guards of threads changes nothing of it. -/
def Dirt (V V' : Ad → Int) : Prop := ∀ x, (∀ t f, 0 ≤ t → t < 16 → 2 ≤ f → f < 10 → x ≠ adT t f) → V' x = V x
theorem Dirt.refl (V : Ad → Int) : Dirt V V := fun _ _ => rfl
theorem Dirt.set (d : Dirt V V') {f v : Int} (ht : 0 ≤ t ∧ t < 16) (hf : 2 ≤ f ∧ f < 10) : Dirt V (setV V' (adT t f) v) := fun x hx => by
  rw [setV_other (hx t f ht.1 ht.2 hf.1 hf.2)]
  exact d x hx
theorem Dirt.T (d : Dirt V V') {f : Int} (ht : 0 ≤ t ∧ t < 16) (hf : 0 ≤ f ∧ f < 2) : V' (adT t f) = V (adT t f) := d _ fun t' f' a b c e => neTT ht ⟨by omega, by omega⟩ ⟨a, b⟩ ⟨by omega, by omega⟩ (.inr (by omega))
theorem Dirt.K (d : Dirt V V') (hi : 0 ≤ i ∧ i < 4) : V' (adK i) = V (adK i) := d _ fun t' f' a b c e => neKT hi ⟨a, b⟩ ⟨by omega, by omega⟩
theorem Dirt.cnt (d : Dirt V V') (hi : 0 ≤ i ∧ i < 4) : cnt V' i = cnt V i := by
  unfold Go.Proofs.YtodfjnpnfalioaaDoor.cnt
  rw [occ_same (d.T (t := 4 * i) (f := 0) (by omega) (by decide)), occ_same (d.T (t := 4 * i + 1) (f := 0) (by omega) (by decide)), occ_same (d.T (t := 4 * i + 2) (f := 0) (by omega) (by decide)), occ_same (d.T (t := 4 * i + 3) (f := 0) (by omega) (by decide))]
theorem Dirt.tab (d : Dirt V V') (T : Tab n sh V) : Tab n sh V' ∧ tot n sh V' = tot n sh V := by
  refine ⟨⟨T.n14, T.s, (d _ fun t' f' a b c e => neNT ⟨a, b⟩ ⟨by omega, by omega⟩).trans T.N, fun i a b => by rw [d.K ⟨a, b⟩, d.cnt ⟨a, b⟩]; exact T.K i a b, fun t a b => by rw [d.T ⟨a, b⟩ (by decide)]; exact T.I t a b, fun t a b c => by rw [d.T ⟨a, b⟩ (by decide)]; exact T.out t a b c⟩, ?_⟩
  unfold tot
  rw [d.cnt (i := 0) (by decide), d.cnt (i := 1) (by decide), d.cnt (i := 2) (by decide), d.cnt (i := 3) (by decide)]
/-- A new table. -/
theorem Tab.new (hn : 1 ≤ n ∧ n ≤ 4) : Tab n n (V0t n) ∧ tot n n (V0t n) = 0 := by
  have o : ∀ t, 0 ≤ t → t < 16 → occ (V0t n) t = 0 := fun t a b => occ_0.2 (V0t_T ⟨a, b⟩ (by decide))
  have c : ∀ i, 0 ≤ i → i < 4 → cnt (V0t n) i = 0 := fun i a b => by
    unfold cnt
    rw [o _ (by omega) (by omega), o _ (by omega) (by omega), o _ (by omega) (by omega), o _ (by omega) (by omega)]
    rfl
  refine ⟨⟨hn, ⟨by omega, Int.le_refl _⟩, V0t_N, fun i a b => ?_, fun t a b => V0t_T ⟨a, b⟩ (by decide), fun t a b _ => V0t_T ⟨a, b⟩ (by decide)⟩, ?_⟩
  · rw [V0t_K ⟨a, b⟩, c i a b, decide_eq_false (by omega)]
    exact blockW_0.symm
  · unfold tot
    rw [c 0 (by decide) (by decide), c 1 (by decide) (by decide), c 2 (by decide) (by decide), c 3 (by decide) (by decide)]
    simp
theorem Tab.shut (hn : 1 ≤ n ∧ n ≤ 4) (hs : 0 ≤ sh ∧ sh < n) : Tab n sh (setV (V0t n) (adK sh) (blockW 0 true)) ∧ tot n sh (setV (V0t n) (adK sh) (blockW 0 true)) = 0 := by
  have hs4 : 0 ≤ sh ∧ sh < 4 := by omega
  have tt : ∀ t f, 0 ≤ t → t < 16 → 0 ≤ f → f < 10 → setV (V0t n) (adK sh) (blockW 0 true) (adT t f) = 0 := fun t f a b c d => by
    rw [setV_other (Ne.symm (neKT hs4 ⟨a, b⟩ ⟨c, d⟩))]; exact V0t_T ⟨a, b⟩ ⟨c, d⟩
  have o : ∀ t, 0 ≤ t → t < 16 → occ (setV (V0t n) (adK sh) (blockW 0 true)) t = 0 := fun t a b => occ_0.2 (tt t 0 a b (by decide) (by decide))
  have c : ∀ i, 0 ≤ i → i < 4 → cnt (setV (V0t n) (adK sh) (blockW 0 true)) i = 0 := fun i a b => by
    unfold cnt
    rw [o _ (by omega) (by omega), o _ (by omega) (by omega), o _ (by omega) (by omega), o _ (by omega) (by omega)]
    rfl
  refine ⟨⟨hn, by omega, (setV_other (neNK hs4) _).trans V0t_N, fun i a b => ?_, fun t a b => tt t 1 a b (by decide) (by decide), fun t a b _ => tt t 0 a b (by decide) (by decide)⟩, ?_⟩
  · rw [c i a b]
    by_cases e : i = sh
    · subst e
      rw [setV_same (mayK hs4), decide_eq_true (show i = i ∧ i < n from ⟨rfl, hs.2⟩)]
    · rw [setV_other (neKK ⟨a, b⟩ hs4 e), V0t_K ⟨a, b⟩, decide_eq_false (fun h => e h.1)]
      exact blockW_0.symm
  · unfold tot
    rw [c 0 (by decide) (by decide), c 1 (by decide) (by decide), c 2 (by decide) (by decide), c 3 (by decide) (by decide)]
    simp
end
end Go.Proofs.YtodfjnpnfalioaaDoor
