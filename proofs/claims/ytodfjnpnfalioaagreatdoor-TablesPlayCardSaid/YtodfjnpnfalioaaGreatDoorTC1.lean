/-
  A Join and a Leave alone, in plain words: in how many steps they end, and what they leave; no condition.
  The law's helpers of layer 10: a Join and a Leave alone, a new table, a thread's address; its examples; condition: the tables as laid, the memory lies as it says, numbers of their kinds.
  A table's memory that the call made, and what the law's helpers do to it; the law's examples (lives); condition: the tables as laid, numbers of their kinds.
-/
import Derived.Test.YtodfjnpnfalioaaGreatDoorTB1
import Derived.Test.YtodfjnpnfalioaaGreatDoorTB8
import Derived.OwnWalk
namespace Go.Proofs.YtodfjnpnfalioaaGreatDoor
open Go.RowKit Go.Maps

/-- It ends in just so many steps. -/
inductive Ends : TO → MV → Nat → TO → MV → Prop
  | one {o : TO} {M : MV} (h : (tX o M).1.ln = 0) : Ends o M 1 (tX o M).1 (tX o M).2
  | more {o : TO} {M : MV} {n : Nat} {o' : TO} {M' : MV} (h : (tX o M).1.ln ≠ 0) (k : Ends (tX o M).1 (tX o M).2 n o' M') : Ends o M (n + 1) o' M'
theorem Ends.last {o o' o1 : TO} {M M' M1 : MV} (h : tX o M = (o1, M1)) (h0 : o1.ln = 0) (e1 : o1 = o') (e2 : M1 = M') : Ends o M 1 o' M' := by
  subst e1 e2
  have := Ends.one (o := o) (M := M) (by rw [h]; exact h0)
  rw [h] at this
  exact this
theorem Ends.step {o o' o1 : TO} {M M' M1 : MV} {n : Nat} (h : tX o M = (o1, M1)) (h0 : o1.ln ≠ 0) (k : Ends o1 M1 n o' M') : Ends o M (n + 1) o' M' := by
  refine .more (by rw [h]; exact h0) ?_
  rw [h]
  exact k
theorem Ends.st {o o' : TO} {M M' : MV} {n : Nat} (h : Ends o M n o' M') : M'.s.st ≤ M.s.st + n := by
  induction h with
  | @one o M h => have := tX_st o M; push_cast; omega
  | @more o M n o' M' h k ih => have := tX_st o M; push_cast; omega
theorem Ends.pos {o o' : TO} {M M' : MV} {n : Nat} (h : Ends o M n o' M') : 1 ≤ n := by cases h <;> omega
theorem Ends.over {o o' : TO} {M M' : MV} {n : Nat} (h : Ends o M n o' M') : o'.ln = 0 := by
  induction h with
  | one h => exact h
  | more _ _ ih => exact ih
section
variable {ow n i i0 k k0 th t w : Int} {M : MV}
theorem casV_K (h : 0 ≤ i ∧ i < 4) (V : Ad → Int) (u : Int) : casV V (adK i) u = decide (V (adK i) = u) := by unfold casV; rw [mayK h]; rfl
theorem casV_T (h : 0 ≤ t ∧ t < 16) (g : 0 ≤ k ∧ k < 10) (V : Ad → Int) (u : Int) : casV V (adT t k) u = decide (V (adT t k) = u) := by unfold casV; rw [mayT h g]; rfl
/-- A block has room. -/
def Room (V : Ad → Int) (i : Int) : Prop := blkC (V (adK i)) = false ∧ blkN (V (adK i)) < 4
/-- The words that a Join in thread t leaves. -/
structure Took (V V' : Ad → Int) (t ow : Int) : Prop where
  own : V' (adT t 0) = ow
  wiped : ∀ f, 1 ≤ f → f < 10 → V' (adT t f) = 0
  blk : V' (adK (t / 4)) = addW (V (adK (t / 4)))
  far : ∀ x, x ≠ adK (t / 4) → (∀ f, 0 ≤ f → f < 10 → x ≠ adT t f) → V' x = V x
/-- The wiping of a thread. -/
theorem wipe_run (ht : 0 ≤ th ∧ th < 16) (b i w e : Int) (j : Nat) : ∀ (k : Int) (M : MV), 1 ≤ k → k < 10 → (10 - k).toNat = j → ∃ M', Ends ⟨false, 5, th, e, ow, b, i, k, w⟩ M j ⟨false, 0, th, e, ow, b, i, 10, w⟩ M' ∧ (∀ f, k ≤ f → f < 10 → M'.V (adT th f) = 0) ∧ ∀ x, (∀ f, k ≤ f → f < 10 → x ≠ adT th f) → M'.V x = M.V x := by
  induction j with
  | zero => intro k M h1 h2 h3; omega
  | succ j ih =>
    intro k M h1 h2 h3
    by_cases hl : k + 1 = 10
    · obtain rfl : k = 9 := by omega
      obtain rfl : j = 0 := by omega
      refine ⟨stM M (adT th 9) 0, Ends.last (o1 := ⟨false, 0, th, e, ow, b, i, 10, w⟩) rfl rfl rfl rfl, fun f g1 g2 => ?_, fun x hx => ?_⟩
      · obtain rfl : f = 9 := by omega
        exact setV_same (mayT ht (by decide)) 0
      · exact setV_other (hx 9 (by decide) (by decide)) 0
    · obtain ⟨M', h4, h5, h6⟩ := ih (k + 1) (stM M (adT th k) 0) (by omega) (by omega) (by omega)
      refine ⟨M', Ends.step (o1 := ⟨false, 5, th, e, ow, b, i, k + 1, w⟩) (M1 := stM M (adT th k) 0) ?_ (by simp) h4, fun f g1 g2 => ?_, fun x hx => ?_⟩
      · unfold tX joinX
        simp [hl]
      · by_cases hf : f = k
        · subst hf
          rw [h6 _ fun f' a1 a2 => neTT ht ⟨by omega, by omega⟩ ht ⟨by omega, by omega⟩ (.inr (by omega))]
          exact setV_same (mayT ht ⟨by omega, by omega⟩) 0
        · exact h5 f (by omega) g2
      · rw [h6 x fun f a1 a2 => hx f (by omega) a2]
        exact setV_other (hx k (by omega) (by omega)) 0
/-- The taking of the first thread that nobody has. -/
theorem take_run (hi : 0 ≤ i ∧ i < 4) (hk0 : 0 ≤ k0 ∧ k0 < 4) (b w e : Int) {N : Nat} {o' : TO} {V' : Ad → Int} (j : Nat) : ∀ (k : Int) (M : MV), 0 ≤ k → k ≤ k0 → (k0 - k).toNat = j → M.V (adT (4 * i + k0) 0) = 0 → (∀ l, k ≤ l → l < k0 → M.V (adT (4 * i + l) 0) ≠ 0) →
    (∀ M1 : MV, M1.V = setV M.V (adT (4 * i + k0) 0) ow → ∃ M', Ends ⟨false, 5, 4 * i + k0, e, ow, b, i, 1, w⟩ M1 N o' M' ∧ M'.V = V') → ∃ M', Ends ⟨false, 4, th, e, ow, b, i, k, w⟩ M (N + (j + 1)) o' M' ∧ M'.V = V' := by
  induction j with
  | zero =>
    intro k M h0 h1 h2 h3 _ hE
    obtain rfl : k = k0 := by omega
    have hc : casV M.V (adT (4 * i + k) 0) 0 = true := by rw [casV_T ⟨by omega, by omega⟩ (by decide), h3]; rfl
    obtain ⟨M', e1, e2⟩ := hE (csM M (adT (4 * i + k) 0) 0 ow) (show csV M.V _ _ _ = _ by unfold csV; rw [if_pos hc])
    refine ⟨M', Ends.step (o1 := ⟨false, 5, 4 * i + k, e, ow, b, i, 1, w⟩) (M1 := csM M (adT (4 * i + k) 0) 0 ow) ?_ (by simp) e1, e2⟩
    unfold tX joinX
    simp [hc]
  | succ j ih =>
    intro k M h0 h1 h2 h3 h4 hE
    have h5 := h4 k (Int.le_refl _) (by omega)
    have hc : casV M.V (adT (4 * i + k) 0) 0 = false := by rw [casV_T ⟨by omega, by omega⟩ (by decide)]; simpa using h5
    have hV : (csM M (adT (4 * i + k) 0) 0 ow).V = M.V := by show csV M.V _ _ _ = _; unfold csV; rw [hc]; rfl
    obtain ⟨M', e1, e2⟩ := ih (k + 1) (csM M (adT (4 * i + k) 0) 0 ow) (by omega) (by omega) (by omega) (by rw [hV]; exact h3) (fun l g1 g2 => by rw [hV]; exact h4 l (by omega) g2) (fun M1 hM => hE M1 (by rw [hM, hV]))
    refine ⟨M', Ends.step (o1 := ⟨false, 4, th, e, ow, b, i, k + 1, w⟩) (M1 := csM M (adT (4 * i + k) 0) 0 ow) ?_ (by simp) e1, e2⟩
    unfold tX joinX
    have : ¬ k + 1 = 4 := by omega
    simp [hc, this]
/-- The look for the first block with room. -/
theorem look_run (hi0 : 0 ≤ i0 ∧ i0 < n) (e : Int) {N : Nat} {o' : TO} {V' : Ad → Int} (j : Nat) : ∀ (i w : Int) (M : MV), 0 ≤ i → i ≤ i0 → (i0 - i).toNat = j → Room M.V i0 → (∀ l, i ≤ l → l < i0 → ¬ Room M.V l) →
    (∀ M1 : MV, M1.V = M.V → ∃ M', Ends ⟨false, 3, th, e, ow, n, i0, k, M.V (adK i0)⟩ M1 N o' M' ∧ M'.V = V') → ∃ M', Ends ⟨false, 2, th, e, ow, n, i, k, w⟩ M (N + (j + 1)) o' M' ∧ M'.V = V' := by
  induction j with
  | zero =>
    intro i w M h0 h1 h2 h3 _ hE
    obtain rfl : i = i0 := by omega
    obtain ⟨M', e1, e2⟩ := hE (ldM M (adK i)) rfl
    refine ⟨M', Ends.step (o1 := ⟨false, 3, th, e, ow, n, i, k, M.V (adK i)⟩) (M1 := ldM M (adK i)) ?_ (by simp) e1, e2⟩
    unfold tX joinX
    have h3' := h3
    unfold Room at h3'
    simp [h3'.1, h3'.2]
  | succ j ih =>
    intro i w M h0 h1 h2 h3 h4 hE
    have h5 := h4 i (Int.le_refl _) (by omega)
    unfold Room at h5
    obtain ⟨M', e1, e2⟩ := ih (i + 1) (M.V (adK i)) (ldM M (adK i)) (by omega) (by omega) (by omega) h3 (fun l g1 g2 => h4 l (by omega) g2) hE
    refine ⟨M', Ends.step (o1 := ⟨false, 2, th, e, ow, n, i + 1, k, M.V (adK i)⟩) (M1 := ldM M (adK i)) ?_ (by simp) e1, e2⟩
    unfold tX joinX
    have h6 : ¬ i + 1 = n := by omega
    simp only [if_neg (show ¬ (2 : Int) = 1 by decide), if_true, if_neg h5, if_neg h6]
    rfl
/-- A Join alone, where there is room: the first block that has it, and of that the first thread that nobody has. -/
theorem join_alone (hn : 1 ≤ n ∧ n ≤ 4) (hN : M.V adN = n) (how : 0 ≤ ow) (hi0 : 0 ≤ i0 ∧ i0 < n) (hk0 : 0 ≤ k0 ∧ k0 < 4) (hr : Room M.V i0) (hr2 : ∀ l, 0 ≤ l → l < i0 → ¬ Room M.V l) (hf : M.V (adT (4 * i0 + k0) 0) = 0) (hf2 : ∀ l, 0 ≤ l → l < k0 → M.V (adT (4 * i0 + l) 0) ≠ 0) :
    ∃ o' M', Ends (newJ ow) M (13 + i0.toNat + k0.toNat) o' M' ∧ o'.th = 4 * i0 + k0 ∧ o'.e = 0 ∧ Took M.V M'.V (4 * i0 + k0) (ow + 1) := by
  have ht : 0 ≤ 4 * i0 + k0 ∧ 4 * i0 + k0 < 16 := by omega
  have hi : 0 ≤ i0 ∧ i0 < 4 := by omega
  have hd : (4 * i0 + k0) / 4 = i0 := by omega
  have hc : casV M.V (adK i0) (M.V (adK i0)) = true := by rw [casV_K hi]; simp
  have e0 : newJ ow = ⟨false, 1, -1, 0, ow + 1, 0, 0, 0, 0⟩ := by unfold newJ; rw [if_neg (by omega)]
  obtain ⟨Mw, w1, w2, w3⟩ := wipe_run (ow := ow + 1) ht n i0 (M.V (adK i0)) 0 9 1 ⟨setV (setV M.V (adK i0) (addW (M.V (adK i0)))) (adT (4 * i0 + k0) 0) (ow + 1), M.s⟩ (by decide) (by decide) rfl
  have key : ∃ M', Ends ⟨false, 1, -1, 0, ow + 1, 0, 0, 0, 0⟩ M (9 + (k0.toNat + 1) + 1 + (i0.toNat + 1) + 1) ⟨false, 0, 4 * i0 + k0, 0, ow + 1, n, i0, 10, M.V (adK i0)⟩ M' ∧ M'.V = Mw.V := by
    have hL := look_run (th := -1) (ow := ow + 1) (k := 0) hi0 0 (N := 9 + (k0.toNat + 1) + 1) (o' := ⟨false, 0, 4 * i0 + k0, 0, ow + 1, n, i0, 10, M.V (adK i0)⟩) (V' := Mw.V) i0.toNat 0 0 (ldM M adN) (by decide) hi0.1 (by omega) hr hr2 (fun M1 hM1 => ?_)
    · obtain ⟨M', e1, e2⟩ := hL
      refine ⟨M', Ends.step (o1 := ⟨false, 2, -1, 0, ow + 1, n, 0, 0, 0⟩) (M1 := ldM M adN) ?_ (by simp) e1, e2⟩
      unfold tX joinX
      have h1 : ¬ n = 0 := by omega
      have h2 : ¬ 4 < n := by omega
      simp only [if_true, hN, if_neg h1, if_neg h2]
      rfl
    · have hV1 : M1.V = M.V := hM1
      have hc1 : casV M1.V (adK i0) (M.V (adK i0)) = true := by rw [hV1]; exact hc
      have hV2 : (csM M1 (adK i0) (M.V (adK i0)) (addW (M.V (adK i0)))).V = setV M.V (adK i0) (addW (M.V (adK i0))) := by show csV M1.V _ _ _ = _; unfold csV; rw [if_pos hc1, hV1]
      have hT := take_run (th := -1) (ow := ow + 1) (k0 := k0) hi hk0 n (M.V (adK i0)) 0 (N := 9) (o' := ⟨false, 0, 4 * i0 + k0, 0, ow + 1, n, i0, 10, M.V (adK i0)⟩) (V' := Mw.V) k0.toNat 0 (csM M1 (adK i0) (M.V (adK i0)) (addW (M.V (adK i0)))) (by decide) hk0.1 (by omega)
        (by rw [hV2, setV_other (Ne.symm (neKT hi ht (by decide)))]; exact hf) (fun l g1 g2 => by rw [hV2, setV_other (Ne.symm (neKT hi ⟨by omega, by omega⟩ (by decide)))]; exact hf2 l g1 g2) (fun M2 hM2 => ?_)
      · obtain ⟨M', e1, e2⟩ := hT
        refine ⟨M', Ends.step (o1 := ⟨false, 4, -1, 0, ow + 1, n, i0, 0, M.V (adK i0)⟩) (M1 := csM M1 (adK i0) (M.V (adK i0)) (addW (M.V (adK i0)))) ?_ (by simp) e1, e2⟩
        unfold tX joinX
        simp [show (ldM M adN).V = M.V from rfl, hc1]
      · rw [hV2] at hM2
        obtain ⟨M3, x1, x2, x3⟩ := wipe_run (ow := ow + 1) ht n i0 (M.V (adK i0)) 0 9 1 M2 (by decide) (by decide) rfl
        refine ⟨M3, x1, funext fun x => ?_⟩
        by_cases hx : ∀ f, 1 ≤ f → f < 10 → x ≠ adT (4 * i0 + k0) f
        · rw [x3 x hx, w3 x hx, hM2]
        · have hx' : ∃ f, 1 ≤ f ∧ f < 10 ∧ x = adT (4 * i0 + k0) f := by
            apply Classical.byContradiction
            intro hno
            exact hx fun f a1 a2 a3 => hno ⟨f, a1, a2, a3⟩
          obtain ⟨f, a1, a2, rfl⟩ := hx'
          rw [x2 f a1 a2, w2 f a1 a2]
  obtain ⟨M', k1, k2⟩ := key
  refine ⟨_, M', by rw [e0, show 13 + i0.toNat + k0.toNat = 9 + (k0.toNat + 1) + 1 + (i0.toNat + 1) + 1 by omega]; exact k1, rfl, rfl, ?_, ?_, ?_, ?_⟩
  · rw [k2, w3 _ fun f a1 a2 => neTT ht (by decide) ht ⟨by omega, by omega⟩ (.inr (by omega))]
    exact setV_same (mayT ht (by decide)) _
  · intro f a1 a2
    rw [k2, w2 f a1 a2]
  · rw [hd, k2, w3 _ fun f a1 a2 => neKT hi ht ⟨by omega, by omega⟩]
    show setV _ _ _ _ = _
    rw [setV_other (neKT hi ht (by decide)), setV_same (mayK hi)]
  · intro x hx hx2
    rw [hd] at hx
    rw [k2, w3 x fun f a1 a2 => hx2 f (by omega) a2]
    show setV _ _ _ _ = _
    rw [setV_other (hx2 0 (by decide) (by decide)), setV_other hx]
/-- A Join alone, where there is no room. -/
theorem full_alone (hn : 1 ≤ n ∧ n ≤ 4) (hN : M.V adN = n) (how : 0 ≤ ow) (hr : ∀ l, 0 ≤ l → l < n → ¬ Room M.V l) : ∃ o' M', Ends (newJ ow) M (1 + n.toNat) o' M' ∧ o'.th = -1 ∧ o'.e = 5 ∧ M'.V = M.V := by
  have e0 : newJ ow = ⟨false, 1, -1, 0, ow + 1, 0, 0, 0, 0⟩ := by unfold newJ; rw [if_neg (by omega)]
  have key : ∀ (j : Nat) (i w : Int) (M1 : MV), 0 ≤ i → i < n → (n - i).toNat = j + 1 → M1.V = M.V → ∃ o' M', Ends ⟨false, 2, -1, 0, ow + 1, n, i, 0, w⟩ M1 (j + 1) o' M' ∧ o'.th = -1 ∧ o'.e = 5 ∧ M'.V = M.V := by
    intro j
    induction j with
    | zero =>
      intro i w M1 h0 h1 h2 h3
      have h5 := hr i h0 h1
      unfold Room at h5
      rw [← h3] at h5
      have h6 : i + 1 = n := by omega
      refine ⟨⟨false, 0, -1, 5, ow + 1, n, i + 1, 0, M1.V (adK i)⟩, ldM M1 (adK i), Ends.last (o1 := ⟨false, 0, -1, 5, ow + 1, n, i + 1, 0, M1.V (adK i)⟩) (M1 := ldM M1 (adK i)) ?_ rfl rfl rfl, rfl, rfl, h3⟩
      unfold tX joinX
      simp only [if_neg (show ¬ (2 : Int) = 1 by decide), if_true, if_neg h5, if_pos h6]
      rfl
    | succ j ih =>
      intro i w M1 h0 h1 h2 h3
      have h5 := hr i h0 h1
      unfold Room at h5
      rw [← h3] at h5
      have h6 : ¬ i + 1 = n := by omega
      obtain ⟨o', M', e1, e2⟩ := ih (i + 1) (M1.V (adK i)) (ldM M1 (adK i)) (by omega) (by omega) (by omega) h3
      refine ⟨o', M', Ends.step (o1 := ⟨false, 2, -1, 0, ow + 1, n, i + 1, 0, M1.V (adK i)⟩) (M1 := ldM M1 (adK i)) ?_ (by simp) e1, e2⟩
      unfold tX joinX
      simp only [if_neg (show ¬ (2 : Int) = 1 by decide), if_true, if_neg h5, if_neg h6]
      rfl
  obtain ⟨o', M', e1, e2⟩ := key (n.toNat - 1) 0 0 (ldM M adN) (by decide) (by omega) (by omega) rfl
  refine ⟨o', M', ?_, e2⟩
  rw [e0, show 1 + n.toNat = (n.toNat - 1 + 1) + 1 by omega]
  refine Ends.step (o1 := ⟨false, 2, -1, 0, ow + 1, n, 0, 0, 0⟩) (M1 := ldM M adN) ?_ (by simp) e1
  unfold tX joinX
  have h1 : ¬ n = 0 := by omega
  have h2 : ¬ 4 < n := by omega
  simp only [if_true, hN, if_neg h1, if_neg h2]
  rfl
/-- .. where there is no block. -/
theorem none_alone (hN : M.V adN = 0) (how : 0 ≤ ow) : ∃ o' M', Ends (newJ ow) M 1 o' M' ∧ o'.th = -1 ∧ o'.e = 5 ∧ M'.V = M.V := by
  have e0 : newJ ow = ⟨false, 1, -1, 0, ow + 1, 0, 0, 0, 0⟩ := by unfold newJ; rw [if_neg (by omega)]
  rw [e0]
  refine ⟨⟨false, 0, -1, 5, ow + 1, 0, 0, 0, 0⟩, ldM M adN, Ends.last (o1 := ⟨false, 0, -1, 5, ow + 1, 0, 0, 0, 0⟩) (M1 := ldM M adN) ?_ rfl rfl rfl, rfl, rfl, rfl⟩
  unfold tX joinX
  simp only [if_true, if_pos hN]
  rfl
theorem newL_eq (ht : 0 ≤ t ∧ t < 16) : newL t = ⟨true, 1, t, 0, 0, 0, t / 4, 0, 0⟩ := by unfold newL; rw [if_neg (by omega)]
/-- A Leave alone, of a thread that nobody has. -/
theorem nobody_alone (ht : 0 ≤ t ∧ t < 16) (h0 : M.V (adT t 0) = 0) : ∃ o' M', Ends (newL t) M 1 o' M' ∧ o'.e = 6 ∧ M'.V = M.V := by
  rw [newL_eq ht]
  refine ⟨⟨true, 0, t, 6, 0, 0, t / 4, 0, 0⟩, ldM M (adT t 0), Ends.last (o1 := ⟨true, 0, t, 6, 0, 0, t / 4, 0, 0⟩) (M1 := ldM M (adT t 0)) ?_ rfl rfl rfl, rfl, rfl⟩
  unfold tX leaveX
  simp only [if_true, if_pos h0]
/-- .. of one in a guard. -/
theorem inside_alone (ht : 0 ≤ t ∧ t < 16) (h0 : M.V (adT t 0) ≠ 0) (h1 : M.V (adT t 1) ≠ 0) : ∃ o' M', Ends (newL t) M 2 o' M' ∧ o'.e = 4 ∧ M'.V = M.V := by
  rw [newL_eq ht]
  refine ⟨⟨true, 0, t, 4, 0, 0, t / 4, 0, 0⟩, ldM (ldM M (adT t 0)) (adT t 1), Ends.step (o1 := ⟨true, 2, t, 0, 0, 0, t / 4, 0, 0⟩) (M1 := ldM M (adT t 0)) ?_ (by simp) (Ends.last (o1 := ⟨true, 0, t, 4, 0, 0, t / 4, 0, 0⟩) (M1 := ldM (ldM M (adT t 0)) (adT t 1)) ?_ rfl rfl rfl), rfl, rfl⟩
  · unfold tX leaveX
    simp only [if_true, if_neg h0]
  · unfold tX leaveX
    simp only [if_neg (show ¬ (2 : Int) = 1 by decide), if_true]
    rw [if_neg (show ¬ (ldM M (adT t 0)).V (adT t 1) = 0 from h1)]
/-- The words that a Leave of thread t leaves. -/
def leftV (V : Ad → Int) (t : Int) : Ad → Int := setV (setV (setV V (adT t 6) 0) (adT t 0) 0) (adK (t / 4)) (fewW (V (adK (t / 4))))
theorem leave_alone (ht : 0 ≤ t ∧ t < 16) (h0 : M.V (adT t 0) ≠ 0) (h1 : M.V (adT t 1) = 0) : ∃ o' M', Ends (newL t) M 6 o' M' ∧ o'.e = 0 ∧ M'.V = leftV M.V t := by
  have hi : 0 ≤ t / 4 ∧ t / 4 < 4 := by omega
  rw [newL_eq ht]
  obtain ⟨M1, e1⟩ : ∃ M1, M1 = ldM M (adT t 0) := ⟨_, rfl⟩
  obtain ⟨M2, e2⟩ : ∃ M2, M2 = ldM M1 (adT t 1) := ⟨_, rfl⟩
  obtain ⟨M3, e3⟩ : ∃ M3, M3 = stM M2 (adT t 6) 0 := ⟨_, rfl⟩
  obtain ⟨M4, e4⟩ : ∃ M4, M4 = stM M3 (adT t 0) 0 := ⟨_, rfl⟩
  obtain ⟨M5, e5⟩ : ∃ M5, M5 = ldM M4 (adK (t / 4)) := ⟨_, rfl⟩
  have v1 : M1.V = M.V := by rw [e1]; rfl
  have v2 : M2.V = M.V := by rw [e2]; exact v1
  have v3 : M3.V = setV M.V (adT t 6) 0 := by rw [e3]; show setV M2.V _ _ = _; rw [v2]
  have v4 : M4.V = setV (setV M.V (adT t 6) 0) (adT t 0) 0 := by rw [e4]; show setV M3.V _ _ = _; rw [v3]
  have v5 : M5.V = M4.V := by rw [e5]; rfl
  have k4 : M4.V (adK (t / 4)) = M.V (adK (t / 4)) := by rw [v4, setV_other (neKT hi ht (by decide)), setV_other (neKT hi ht (by decide))]
  have hc : casV M5.V (adK (t / 4)) (M.V (adK (t / 4))) = true := by rw [v5, casV_K hi, k4]; simp
  refine ⟨⟨true, 0, t, 0, 0, 0, t / 4, 0, M.V (adK (t / 4))⟩, csM M5 (adK (t / 4)) (M.V (adK (t / 4))) (fewW (M.V (adK (t / 4)))),
    Ends.step (o1 := ⟨true, 2, t, 0, 0, 0, t / 4, 0, 0⟩) (M1 := M1) ?_ (by simp) (Ends.step (o1 := ⟨true, 3, t, 0, 0, 0, t / 4, 0, 0⟩) (M1 := M2) ?_ (by simp) (Ends.step (o1 := ⟨true, 4, t, 0, 0, 0, t / 4, 0, 0⟩) (M1 := M3) ?_ (by simp) (Ends.step (o1 := ⟨true, 5, t, 0, 0, 0, t / 4, 0, 0⟩) (M1 := M4) ?_ (by simp) (Ends.step (o1 := ⟨true, 6, t, 0, 0, 0, t / 4, 0, M.V (adK (t / 4))⟩) (M1 := M5) ?_ (by simp) (Ends.last (o1 := ⟨true, 0, t, 0, 0, 0, t / 4, 0, M.V (adK (t / 4))⟩) (M1 := csM M5 (adK (t / 4)) (M.V (adK (t / 4))) (fewW (M.V (adK (t / 4))))) ?_ rfl rfl rfl))))), rfl, ?_⟩
  · unfold tX leaveX
    simp only [if_true, if_neg h0, e1]
  · unfold tX leaveX
    simp only [if_neg (show ¬ (2 : Int) = 1 by decide), if_true, v1, if_pos h1, e2]
  · unfold tX leaveX
    simp only [if_neg (show ¬ (3 : Int) = 1 by decide), if_neg (show ¬ (3 : Int) = 2 by decide), if_true, e3]
  · unfold tX leaveX
    simp only [if_neg (show ¬ (4 : Int) = 1 by decide), if_neg (show ¬ (4 : Int) = 2 by decide), if_neg (show ¬ (4 : Int) = 3 by decide), if_true, e4]
  · unfold tX leaveX
    simp only [if_neg (show ¬ (5 : Int) = 1 by decide), if_neg (show ¬ (5 : Int) = 2 by decide), if_neg (show ¬ (5 : Int) = 3 by decide), if_neg (show ¬ (5 : Int) = 4 by decide), if_true, k4, e5]
  · unfold tX leaveX
    simp only [if_neg (show ¬ (6 : Int) = 1 by decide), if_neg (show ¬ (6 : Int) = 2 by decide), if_neg (show ¬ (6 : Int) = 3 by decide), if_neg (show ¬ (6 : Int) = 4 by decide), if_neg (show ¬ (6 : Int) = 5 by decide), if_true, hc]
  · show csV M5.V _ _ _ = _
    unfold csV leftV
    rw [if_pos hc, v5, v4]
end
end Go.Proofs.YtodfjnpnfalioaaGreatDoor
namespace Go.Proofs.YtodfjnpnfalioaaGreatDoor
open Go.RowKit Go.Maps

theorem wrapS {x : Int} (h0 : 0 ≤ x) (h1 : x < 1000) : IntKind.i64.wrap x = x := by simp [IntKind.wrap, IntKind.bits, IntKind.signed]; omega
/-- What a Join or a Leave alone stands at. -/
structure Sole (W : World) (p b q : Nat) (lv : Bool) (o : TO) (M : MV) (w : World) : Prop where
  num : TNum o
  lv : o.lv = lv
  rep : PRep q o w
  mem : VX p b M w
  low : Onl p b [q] W w
  fresh : W.heap.size ≤ q
section
variable {p b q : Nat} {lv : Bool} {ow t : Int} {o o' : TO} {M M' : MV} {W w w' : World} {N : Nat}
theorem Sole.step (S : Sole W p b q lv o M w) (h1 : 1 < W.heap.size) (hs : M.s.st < 1000000) : Calls Tryz.prog (fnS lv) #[.pointer (some ⟨q, 0, none⟩), .pointer (some ⟨p, 0, none⟩)] w fun e w' => e = .returned (.bool ((tX o M).1.ln == 0)) ∧ Sole W p b q lv (tX o M).1 (tX o M).2 w' := by
  have := prg_step (by have := S.fresh; omega) S.mem hs S.num S.rep
  rw [S.lv] at this
  refine this.mono ?_
  rintro e w' ⟨he, R, F, O⟩
  refine ⟨he, S.num.step S.mem.u64, ?_, R, F, S.low.trans O, S.fresh⟩
  rw [← S.lv]
  unfold tX leaveX joinX
  repeat' split
  all_goals rfl
set_option maxRecDepth 100000 in
set_option maxHeartbeats 4000000 in
/-- A Join alone, that ends in N steps. -/
theorem joined_any (ow : Int) (hw : (Lit.int .i64 ow).wf = true) (F : VX p b M W) (hs : M.s.st + 40 < 1000000) (E : Ends (newJ ow) M N o' M') (hN : N ≤ 40) :
    Calls Tryz.prog 15 #[.pointer (some ⟨p, 0, none⟩), .int .i64 ow] W fun e w' => e = .returned (.tuple #[.int .i64 o'.th, .int .i64 o'.e, .int .i64 (N : Int)]) ∧ VX p b M' w' ∧ Onl p b [] W w' := by
  have h1W : 1 < W.heap.size := by have := F.lay.1; have := F.laym.1; omega
  have HF := Lib.hid F
  have HE := Lib.hid E
  clear F E
  go_enter Tryz.func15, Tryz.ntmps15
  go_wp2_with fail
  ((with_reducible refine (newJoin_all ow hw _).mono ?_); rintro e w1 ⟨q, rfl, hq, hk, hb⟩)
  have HS := Lib.hid (show ∃ k : Nat, ∃ o9 M9, k + 1 = 1 ∧ M9.s.st ≤ M.s.st + k ∧ Ends o9 M9 (N - k) o' M' ∧ Sole W p b q false o9 M9 w1 from ⟨0, _, _, rfl, by simp, HE.out, .newJ hw, by unfold newJ; split <;> rfl, hk, HF.out.below hb, .of_below hb, hq⟩)
  clear hq hk hb HF
  go_wp2_with fail
  go_loopw [8] (fun j wr => ∃ i : Nat, i ≤ 40 ∧ j = .int .i64 ((i : Int) + 1) ∧ Hid (∃ o9 M9, M9.s.st ≤ M.s.st + i ∧ i < N ∧ Ends o9 M9 (N - i) o' M' ∧ Sole W p b q false o9 M9 wr)) (fun j _ => 42 - (intOf j).toNat)
  case atStart =>
    have hp := HE.out.pos
    obtain ⟨k, o9, M9, hk, h2, h3, h4⟩ := HS.out
    obtain rfl : k = 0 := by omega
    exact ⟨0, by omega, by go_num, Lib.hid ⟨o9, M9, h2, by omega, h3, h4⟩⟩
  case round =>
    clear HS
    obtain ⟨i, hi, rfl, hr⟩ := hrel
    obtain ⟨o9, M9, h2, hiN, h3, h4⟩ := hr.out
    have hge : (0 : Int) ≤ (i : Int) := by omega
    have hlt : (i : Int) + 1 ≤ 40 := by omega
    have HSS := Lib.hid h4
    have H3 := Lib.hid h3
    have hst := HSS.out.step h1W (by omega)
    have e0 : fnS false = 26 := rfl
    rw [e0] at hst
    clear hr h3 h4 e0
    go_wp2_with fail
    ((with_reducible refine hst.mono ?_); rintro e w3 ⟨rfl, h3⟩)
    have HS3 := Lib.hid h3
    clear h3 hst
    by_cases hin : (tX o9 M9).1.ln = 0
    · have hb : ((tX o9 M9).1.ln == 0) = true := beq_iff_eq.2 hin
      have hfin : N - i = 1 ∧ (tX o9 M9).1 = o' ∧ (tX o9 M9).2 = M' := by
        have h := H3.out
        generalize hn : N - i = n at h
        cases h with
        | one _ => exact ⟨rfl, rfl, rfl⟩
        | more h _ => exact absurd hin h
      have HFI := Lib.hid hfin
      have hgot := gotJ_any HS3.out.num HS3.out.lv HS3.out.rep
      rw [if_pos hin, hfin.2.1] at hgot
      clear hin hfin
      go_wp2_with fail
      ((with_reducible refine hgot.mono ?_); rintro e w4 ⟨rfl, rfl⟩)
      clear hgot
      go_wp2_with fail
      go_ret3
      refine ⟨?_, ?_, HS3.out.low.fresh HS3.out.fresh⟩
      · have : (N : Int) = (i : Int) + 1 := by have := HFI.out.1; omega
        rw [this]
        rfl
      · have := HS3.out.mem
        rw [HFI.out.2.2] at this
        exact this
    · have hb : ((tX o9 M9).1.ln == 0) = false := beq_eq_false_iff_ne.2 hin
      have hnext : ∃ o2 M2, M2.s.st ≤ M.s.st + ((i + 1 : Nat) : Int) ∧ i + 1 < N ∧ Ends o2 M2 (N - (i + 1)) o' M' ∧ Sole W p b q false o2 M2 w3 := by
        have h := H3.out
        have hst := tX_st o9 M9
        generalize hn : N - i = n at h
        cases h with
        | one h => exact absurd h hin
        | @more _ _ n _ _ _ h5 =>
          have hp := h5.pos
          refine ⟨_, _, by push_cast; omega, by omega, ?_, HS3.out⟩
          rw [show N - (i + 1) = n by omega]
          exact h5
      have HR := Lib.hid hnext
      clear hin HSS H3 HS3 hnext
      go_wp2_with fail
      go_roundw
      case rel => exact ⟨i + 1, by omega, by go_num, HR⟩
      case measure => simp [intOf]; omega
set_option maxRecDepth 100000 in
set_option maxHeartbeats 4000000 in
/-- A Leave alone, that ends in N steps. -/
theorem left_any (t : Int) (F : VX p b M W) (hs : M.s.st + 40 < 1000000) (E : Ends (newL t) M N o' M') (hN : N ≤ 40) :
    Calls Tryz.prog 18 #[.pointer (some ⟨p, 0, none⟩), .int .i64 t] W fun e w' => e = .returned (.tuple #[.int .i64 o'.e, .int .i64 (N : Int)]) ∧ VX p b M' w' ∧ Onl p b [] W w' := by
  have h1W : 1 < W.heap.size := by have := F.lay.1; have := F.laym.1; omega
  have HF := Lib.hid F
  have HE := Lib.hid E
  clear F E
  go_enter Tryz.func18, Tryz.ntmps18
  go_wp2_with fail
  ((with_reducible refine (newLeave_all t _).mono ?_); rintro e w1 ⟨q, rfl, hq, hk, hb⟩)
  have HS := Lib.hid (show ∃ k : Nat, ∃ o9 M9, k + 1 = 1 ∧ M9.s.st ≤ M.s.st + k ∧ Ends o9 M9 (N - k) o' M' ∧ Sole W p b q true o9 M9 w1 from ⟨0, _, _, rfl, by simp, HE.out, .newL t, by unfold newL; split <;> rfl, hk, HF.out.below hb, .of_below hb, hq⟩)
  clear hq hk hb HF
  go_wp2_with fail
  go_loopw [7] (fun j wr => ∃ i : Nat, i ≤ 40 ∧ j = .int .i64 ((i : Int) + 1) ∧ Hid (∃ o9 M9, M9.s.st ≤ M.s.st + i ∧ i < N ∧ Ends o9 M9 (N - i) o' M' ∧ Sole W p b q true o9 M9 wr)) (fun j _ => 42 - (intOf j).toNat)
  case atStart =>
    have hp := HE.out.pos
    obtain ⟨k, o9, M9, hk, h2, h3, h4⟩ := HS.out
    obtain rfl : k = 0 := by omega
    exact ⟨0, by omega, by go_num, Lib.hid ⟨o9, M9, h2, by omega, h3, h4⟩⟩
  case round =>
    clear HS
    obtain ⟨i, hi, rfl, hr⟩ := hrel
    obtain ⟨o9, M9, h2, hiN, h3, h4⟩ := hr.out
    have hge : (0 : Int) ≤ (i : Int) := by omega
    have hlt : (i : Int) + 1 ≤ 40 := by omega
    have HSS := Lib.hid h4
    have H3 := Lib.hid h3
    have hst := HSS.out.step h1W (by omega)
    have e0 : fnS true = 23 := rfl
    rw [e0] at hst
    clear hr h3 h4 e0
    go_wp2_with fail
    ((with_reducible refine hst.mono ?_); rintro e w3 ⟨rfl, h3⟩)
    have HS3 := Lib.hid h3
    clear h3 hst
    by_cases hin : (tX o9 M9).1.ln = 0
    · have hb : ((tX o9 M9).1.ln == 0) = true := beq_iff_eq.2 hin
      have hfin : N - i = 1 ∧ (tX o9 M9).1 = o' ∧ (tX o9 M9).2 = M' := by
        have h := H3.out
        generalize hn : N - i = n at h
        cases h with
        | one _ => exact ⟨rfl, rfl, rfl⟩
        | more h _ => exact absurd hin h
      have HFI := Lib.hid hfin
      have hgot := gotL_any HS3.out.num HS3.out.lv HS3.out.rep
      rw [hfin.2.1] at hgot
      clear hin hfin
      go_wp2_with fail
      ((with_reducible refine hgot.mono ?_); rintro e w4 ⟨rfl, rfl⟩)
      clear hgot
      go_wp2_with fail
      go_ret2
      refine ⟨?_, ?_, HS3.out.low.fresh HS3.out.fresh⟩
      · have : (N : Int) = (i : Int) + 1 := by have := HFI.out.1; omega
        rw [this]
        rfl
      · have := HS3.out.mem
        rw [HFI.out.2.2] at this
        exact this
    · have hb : ((tX o9 M9).1.ln == 0) = false := beq_eq_false_iff_ne.2 hin
      have hnext : ∃ o2 M2, M2.s.st ≤ M.s.st + ((i + 1 : Nat) : Int) ∧ i + 1 < N ∧ Ends o2 M2 (N - (i + 1)) o' M' ∧ Sole W p b q true o2 M2 w3 := by
        have h := H3.out
        have hst := tX_st o9 M9
        generalize hn : N - i = n at h
        cases h with
        | one h => exact absurd h hin
        | @more _ _ n _ _ _ h5 =>
          have hp := h5.pos
          refine ⟨_, _, by push_cast; omega, by omega, ?_, HS3.out⟩
          rw [show N - (i + 1) = n by omega]
          exact h5
      have HR := Lib.hid hnext
      clear hin HSS H3 HS3 hnext
      go_wp2_with fail
      go_roundw
      case rel => exact ⟨i + 1, by omega, by go_num, HR⟩
      case measure => simp [intOf]; omega
theorem ofT (t f : Int) (w : World) : Calls Tryz.prog 17 #[.int .i64 t, .int .i64 f] w fun e w' => e = .returned (.agg #[.int .u8 8, .int .i64 t, .int .i64 f]) ∧ Below w.heap.size w w' := by
  go_enter Tryz.func17, Tryz.ntmps17
  go_wp2
  exact bodyPost_ret (v := .agg #[.int .u8 8, .int .i64 t, .int .i64 f]) (by simp [results, Tryz.results17, go_sem]) rfl ⟨rfl, (Below.refl _ _).alloc (Nat.le_refl _) _⟩
/-- The words of a new table. -/
def V0t (n : Int) : Ad → Int := setV (fun _ => 0) adN n
/-- A new memory, of which each word is 0. -/
theorem new_vx (hL : Lay w) (hM : LayM w) : Calls Tryz.prog 19 #[] w fun e w' => ∃ p b M, e = .returned (.pointer (some ⟨p, 0, none⟩)) ∧ VX p b M w' ∧ M.V = (fun _ => 0) ∧ M.s.st = 0 ∧ Below w.heap.size w w' ∧ w.heap.size ≤ b ∧ b < p := by
  refine (new_some w).mono ?_
  rintro e w' ⟨p, b, rfl, hp, hb, h1, h2⟩
  have := hM.1
  have := hL.1
  exact ⟨p, b, ⟨fun _ => 0, ⟨0, 0, 0, 0, 0, 0, 0, false⟩⟩, rfl, ⟨⟨0, _, by decide, rq_nil, hp, fun _ => rfl⟩, hL.below hb, hM.below hb, by omega, by omega⟩, rfl, rfl, hb, h1, h2⟩
set_option maxHeartbeats 4000000 in
theorem table_any (n : Int) (h0 : 0 ≤ n) (h1 : n < 1000) (hL : Lay w) (hM : LayM w) : Calls Tryz.prog 14 #[.int .i64 n] w fun e w' => ∃ p b M, e = .returned (.pointer (some ⟨p, 0, none⟩)) ∧ VX p b M w' ∧ M.V = V0t n ∧ M.s.st ≤ 1 ∧ Below w.heap.size w w' ∧ w.heap.size ≤ b ∧ b < p := by
  have HL := Lib.hid hL
  have HM := Lib.hid hM
  have hw : IntKind.u64.wrap n = n := by simp [IntKind.wrap, IntKind.bits, IntKind.signed]; omega
  have hu : U64 n := ⟨h0, by omega⟩
  clear hL hM
  go_enter Tryz.func14, Tryz.ntmps14
  go_wp2_with fail
  ((with_reducible refine (new_vx HL.out HM.out).mono ?_); rintro e w1 ⟨p, b, M, rfl, F1, hV, hs, hb, h2, h3⟩)
  have HF := Lib.hid F1
  have HB := Lib.hid hb
  have HV := Lib.hid hV
  clear F1 hb hV
  go_wp2_with fail
  ((with_reducible refine (HF.out.stA (by omega) adN_at hu).mono ?_); rintro e w2 ⟨rfl, F2, o2⟩)
  have HF2 := Lib.hid F2
  have HO := Lib.hid o2
  clear F2 o2
  go_wp2_with fail
  go_ret
  refine ⟨p, b, _, rfl, HF2.out, ?_, ?_, ?_, h2, h3⟩
  · show setV M.V adN n = _
    rw [HV.out]; rfl
  · show M.s.st + 1 ≤ 1
    omega
  · exact HB.out.trans ((Onl.of_only (E := []) HO.out).below (by omega) (by omega) (fun x hx => by cases hx) HB.out.size)
/-- Nobody has joined yet. -/
theorem V0t_K {n i : Int} (h : 0 ≤ i ∧ i < 4) : V0t n (adK i) = 0 := setV_other (Ne.symm (neNK h)) n
theorem V0t_T {n t f : Int} (h : 0 ≤ t ∧ t < 16) (g : 0 ≤ f ∧ f < 10) : V0t n (adT t f) = 0 := setV_other (Ne.symm (neNT h g)) n
theorem V0t_N {n : Int} : V0t n adN = n := setV_same mayN n
theorem room_0 : blkC 0 = false ∧ blkN 0 = 0 := ⟨by decide, by decide⟩
theorem fewW_addW {w : Int} (h : blkN w < 4) : fewW (addW w) = blockW (blkN w) (blkC w) := by
  have h0 := (blkN_in w).1
  obtain ⟨e1, e2⟩ := blk_back (blkC w) (j := blkN w + 1) ⟨by omega, by omega⟩
  unfold addW fewW
  rw [e1, e2, if_neg (by omega), show blkN w + 1 - 1 = blkN w by omega]
end
end Go.Proofs.YtodfjnpnfalioaaGreatDoor
namespace Go.Proofs.YtodfjnpnfalioaaGreatDoor
open Go.RowKit Go.Maps

/-- A memory of the call's own, its words, at most so many steps. -/
structure Me (W : World) (p b : Nat) (V : Ad → Int) (k : Int) (w : World) : Prop where
  mem : ∃ M : MV, M.V = V ∧ M.s.st ≤ k ∧ VX p b M w
  low : Below W.heap.size W w
  b0 : W.heap.size ≤ b
  p0 : W.heap.size ≤ p
section
variable {p b : Nat} {V V' : Ad → Int} {k k' n i0 k0 t ow v : Int} {W w w' : World}
theorem Me.mono (h : Me W p b V k w) (hk : k ≤ k') : Me W p b V k' w := by
  obtain ⟨⟨M, h1, h2, h3⟩, a, b, c⟩ := h
  exact ⟨⟨M, h1, by omega, h3⟩, a, b, c⟩
theorem Me.below (h : Me W p b V k w) (hb : Below w.heap.size w w') : Me W p b V k w' := by
  obtain ⟨⟨M, h1, h2, h3⟩, a, b, c⟩ := h
  exact ⟨⟨M, h1, h2, h3.below hb⟩, a.trans (hb.mono a.size), b, c⟩
theorem Me.u64 (h : Me W p b V k w) (x : Ad) : U64 (V x) := by
  obtain ⟨⟨M, h1, h2, h3⟩, _⟩ := h
  rw [← h1]; exact h3.u64 x
theorem Me.lay (h : Me W p b V k w) : Lay w ∧ LayM w := by
  obtain ⟨⟨M, h1, h2, h3⟩, _⟩ := h
  exact ⟨h3.lay, h3.laym⟩
theorem Me.onl {M : MV} (h : Me W p b V k w) (hV : M.V = V') (hs : M.s.st ≤ k') (F : VX p b M w') (o : Onl p b [] w w') : Me W p b V' k' w' :=
  ⟨⟨M, hV, hs, F⟩, h.low.trans (o.below h.p0 h.b0 (fun x hx => by cases hx) h.low.size), h.b0, h.p0⟩
theorem Me.load (h : Me W p b V k w) (hk : k < 900000) {x : Ad} {c a f : Int} (hx : x.k = c ∧ x.a = a ∧ x.f = f) (hv : V x = v) :
    Calls Tryz.prog 16 #[.pointer (some ⟨p, 0, none⟩), .agg #[.int .u8 c, .int .i64 a, .int .i64 f]] w fun e w' => e = .returned (.int .u64 v) ∧ Me W p b V (k + 1) w' := by
  obtain ⟨M, h1, h2, h3⟩ := h.mem
  refine (h3.ldA (v := v) (by omega) hx ((congrFun h1 x).trans hv)).mono ?_
  rintro e w' ⟨rfl, F, o⟩
  exact ⟨rfl, h.onl (M := ldM M x) h1 (by show M.s.st + 1 ≤ _; omega) F (.of_only o)⟩
theorem Me.store (h : Me W p b V k w) (hk : k < 900000) {x : Ad} {c a f : Int} (hx : x.k = c ∧ x.a = a ∧ x.f = f) (hv : U64 v) :
    Calls Tryz.prog 20 #[.pointer (some ⟨p, 0, none⟩), .agg #[.int .u8 c, .int .i64 a, .int .i64 f], .int .u64 v] w fun e w' => e = .returned (.tuple #[]) ∧ Me W p b (setV V x v) (k + 1) w' := by
  obtain ⟨M, h1, h2, h3⟩ := h.mem
  refine (h3.stA (by omega) hx hv).mono ?_
  rintro e w' ⟨rfl, F, o⟩
  exact ⟨rfl, h.onl (M := stM M x v) (by show setV M.V x v = _; rw [h1]) (by show M.s.st + 1 ≤ _; omega) F (.of_only o)⟩
theorem Me.joined {th er nk : Int} {N : Nat} {Q : (Ad → Int) → Prop} (h : Me W p b V k w) (hk : k < 900000) (hw : (Lit.int .i64 ow).wf = true) (hN : N ≤ 40) (hn : (N : Int) = nk) (hE : ∀ M : MV, M.V = V → ∃ o' M', Ends (newJ ow) M N o' M' ∧ o'.th = th ∧ o'.e = er ∧ Q M'.V) :
    Calls Tryz.prog 15 #[.pointer (some ⟨p, 0, none⟩), .int .i64 ow] w fun e w' => e = .returned (.tuple #[.int .i64 th, .int .i64 er, .int .i64 nk]) ∧ ∃ V', Q V' ∧ Me W p b V' (k + 40) w' := by
  obtain ⟨M, h1, h2, h3⟩ := h.mem
  obtain ⟨o', M', e1, rfl, rfl, e4⟩ := hE M h1
  subst hn
  have := e1.st
  refine (joined_any ow hw h3 (by omega) e1 hN).mono ?_
  rintro e w' ⟨rfl, F, o⟩
  exact ⟨rfl, M'.V, e4, h.onl rfl (by omega) F o⟩
theorem Me.left {er nk : Int} {N : Nat} {Q : (Ad → Int) → Prop} (h : Me W p b V k w) (hk : k < 900000) (hN : N ≤ 40) (hn : (N : Int) = nk) (hE : ∀ M : MV, M.V = V → ∃ o' M', Ends (newL t) M N o' M' ∧ o'.e = er ∧ Q M'.V) :
    Calls Tryz.prog 18 #[.pointer (some ⟨p, 0, none⟩), .int .i64 t] w fun e w' => e = .returned (.tuple #[.int .i64 er, .int .i64 nk]) ∧ ∃ V', Q V' ∧ Me W p b V' (k + 40) w' := by
  obtain ⟨M, h1, h2, h3⟩ := h.mem
  obtain ⟨o', M', e1, rfl, e4⟩ := hE M h1
  subst hn
  have := e1.st
  refine (left_any t h3 (by omega) e1 hN).mono ?_
  rintro e w' ⟨rfl, F, o⟩
  exact ⟨rfl, M'.V, e4, h.onl rfl (by omega) F o⟩
theorem Me.took (h : Me W p b V k w) (hk : k < 900000) (hw : (Lit.int .i64 ow).wf = true) (how : 0 ≤ ow) (hn : 1 ≤ n ∧ n ≤ 4) (hN : V adN = n) (hi0 : 0 ≤ i0 ∧ i0 < n) (hk0 : 0 ≤ k0 ∧ k0 < 4) (hr : Room V i0) (hr2 : ∀ l, 0 ≤ l → l < i0 → ¬ Room V l) (hf : V (adT (4 * i0 + k0) 0) = 0) (hf2 : ∀ l, 0 ≤ l → l < k0 → V (adT (4 * i0 + l) 0) ≠ 0) :
    Calls Tryz.prog 15 #[.pointer (some ⟨p, 0, none⟩), .int .i64 ow] w fun e w' => e = .returned (.tuple #[.int .i64 (4 * i0 + k0), .int .i64 0, .int .i64 (13 + i0 + k0)]) ∧ ∃ V', Took V V' (4 * i0 + k0) (ow + 1) ∧ Me W p b V' (k + 40) w' :=
  h.joined (N := 13 + i0.toNat + k0.toNat) hk hw (by omega) (by push_cast; omega) fun M hM => by
    subst hM
    exact join_alone hn hN how hi0 hk0 hr hr2 hf hf2
theorem Me.full (h : Me W p b V k w) (hk : k < 900000) (hw : (Lit.int .i64 ow).wf = true) (how : 0 ≤ ow) (hn : 1 ≤ n ∧ n ≤ 4) (hN : V adN = n) (hr : ∀ l, 0 ≤ l → l < n → ¬ Room V l) :
    Calls Tryz.prog 15 #[.pointer (some ⟨p, 0, none⟩), .int .i64 ow] w fun e w' => e = .returned (.tuple #[.int .i64 (-1), .int .i64 5, .int .i64 (1 + n)]) ∧ Me W p b V (k + 40) w' := by
  refine (h.joined (N := 1 + n.toNat) (th := -1) (er := 5) (nk := 1 + n) (Q := fun X => X = V) hk hw (by omega) (by push_cast; omega) fun M hM => ?_).mono ?_
  · subst hM
    exact full_alone hn hN how hr
  · rintro e w' ⟨rfl, V', rfl, h'⟩
    exact ⟨rfl, h'⟩
theorem Me.noBlock (h : Me W p b V k w) (hk : k < 900000) (hw : (Lit.int .i64 ow).wf = true) (how : 0 ≤ ow) (hN : V adN = 0) :
    Calls Tryz.prog 15 #[.pointer (some ⟨p, 0, none⟩), .int .i64 ow] w fun e w' => e = .returned (.tuple #[.int .i64 (-1), .int .i64 5, .int .i64 1]) ∧ Me W p b V (k + 40) w' := by
  refine (h.joined (N := 1) (th := -1) (er := 5) (nk := 1) (Q := fun X => X = V) hk hw (by omega) rfl fun M hM => ?_).mono ?_
  · subst hM
    exact none_alone hN how
  · rintro e w' ⟨rfl, V', rfl, h'⟩
    exact ⟨rfl, h'⟩
theorem Me.gone (h : Me W p b V k w) (hk : k < 900000) (ht : 0 ≤ t ∧ t < 16) (h0 : V (adT t 0) ≠ 0) (h1 : V (adT t 1) = 0) :
    Calls Tryz.prog 18 #[.pointer (some ⟨p, 0, none⟩), .int .i64 t] w fun e w' => e = .returned (.tuple #[.int .i64 0, .int .i64 6]) ∧ Me W p b (leftV V t) (k + 40) w' := by
  refine (h.left (N := 6) (er := 0) (nk := 6) (Q := fun X => X = leftV V t) hk (by omega) rfl fun M hM => ?_).mono ?_
  · subst hM
    exact leave_alone ht h0 h1
  · rintro e w' ⟨rfl, V', rfl, h'⟩
    exact ⟨rfl, h'⟩
theorem Me.nobody (h : Me W p b V k w) (hk : k < 900000) (ht : 0 ≤ t ∧ t < 16) (h0 : V (adT t 0) = 0) :
    Calls Tryz.prog 18 #[.pointer (some ⟨p, 0, none⟩), .int .i64 t] w fun e w' => e = .returned (.tuple #[.int .i64 6, .int .i64 1]) ∧ Me W p b V (k + 40) w' := by
  refine (h.left (N := 1) (er := 6) (nk := 1) (Q := fun X => X = V) hk (by omega) rfl fun M hM => ?_).mono ?_
  · subst hM
    exact nobody_alone ht h0
  · rintro e w' ⟨rfl, V', rfl, h'⟩
    exact ⟨rfl, h'⟩
theorem Me.inside (h : Me W p b V k w) (hk : k < 900000) (ht : 0 ≤ t ∧ t < 16) (h0 : V (adT t 0) ≠ 0) (h1 : V (adT t 1) ≠ 0) :
    Calls Tryz.prog 18 #[.pointer (some ⟨p, 0, none⟩), .int .i64 t] w fun e w' => e = .returned (.tuple #[.int .i64 4, .int .i64 2]) ∧ Me W p b V (k + 40) w' := by
  refine (h.left (N := 2) (er := 4) (nk := 2) (Q := fun X => X = V) hk (by omega) rfl fun M hM => ?_).mono ?_
  · subst hM
    exact inside_alone ht h0 h1
  · rintro e w' ⟨rfl, V', rfl, h'⟩
    exact ⟨rfl, h'⟩
theorem table_me (n : Int) (h0 : 0 ≤ n) (h1 : n < 1000) (hL : Lay w) (hM : LayM w) : Calls Tryz.prog 14 #[.int .i64 n] w fun e w' => ∃ p b, e = .returned (.pointer (some ⟨p, 0, none⟩)) ∧ Me w p b (V0t n) 1 w' := by
  refine (table_any n h0 h1 hL hM).mono ?_
  rintro e w' ⟨p, b, M, rfl, F, hV, hs, hb, h2, h3⟩
  exact ⟨p, b, rfl, ⟨M, hV, hs, F⟩, hb, h2, by omega⟩
/-- The first two threads of a table of one block. -/
theorem first_took (h : Me W p b (V0t 1) k w) (hk : k < 900000) (hw : (Lit.int .i64 ow).wf = true) (how : 0 ≤ ow) :
    Calls Tryz.prog 15 #[.pointer (some ⟨p, 0, none⟩), .int .i64 ow] w fun e w' => e = .returned (.tuple #[.int .i64 0, .int .i64 0, .int .i64 13]) ∧ ∃ V', Took (V0t 1) V' 0 (ow + 1) ∧ Me W p b V' (k + 40) w' :=
  h.took (n := 1) (i0 := 0) (k0 := 0) hk hw how (by decide) V0t_N (by decide) (by decide) (by unfold Room; rw [V0t_K (by decide)]; exact ⟨room_0.1, by rw [room_0.2]; decide⟩) (fun l h1 h2 => by omega) (V0t_T (by decide) (by decide)) (fun l h1 h2 => by omega)
theorem Took.room {V1 : Ad → Int} (T : Took V V1 t ow) (_ht : 0 ≤ t ∧ t < 16) (h : V (adK (t / 4)) = blockW n false) (hn : 0 ≤ n ∧ n < 100) : V1 (adK (t / 4)) = blockW (n + 1) false := by
  obtain ⟨e1, e2⟩ := blk_back (j := n) false ⟨hn.1, by omega⟩
  rw [T.blk, h]
  unfold addW
  rw [e1, e2]
theorem blockW_0 : blockW 0 false = 0 := by decide
theorem Took.same_T {V1 : Ad → Int} (T : Took V V1 t ow) (ht : 0 ≤ t ∧ t < 16) {t' f : Int} (ht' : 0 ≤ t' ∧ t' < 16) (hf : 0 ≤ f ∧ f < 10) (h : t' ≠ t) : V1 (adT t' f) = V (adT t' f) := T.far _ (Ne.symm (neKT ⟨by omega, by omega⟩ ht' hf)) fun f' h1 h2 => neTT ht' hf ht ⟨h1, h2⟩ (.inl h)
theorem Took.same_N {V1 : Ad → Int} (T : Took V V1 t ow) (ht : 0 ≤ t ∧ t < 16) : V1 adN = V adN := T.far _ (neNK ⟨by omega, by omega⟩) fun f' h1 h2 => neNT ht ⟨h1, h2⟩
theorem Took.same_K {V1 : Ad → Int} (T : Took V V1 t ow) (ht : 0 ≤ t ∧ t < 16) {i : Int} (hi : 0 ≤ i ∧ i < 4) (h : i ≠ t / 4) : V1 (adK i) = V (adK i) := T.far _ (neKK hi ⟨by omega, by omega⟩ h) fun f' h1 h2 => neKT hi ht ⟨h1, h2⟩
theorem left_T (ht : 0 ≤ t ∧ t < 16) : leftV V t (adT t 0) = 0 := by
  unfold leftV
  rw [setV_other (Ne.symm (neKT ⟨by omega, by omega⟩ ht (by decide))), setV_same (mayT ht (by decide))]
theorem left_far (_ht : 0 ≤ t ∧ t < 16) {x : Ad} (h1 : x ≠ adK (t / 4)) (h2 : x ≠ adT t 0) (h3 : x ≠ adT t 6) : leftV V t x = V x := by
  unfold leftV
  rw [setV_other h1, setV_other h2, setV_other h3]
theorem left_K (ht : 0 ≤ t ∧ t < 16) : leftV V t (adK (t / 4)) = fewW (V (adK (t / 4))) := setV_same (mayK ⟨by omega, by omega⟩) _
/-- The chapter's examples. -/
theorem second_took (T : Took (V0t 1) V 0 8) (h : Me W p b V k w) (hk : k < 900000) :
    Calls Tryz.prog 15 #[.pointer (some ⟨p, 0, none⟩), .int .i64 7] w fun e w' => e = .returned (.tuple #[.int .i64 1, .int .i64 0, .int .i64 14]) ∧ ∃ V', (V' (adT 0 0) = 8 ∧ V' (adT 0 1) = 0) ∧ Me W p b V' (k + 40) w' := by
  have hK : V (adK 0) = blockW 1 false := T.room (n := 0) (by decide) (by rw [show (0 : Int) / 4 = 0 from rfl, V0t_K (by decide), blockW_0]) (by decide)
  have hr : Room V 0 := by
    unfold Room
    rw [hK]
    decide
  refine (h.took (n := 1) (i0 := 0) (k0 := 1) (ow := 7) hk (by decide) (by decide) (by decide) ((T.same_N (by decide)).trans V0t_N) (by decide) (by decide) hr (fun l h1 h2 => by omega) ((T.same_T (by decide) (by decide) (by decide) (by decide)).trans (V0t_T (by decide) (by decide))) (fun l h1 h2 => ?_)).mono ?_
  · obtain rfl : l = 0 := by omega
    rw [show 4 * (0 : Int) + 0 = 0 from rfl, T.own]; decide
  · rintro e w' ⟨rfl, V', T2, h2⟩
    refine ⟨rfl, V', ⟨?_, ?_⟩, h2⟩
    · rw [T2.same_T (by decide) (by decide) (by decide) (by decide), T.own]
    · rw [T2.same_T (by decide) (by decide) (by decide) (by decide), T.wiped 1 (by decide) (by decide)]
set_option maxRecDepth 100000 in
set_option maxHeartbeats 4000000 in
theorem lives10_any (hL : Lay W) (hM : LayM W) : Calls Tryz.prog 4 #[] W fun e w' => e = .returned (.bool true) ∧ Below W.heap.size W w' := by
  have HL := Lib.hid hL
  have HM := Lib.hid hM
  clear hL hM
  go_enter Tryz.func4, Tryz.ntmps4
  go_wp2_with fail
  ((with_reducible refine (table_me 1 (by decide) (by decide) HL.out HM.out).mono ?_); rintro e w1 ⟨p, b, rfl, h1⟩)
  have H1 := Lib.hid h1
  clear h1
  go_wp2_with fail
  ((with_reducible refine (first_took (ow := 7) H1.out (by decide) (by decide) (by decide)).mono ?_); rintro e w2 ⟨rfl, V1, T1, h2⟩)
  have HT := Lib.hid T1
  have H2 := Lib.hid h2
  clear T1 h2
  go_wp2_with fail
  ((with_reducible refine (ofT 0 0 _).mono ?_); rintro e w3 ⟨rfl, hb3⟩)
  have H3 := Lib.hid (H2.out.below hb3)
  clear hb3 H2
  go_wp2_with fail
  ((with_reducible refine (H3.out.load (by decide) (adT_at (t := 0) (f := 0) (by decide) (by decide)) HT.out.own).mono ?_); rintro e w4 ⟨rfl, h4⟩)
  have H4 := Lib.hid h4
  clear h4 H3
  go_wp2_with fail
  ((with_reducible refine (second_took HT.out H4.out (by decide)).mono ?_); rintro e w5 ⟨rfl, V2, T2, h5⟩)
  have H5 := Lib.hid h5
  have HV := Lib.hid T2
  clear h5 H4 T2
  go_wp2_with fail
  have h8 : V2 (adT 0 0) ≠ 0 := by rw [HV.out.1]; decide
  ((with_reducible refine (H5.out.gone (by decide) (by decide) h8 HV.out.2).mono ?_); rintro e w6 ⟨rfl, h6⟩)
  have H6 := Lib.hid h6
  clear h6 H5 h8
  go_wp2_with fail
  ((with_reducible refine (H6.out.nobody (by decide) (by decide) (left_T (by decide))).mono ?_); rintro e w7 ⟨rfl, h7⟩)
  have H7 := Lib.hid h7
  clear h7 H6
  go_wp2_with fail
  ((with_reducible refine (table_me 0 (by decide) (by decide) H7.out.lay.1 H7.out.lay.2).mono ?_); rintro e w8 ⟨p2, b2, rfl, h8⟩)
  have H8 := Lib.hid h8
  clear h8
  go_wp2_with fail
  ((with_reducible refine (H8.out.noBlock (ow := 7) (by decide) (by decide) (by decide) V0t_N).mono ?_); rintro e w9 ⟨rfl, h9⟩)
  have H9 := Lib.hid h9
  clear h9
  go_wp2_with fail
  go_ret
  exact ⟨rfl, H7.out.low.trans (H9.out.low.mono H7.out.low.size)⟩
end
end Go.Proofs.YtodfjnpnfalioaaGreatDoor
