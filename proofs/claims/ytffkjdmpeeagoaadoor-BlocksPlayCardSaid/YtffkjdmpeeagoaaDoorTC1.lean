/-
  A Join and a Leave alone, in plain words: in how many steps they end, and what they leave; no condition.
-/
import Derived.Test.YtffkjdmpeeagoaaDoorTB1
namespace Go.Proofs.YtffkjdmpeeagoaaDoor
open Go.RowKit Go.Maps

/-- It ends in just so many steps. -/
inductive Ends : TO → MV → Nat → TO → MV → Prop
  | one {o : TO} {M : MV} (h : (tX o M).1.ln = 0) : Ends o M 1 (tX o M).1 (tX o M).2
  | more {o : TO} {M : MV} {n : Nat} {o' : TO} {M' : MV} (h : (tX o M).1.ln ≠ 0) (k : Ends (tX o M).1 (tX o M).2 n o' M') : Ends o M (n + 1) o' M'
theorem Ends.last {o o' o1 : TO} {M M' M1 : MV} (h : tX o M = (o1, M1)) (h0 : o1.ln = 0) (e1 : o1 = o') (e2 : M1 = M') : Ends o M 1 o' M' := by
  subst e1 e2
  have := Ends.one (o := o) (M := M) (by rw [h]; exact h0)
  rw [h] at this
  exact this
theorem Ends.step {o o' o1 : TO} {M M' M1 : MV} {n : Nat} (h : tX o M = (o1, M1)) (h0 : o1.ln ≠ 0) (k : Ends o1 M1 n o' M') : Ends o M (n + 1) o' M' := by
  refine .more (by rw [h]; exact h0) ?_
  rw [h]
  exact k
theorem Ends.st {o o' : TO} {M M' : MV} {n : Nat} (h : Ends o M n o' M') : M'.s.st ≤ M.s.st + n := by
  induction h with
  | @one o M h => have := tX_st o M; push_cast; omega
  | @more o M n o' M' h k ih => have := tX_st o M; push_cast; omega
theorem Ends.pos {o o' : TO} {M M' : MV} {n : Nat} (h : Ends o M n o' M') : 1 ≤ n := by cases h <;> omega
theorem Ends.over {o o' : TO} {M M' : MV} {n : Nat} (h : Ends o M n o' M') : o'.ln = 0 := by
  induction h with
  | one h => exact h
  | more _ _ ih => exact ih
section
variable {ow n i i0 k k0 th t w : Int} {M : MV}
theorem casV_K (h : 0 ≤ i ∧ i < 4) (V : Ad → Int) (u : Int) : casV V (adK i) u = decide (V (adK i) = u) := by unfold casV; rw [mayK h]; rfl
theorem casV_T (h : 0 ≤ t ∧ t < 16) (g : 0 ≤ k ∧ k < 10) (V : Ad → Int) (u : Int) : casV V (adT t k) u = decide (V (adT t k) = u) := by unfold casV; rw [mayT h g]; rfl
/-- A block has room. -/
def Room (V : Ad → Int) (i : Int) : Prop := blkC (V (adK i)) = false ∧ blkN (V (adK i)) < 4
/-- The words that a Join in thread t leaves. -/
structure Took (V V' : Ad → Int) (t ow : Int) : Prop where
  own : V' (adT t 0) = ow
  wiped : ∀ f, 1 ≤ f → f < 10 → V' (adT t f) = 0
  blk : V' (adK (t / 4)) = addW (V (adK (t / 4)))
  far : ∀ x, x ≠ adK (t / 4) → (∀ f, 0 ≤ f → f < 10 → x ≠ adT t f) → V' x = V x
/-- The wiping of a thread. -/
theorem wipe_run (ht : 0 ≤ th ∧ th < 16) (b i w e : Int) (j : Nat) : ∀ (k : Int) (M : MV), 1 ≤ k → k < 10 → (10 - k).toNat = j → ∃ M', Ends ⟨false, 5, th, e, ow, b, i, k, w⟩ M j ⟨false, 0, th, e, ow, b, i, 10, w⟩ M' ∧ (∀ f, k ≤ f → f < 10 → M'.V (adT th f) = 0) ∧ ∀ x, (∀ f, k ≤ f → f < 10 → x ≠ adT th f) → M'.V x = M.V x := by
  induction j with
  | zero => intro k M h1 h2 h3; omega
  | succ j ih =>
    intro k M h1 h2 h3
    by_cases hl : k + 1 = 10
    · obtain rfl : k = 9 := by omega
      obtain rfl : j = 0 := by omega
      refine ⟨stM M (adT th 9) 0, Ends.last (o1 := ⟨false, 0, th, e, ow, b, i, 10, w⟩) rfl rfl rfl rfl, fun f g1 g2 => ?_, fun x hx => ?_⟩
      · obtain rfl : f = 9 := by omega
        exact setV_same (mayT ht (by decide)) 0
      · exact setV_other (hx 9 (by decide) (by decide)) 0
    · obtain ⟨M', h4, h5, h6⟩ := ih (k + 1) (stM M (adT th k) 0) (by omega) (by omega) (by omega)
      refine ⟨M', Ends.step (o1 := ⟨false, 5, th, e, ow, b, i, k + 1, w⟩) (M1 := stM M (adT th k) 0) ?_ (by simp) h4, fun f g1 g2 => ?_, fun x hx => ?_⟩
      · unfold tX joinX
        simp [hl]
      · by_cases hf : f = k
        · subst hf
          rw [h6 _ fun f' a1 a2 => neTT ht ⟨by omega, by omega⟩ ht ⟨by omega, by omega⟩ (.inr (by omega))]
          exact setV_same (mayT ht ⟨by omega, by omega⟩) 0
        · exact h5 f (by omega) g2
      · rw [h6 x fun f a1 a2 => hx f (by omega) a2]
        exact setV_other (hx k (by omega) (by omega)) 0
/-- The taking of the first thread that nobody has. -/
theorem take_run (hi : 0 ≤ i ∧ i < 4) (hk0 : 0 ≤ k0 ∧ k0 < 4) (b w e : Int) {N : Nat} {o' : TO} {V' : Ad → Int} (j : Nat) : ∀ (k : Int) (M : MV), 0 ≤ k → k ≤ k0 → (k0 - k).toNat = j → M.V (adT (4 * i + k0) 0) = 0 → (∀ l, k ≤ l → l < k0 → M.V (adT (4 * i + l) 0) ≠ 0) →
    (∀ M1 : MV, M1.V = setV M.V (adT (4 * i + k0) 0) ow → ∃ M', Ends ⟨false, 5, 4 * i + k0, e, ow, b, i, 1, w⟩ M1 N o' M' ∧ M'.V = V') → ∃ M', Ends ⟨false, 4, th, e, ow, b, i, k, w⟩ M (N + (j + 1)) o' M' ∧ M'.V = V' := by
  induction j with
  | zero =>
    intro k M h0 h1 h2 h3 _ hE
    obtain rfl : k = k0 := by omega
    have hc : casV M.V (adT (4 * i + k) 0) 0 = true := by rw [casV_T ⟨by omega, by omega⟩ (by decide), h3]; rfl
    obtain ⟨M', e1, e2⟩ := hE (csM M (adT (4 * i + k) 0) 0 ow) (show csV M.V _ _ _ = _ by unfold csV; rw [if_pos hc])
    refine ⟨M', Ends.step (o1 := ⟨false, 5, 4 * i + k, e, ow, b, i, 1, w⟩) (M1 := csM M (adT (4 * i + k) 0) 0 ow) ?_ (by simp) e1, e2⟩
    unfold tX joinX
    simp [hc]
  | succ j ih =>
    intro k M h0 h1 h2 h3 h4 hE
    have h5 := h4 k (Int.le_refl _) (by omega)
    have hc : casV M.V (adT (4 * i + k) 0) 0 = false := by rw [casV_T ⟨by omega, by omega⟩ (by decide)]; simpa using h5
    have hV : (csM M (adT (4 * i + k) 0) 0 ow).V = M.V := by show csV M.V _ _ _ = _; unfold csV; rw [hc]; rfl
    obtain ⟨M', e1, e2⟩ := ih (k + 1) (csM M (adT (4 * i + k) 0) 0 ow) (by omega) (by omega) (by omega) (by rw [hV]; exact h3) (fun l g1 g2 => by rw [hV]; exact h4 l (by omega) g2) (fun M1 hM => hE M1 (by rw [hM, hV]))
    refine ⟨M', Ends.step (o1 := ⟨false, 4, th, e, ow, b, i, k + 1, w⟩) (M1 := csM M (adT (4 * i + k) 0) 0 ow) ?_ (by simp) e1, e2⟩
    unfold tX joinX
    have : ¬ k + 1 = 4 := by omega
    simp [hc, this]
/-- The look for the first block with room. -/
theorem look_run (hi0 : 0 ≤ i0 ∧ i0 < n) (e : Int) {N : Nat} {o' : TO} {V' : Ad → Int} (j : Nat) : ∀ (i w : Int) (M : MV), 0 ≤ i → i ≤ i0 → (i0 - i).toNat = j → Room M.V i0 → (∀ l, i ≤ l → l < i0 → ¬ Room M.V l) →
    (∀ M1 : MV, M1.V = M.V → ∃ M', Ends ⟨false, 3, th, e, ow, n, i0, k, M.V (adK i0)⟩ M1 N o' M' ∧ M'.V = V') → ∃ M', Ends ⟨false, 2, th, e, ow, n, i, k, w⟩ M (N + (j + 1)) o' M' ∧ M'.V = V' := by
  induction j with
  | zero =>
    intro i w M h0 h1 h2 h3 _ hE
    obtain rfl : i = i0 := by omega
    obtain ⟨M', e1, e2⟩ := hE (ldM M (adK i)) rfl
    refine ⟨M', Ends.step (o1 := ⟨false, 3, th, e, ow, n, i, k, M.V (adK i)⟩) (M1 := ldM M (adK i)) ?_ (by simp) e1, e2⟩
    unfold tX joinX
    have h3' := h3
    unfold Room at h3'
    simp [h3'.1, h3'.2]
  | succ j ih =>
    intro i w M h0 h1 h2 h3 h4 hE
    have h5 := h4 i (Int.le_refl _) (by omega)
    unfold Room at h5
    obtain ⟨M', e1, e2⟩ := ih (i + 1) (M.V (adK i)) (ldM M (adK i)) (by omega) (by omega) (by omega) h3 (fun l g1 g2 => h4 l (by omega) g2) hE
    refine ⟨M', Ends.step (o1 := ⟨false, 2, th, e, ow, n, i + 1, k, M.V (adK i)⟩) (M1 := ldM M (adK i)) ?_ (by simp) e1, e2⟩
    unfold tX joinX
    have h6 : ¬ i + 1 = n := by omega
    simp only [if_neg (show ¬ (2 : Int) = 1 by decide), if_true, if_neg h5, if_neg h6]
    rfl
/-- A Join alone, where there is room: the first block that has it, and of that the first thread that nobody has. -/
theorem join_alone (hn : 1 ≤ n ∧ n ≤ 4) (hN : M.V adN = n) (how : 0 ≤ ow) (hi0 : 0 ≤ i0 ∧ i0 < n) (hk0 : 0 ≤ k0 ∧ k0 < 4) (hr : Room M.V i0) (hr2 : ∀ l, 0 ≤ l → l < i0 → ¬ Room M.V l) (hf : M.V (adT (4 * i0 + k0) 0) = 0) (hf2 : ∀ l, 0 ≤ l → l < k0 → M.V (adT (4 * i0 + l) 0) ≠ 0) :
    ∃ o' M', Ends (newJ ow) M (13 + i0.toNat + k0.toNat) o' M' ∧ o'.th = 4 * i0 + k0 ∧ o'.e = 0 ∧ Took M.V M'.V (4 * i0 + k0) (ow + 1) := by
  have ht : 0 ≤ 4 * i0 + k0 ∧ 4 * i0 + k0 < 16 := by omega
  have hi : 0 ≤ i0 ∧ i0 < 4 := by omega
  have hd : (4 * i0 + k0) / 4 = i0 := by omega
  have hc : casV M.V (adK i0) (M.V (adK i0)) = true := by rw [casV_K hi]; simp
  have e0 : newJ ow = ⟨false, 1, -1, 0, ow + 1, 0, 0, 0, 0⟩ := by unfold newJ; rw [if_neg (by omega)]
  obtain ⟨Mw, w1, w2, w3⟩ := wipe_run (ow := ow + 1) ht n i0 (M.V (adK i0)) 0 9 1 ⟨setV (setV M.V (adK i0) (addW (M.V (adK i0)))) (adT (4 * i0 + k0) 0) (ow + 1), M.s⟩ (by decide) (by decide) rfl
  have key : ∃ M', Ends ⟨false, 1, -1, 0, ow + 1, 0, 0, 0, 0⟩ M (9 + (k0.toNat + 1) + 1 + (i0.toNat + 1) + 1) ⟨false, 0, 4 * i0 + k0, 0, ow + 1, n, i0, 10, M.V (adK i0)⟩ M' ∧ M'.V = Mw.V := by
    have hL := look_run (th := -1) (ow := ow + 1) (k := 0) hi0 0 (N := 9 + (k0.toNat + 1) + 1) (o' := ⟨false, 0, 4 * i0 + k0, 0, ow + 1, n, i0, 10, M.V (adK i0)⟩) (V' := Mw.V) i0.toNat 0 0 (ldM M adN) (by decide) hi0.1 (by omega) hr hr2 (fun M1 hM1 => ?_)
    · obtain ⟨M', e1, e2⟩ := hL
      refine ⟨M', Ends.step (o1 := ⟨false, 2, -1, 0, ow + 1, n, 0, 0, 0⟩) (M1 := ldM M adN) ?_ (by simp) e1, e2⟩
      unfold tX joinX
      have h1 : ¬ n = 0 := by omega
      have h2 : ¬ 4 < n := by omega
      simp only [if_true, hN, if_neg h1, if_neg h2]
      rfl
    · have hV1 : M1.V = M.V := hM1
      have hc1 : casV M1.V (adK i0) (M.V (adK i0)) = true := by rw [hV1]; exact hc
      have hV2 : (csM M1 (adK i0) (M.V (adK i0)) (addW (M.V (adK i0)))).V = setV M.V (adK i0) (addW (M.V (adK i0))) := by show csV M1.V _ _ _ = _; unfold csV; rw [if_pos hc1, hV1]
      have hT := take_run (th := -1) (ow := ow + 1) (k0 := k0) hi hk0 n (M.V (adK i0)) 0 (N := 9) (o' := ⟨false, 0, 4 * i0 + k0, 0, ow + 1, n, i0, 10, M.V (adK i0)⟩) (V' := Mw.V) k0.toNat 0 (csM M1 (adK i0) (M.V (adK i0)) (addW (M.V (adK i0)))) (by decide) hk0.1 (by omega)
        (by rw [hV2, setV_other (Ne.symm (neKT hi ht (by decide)))]; exact hf) (fun l g1 g2 => by rw [hV2, setV_other (Ne.symm (neKT hi ⟨by omega, by omega⟩ (by decide)))]; exact hf2 l g1 g2) (fun M2 hM2 => ?_)
      · obtain ⟨M', e1, e2⟩ := hT
        refine ⟨M', Ends.step (o1 := ⟨false, 4, -1, 0, ow + 1, n, i0, 0, M.V (adK i0)⟩) (M1 := csM M1 (adK i0) (M.V (adK i0)) (addW (M.V (adK i0)))) ?_ (by simp) e1, e2⟩
        unfold tX joinX
        simp [show (ldM M adN).V = M.V from rfl, hc1]
      · rw [hV2] at hM2
        obtain ⟨M3, x1, x2, x3⟩ := wipe_run (ow := ow + 1) ht n i0 (M.V (adK i0)) 0 9 1 M2 (by decide) (by decide) rfl
        refine ⟨M3, x1, funext fun x => ?_⟩
        by_cases hx : ∀ f, 1 ≤ f → f < 10 → x ≠ adT (4 * i0 + k0) f
        · rw [x3 x hx, w3 x hx, hM2]
        · have hx' : ∃ f, 1 ≤ f ∧ f < 10 ∧ x = adT (4 * i0 + k0) f := by
            apply Classical.byContradiction
            intro hno
            exact hx fun f a1 a2 a3 => hno ⟨f, a1, a2, a3⟩
          obtain ⟨f, a1, a2, rfl⟩ := hx'
          rw [x2 f a1 a2, w2 f a1 a2]
  obtain ⟨M', k1, k2⟩ := key
  refine ⟨_, M', by rw [e0, show 13 + i0.toNat + k0.toNat = 9 + (k0.toNat + 1) + 1 + (i0.toNat + 1) + 1 by omega]; exact k1, rfl, rfl, ?_, ?_, ?_, ?_⟩
  · rw [k2, w3 _ fun f a1 a2 => neTT ht (by decide) ht ⟨by omega, by omega⟩ (.inr (by omega))]
    exact setV_same (mayT ht (by decide)) _
  · intro f a1 a2
    rw [k2, w2 f a1 a2]
  · rw [hd, k2, w3 _ fun f a1 a2 => neKT hi ht ⟨by omega, by omega⟩]
    show setV _ _ _ _ = _
    rw [setV_other (neKT hi ht (by decide)), setV_same (mayK hi)]
  · intro x hx hx2
    rw [hd] at hx
    rw [k2, w3 x fun f a1 a2 => hx2 f (by omega) a2]
    show setV _ _ _ _ = _
    rw [setV_other (hx2 0 (by decide) (by decide)), setV_other hx]
/-- A Join alone, where there is no room. -/
theorem full_alone (hn : 1 ≤ n ∧ n ≤ 4) (hN : M.V adN = n) (how : 0 ≤ ow) (hr : ∀ l, 0 ≤ l → l < n → ¬ Room M.V l) : ∃ o' M', Ends (newJ ow) M (1 + n.toNat) o' M' ∧ o'.th = -1 ∧ o'.e = 5 ∧ M'.V = M.V := by
  have e0 : newJ ow = ⟨false, 1, -1, 0, ow + 1, 0, 0, 0, 0⟩ := by unfold newJ; rw [if_neg (by omega)]
  have key : ∀ (j : Nat) (i w : Int) (M1 : MV), 0 ≤ i → i < n → (n - i).toNat = j + 1 → M1.V = M.V → ∃ o' M', Ends ⟨false, 2, -1, 0, ow + 1, n, i, 0, w⟩ M1 (j + 1) o' M' ∧ o'.th = -1 ∧ o'.e = 5 ∧ M'.V = M.V := by
    intro j
    induction j with
    | zero =>
      intro i w M1 h0 h1 h2 h3
      have h5 := hr i h0 h1
      unfold Room at h5
      rw [← h3] at h5
      have h6 : i + 1 = n := by omega
      refine ⟨⟨false, 0, -1, 5, ow + 1, n, i + 1, 0, M1.V (adK i)⟩, ldM M1 (adK i), Ends.last (o1 := ⟨false, 0, -1, 5, ow + 1, n, i + 1, 0, M1.V (adK i)⟩) (M1 := ldM M1 (adK i)) ?_ rfl rfl rfl, rfl, rfl, h3⟩
      unfold tX joinX
      simp only [if_neg (show ¬ (2 : Int) = 1 by decide), if_true, if_neg h5, if_pos h6]
      rfl
    | succ j ih =>
      intro i w M1 h0 h1 h2 h3
      have h5 := hr i h0 h1
      unfold Room at h5
      rw [← h3] at h5
      have h6 : ¬ i + 1 = n := by omega
      obtain ⟨o', M', e1, e2⟩ := ih (i + 1) (M1.V (adK i)) (ldM M1 (adK i)) (by omega) (by omega) (by omega) h3
      refine ⟨o', M', Ends.step (o1 := ⟨false, 2, -1, 0, ow + 1, n, i + 1, 0, M1.V (adK i)⟩) (M1 := ldM M1 (adK i)) ?_ (by simp) e1, e2⟩
      unfold tX joinX
      simp only [if_neg (show ¬ (2 : Int) = 1 by decide), if_true, if_neg h5, if_neg h6]
      rfl
  obtain ⟨o', M', e1, e2⟩ := key (n.toNat - 1) 0 0 (ldM M adN) (by decide) (by omega) (by omega) rfl
  refine ⟨o', M', ?_, e2⟩
  rw [e0, show 1 + n.toNat = (n.toNat - 1 + 1) + 1 by omega]
  refine Ends.step (o1 := ⟨false, 2, -1, 0, ow + 1, n, 0, 0, 0⟩) (M1 := ldM M adN) ?_ (by simp) e1
  unfold tX joinX
  have h1 : ¬ n = 0 := by omega
  have h2 : ¬ 4 < n := by omega
  simp only [if_true, hN, if_neg h1, if_neg h2]
  rfl
/-- .. where there is no block. -/
theorem none_alone (hN : M.V adN = 0) (how : 0 ≤ ow) : ∃ o' M', Ends (newJ ow) M 1 o' M' ∧ o'.th = -1 ∧ o'.e = 5 ∧ M'.V = M.V := by
  have e0 : newJ ow = ⟨false, 1, -1, 0, ow + 1, 0, 0, 0, 0⟩ := by unfold newJ; rw [if_neg (by omega)]
  rw [e0]
  refine ⟨⟨false, 0, -1, 5, ow + 1, 0, 0, 0, 0⟩, ldM M adN, Ends.last (o1 := ⟨false, 0, -1, 5, ow + 1, 0, 0, 0, 0⟩) (M1 := ldM M adN) ?_ rfl rfl rfl, rfl, rfl, rfl⟩
  unfold tX joinX
  simp only [if_true, if_pos hN]
  rfl
theorem newL_eq (ht : 0 ≤ t ∧ t < 16) : newL t = ⟨true, 1, t, 0, 0, 0, t / 4, 0, 0⟩ := by unfold newL; rw [if_neg (by omega)]
/-- A Leave alone, of a thread that nobody has. -/
theorem nobody_alone (ht : 0 ≤ t ∧ t < 16) (h0 : M.V (adT t 0) = 0) : ∃ o' M', Ends (newL t) M 1 o' M' ∧ o'.e = 6 ∧ M'.V = M.V := by
  rw [newL_eq ht]
  refine ⟨⟨true, 0, t, 6, 0, 0, t / 4, 0, 0⟩, ldM M (adT t 0), Ends.last (o1 := ⟨true, 0, t, 6, 0, 0, t / 4, 0, 0⟩) (M1 := ldM M (adT t 0)) ?_ rfl rfl rfl, rfl, rfl⟩
  unfold tX leaveX
  simp only [if_true, if_pos h0]
/-- .. of one in a guard. -/
theorem inside_alone (ht : 0 ≤ t ∧ t < 16) (h0 : M.V (adT t 0) ≠ 0) (h1 : M.V (adT t 1) ≠ 0) : ∃ o' M', Ends (newL t) M 2 o' M' ∧ o'.e = 4 ∧ M'.V = M.V := by
  rw [newL_eq ht]
  refine ⟨⟨true, 0, t, 4, 0, 0, t / 4, 0, 0⟩, ldM (ldM M (adT t 0)) (adT t 1), Ends.step (o1 := ⟨true, 2, t, 0, 0, 0, t / 4, 0, 0⟩) (M1 := ldM M (adT t 0)) ?_ (by simp) (Ends.last (o1 := ⟨true, 0, t, 4, 0, 0, t / 4, 0, 0⟩) (M1 := ldM (ldM M (adT t 0)) (adT t 1)) ?_ rfl rfl rfl), rfl, rfl⟩
  · unfold tX leaveX
    simp only [if_true, if_neg h0]
  · unfold tX leaveX
    simp only [if_neg (show ¬ (2 : Int) = 1 by decide), if_true]
    rw [if_neg (show ¬ (ldM M (adT t 0)).V (adT t 1) = 0 from h1)]
/-- The words that a Leave of thread t leaves. -/
def leftV (V : Ad → Int) (t : Int) : Ad → Int := setV (setV (setV V (adT t 6) 0) (adT t 0) 0) (adK (t / 4)) (fewW (V (adK (t / 4))))
theorem leave_alone (ht : 0 ≤ t ∧ t < 16) (h0 : M.V (adT t 0) ≠ 0) (h1 : M.V (adT t 1) = 0) : ∃ o' M', Ends (newL t) M 6 o' M' ∧ o'.e = 0 ∧ M'.V = leftV M.V t := by
  have hi : 0 ≤ t / 4 ∧ t / 4 < 4 := by omega
  rw [newL_eq ht]
  obtain ⟨M1, e1⟩ : ∃ M1, M1 = ldM M (adT t 0) := ⟨_, rfl⟩
  obtain ⟨M2, e2⟩ : ∃ M2, M2 = ldM M1 (adT t 1) := ⟨_, rfl⟩
  obtain ⟨M3, e3⟩ : ∃ M3, M3 = stM M2 (adT t 6) 0 := ⟨_, rfl⟩
  obtain ⟨M4, e4⟩ : ∃ M4, M4 = stM M3 (adT t 0) 0 := ⟨_, rfl⟩
  obtain ⟨M5, e5⟩ : ∃ M5, M5 = ldM M4 (adK (t / 4)) := ⟨_, rfl⟩
  have v1 : M1.V = M.V := by rw [e1]; rfl
  have v2 : M2.V = M.V := by rw [e2]; exact v1
  have v3 : M3.V = setV M.V (adT t 6) 0 := by rw [e3]; show setV M2.V _ _ = _; rw [v2]
  have v4 : M4.V = setV (setV M.V (adT t 6) 0) (adT t 0) 0 := by rw [e4]; show setV M3.V _ _ = _; rw [v3]
  have v5 : M5.V = M4.V := by rw [e5]; rfl
  have k4 : M4.V (adK (t / 4)) = M.V (adK (t / 4)) := by rw [v4, setV_other (neKT hi ht (by decide)), setV_other (neKT hi ht (by decide))]
  have hc : casV M5.V (adK (t / 4)) (M.V (adK (t / 4))) = true := by rw [v5, casV_K hi, k4]; simp
  refine ⟨⟨true, 0, t, 0, 0, 0, t / 4, 0, M.V (adK (t / 4))⟩, csM M5 (adK (t / 4)) (M.V (adK (t / 4))) (fewW (M.V (adK (t / 4)))),
    Ends.step (o1 := ⟨true, 2, t, 0, 0, 0, t / 4, 0, 0⟩) (M1 := M1) ?_ (by simp) (Ends.step (o1 := ⟨true, 3, t, 0, 0, 0, t / 4, 0, 0⟩) (M1 := M2) ?_ (by simp) (Ends.step (o1 := ⟨true, 4, t, 0, 0, 0, t / 4, 0, 0⟩) (M1 := M3) ?_ (by simp) (Ends.step (o1 := ⟨true, 5, t, 0, 0, 0, t / 4, 0, 0⟩) (M1 := M4) ?_ (by simp) (Ends.step (o1 := ⟨true, 6, t, 0, 0, 0, t / 4, 0, M.V (adK (t / 4))⟩) (M1 := M5) ?_ (by simp) (Ends.last (o1 := ⟨true, 0, t, 0, 0, 0, t / 4, 0, M.V (adK (t / 4))⟩) (M1 := csM M5 (adK (t / 4)) (M.V (adK (t / 4))) (fewW (M.V (adK (t / 4))))) ?_ rfl rfl rfl))))), rfl, ?_⟩
  · unfold tX leaveX
    simp only [if_true, if_neg h0, e1]
  · unfold tX leaveX
    simp only [if_neg (show ¬ (2 : Int) = 1 by decide), if_true, v1, if_pos h1, e2]
  · unfold tX leaveX
    simp only [if_neg (show ¬ (3 : Int) = 1 by decide), if_neg (show ¬ (3 : Int) = 2 by decide), if_true, e3]
  · unfold tX leaveX
    simp only [if_neg (show ¬ (4 : Int) = 1 by decide), if_neg (show ¬ (4 : Int) = 2 by decide), if_neg (show ¬ (4 : Int) = 3 by decide), if_true, e4]
  · unfold tX leaveX
    simp only [if_neg (show ¬ (5 : Int) = 1 by decide), if_neg (show ¬ (5 : Int) = 2 by decide), if_neg (show ¬ (5 : Int) = 3 by decide), if_neg (show ¬ (5 : Int) = 4 by decide), if_true, k4, e5]
  · unfold tX leaveX
    simp only [if_neg (show ¬ (6 : Int) = 1 by decide), if_neg (show ¬ (6 : Int) = 2 by decide), if_neg (show ¬ (6 : Int) = 3 by decide), if_neg (show ¬ (6 : Int) = 4 by decide), if_neg (show ¬ (6 : Int) = 5 by decide), if_true, hc]
  · show csV M5.V _ _ _ = _
    unfold csV leftV
    rw [if_pos hc, v5, v4]
end
end Go.Proofs.YtffkjdmpeeagoaaDoor
