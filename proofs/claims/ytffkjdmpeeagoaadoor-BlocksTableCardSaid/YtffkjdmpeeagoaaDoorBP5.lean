/-
  A More and a Less alone, in plain words: in how many steps they end, and what they leave; no condition.
-/
import Derived.Test.YtffkjdmpeeagoaaDoorBP4
namespace Go.Proofs.YtffkjdmpeeagoaaDoor
open Go.RowKit Go.Maps

/-- It ends in just so many steps. -/
inductive EndsK : BO → MV → Nat → BO → MV → Prop
  | one {o : BO} {M : MV} (h : (kX o M).1.ln = 0) : EndsK o M 1 (kX o M).1 (kX o M).2
  | more {o : BO} {M : MV} {n : Nat} {o' : BO} {M' : MV} (h : (kX o M).1.ln ≠ 0) (k : EndsK (kX o M).1 (kX o M).2 n o' M') : EndsK o M (n + 1) o' M'
theorem EndsK.last {o o' o1 : BO} {M M' M1 : MV} (h : kX o M = (o1, M1)) (h0 : o1.ln = 0) (e1 : o1 = o') (e2 : M1 = M') : EndsK o M 1 o' M' := by
  subst e1 e2
  have := EndsK.one (o := o) (M := M) (by rw [h]; exact h0)
  rw [h] at this
  exact this
theorem EndsK.step {o o' o1 : BO} {M M' M1 : MV} {n : Nat} (h : kX o M = (o1, M1)) (h0 : o1.ln ≠ 0) (k : EndsK o1 M1 n o' M') : EndsK o M (n + 1) o' M' := by
  refine .more (by rw [h]; exact h0) ?_
  rw [h]
  exact k
theorem EndsK.st {o o' : BO} {M M' : MV} {n : Nat} (h : EndsK o M n o' M') : M'.s.st ≤ M.s.st + n := by
  induction h with
  | @one o M h => have := kX_st o M; push_cast; omega
  | @more o M n o' M' h k ih => have := kX_st o M; push_cast; omega
theorem EndsK.pos {o o' : BO} {M M' : MV} {n : Nat} (h : EndsK o M n o' M') : 1 ≤ n := by cases h <;> omega
theorem EndsK.over {o o' : BO} {M M' : MV} {n : Nat} (h : EndsK o M n o' M') : o'.ln = 0 := by
  induction h with
  | one h => exact h
  | more _ _ ih => exact ih
theorem kX_m (a b c : Int) (M : MV) : kX ⟨false, a, b, c⟩ M = moreX ⟨false, a, b, c⟩ M := rfl
theorem kX_l (a b c : Int) (M : MV) : kX ⟨true, a, b, c⟩ M = lessX ⟨true, a, b, c⟩ M := rfl
section
variable {n i : Int} {M : MV} {V : Ad → Int}
/-- What a More, a Less leaves. -/
def moreV (V : Ad → Int) (n : Int) : Ad → Int := if V (adK n) = cldW then setV (setV V adN (n + 1)) (adK n) opnW else setV V adN (n + 1)
def lessV (V : Ad → Int) (n : Int) : Ad → Int := setV (setV V (adK (n - 1)) cldW) adN (n - 1)
theorem more_alone (hn : 1 ≤ n ∧ n < 4) (hN : M.V adN = n) : ∃ o' M', EndsK (newB false) M 3 o' M' ∧ o'.e = 0 ∧ M'.V = moreV M.V n := by
  have hm : 0 ≤ n ∧ n < 4 := by omega
  obtain ⟨M1, e1⟩ : ∃ M1, M1 = ldM M adN := ⟨_, rfl⟩
  have v1 : M1.V = M.V := by rw [e1]; rfl
  have hc : casV M1.V adN n = true := by rw [casV_may mayN, v1, hN]; simp
  obtain ⟨M2, e2⟩ : ∃ M2, M2 = csM M1 adN n (n + 1) := ⟨_, rfl⟩
  have v2 : M2.V = setV M.V adN (n + 1) := by rw [e2]; show csV M1.V _ _ _ = _; rw [csV_yes hc, v1]
  obtain ⟨M3, e3⟩ : ∃ M3, M3 = csM M2 (adK n) cldW opnW := ⟨_, rfl⟩
  have hK : M2.V (adK n) = M.V (adK n) := by rw [v2]; exact setV_other (Ne.symm (neNK hm)) _
  refine ⟨⟨false, 0, 0, n⟩, M3, EndsK.step (o1 := ⟨false, 2, 0, n⟩) (M1 := M1) ?_ (by simp) (EndsK.step (o1 := ⟨false, 3, 0, n⟩) (M1 := M2) ?_ (by simp) (EndsK.last (o1 := ⟨false, 0, 0, n⟩) (M1 := M3) ?_ rfl rfl rfl)), rfl, ?_⟩
  · rw [e1]
    unfold newB
    rw [kX_m]
    unfold moreX
    simp only [if_true, hN, if_neg (show ¬ 4 ≤ n by omega)]
  · rw [e2]
    rw [kX_m]
    unfold moreX
    simp only [if_neg (show ¬ (2 : Int) = 1 by decide), if_true, hc]
  · rw [e3]
    rw [kX_m]
    unfold moreX
    simp only [if_neg (show ¬ (3 : Int) = 1 by decide), if_neg (show ¬ (3 : Int) = 2 by decide), if_true]
  · rw [e3]
    show csV M2.V _ _ _ = _
    unfold moreV
    have hcas := casV_K hm M2.V cldW
    rw [hK] at hcas
    split
    · rename_i h
      rw [csV_yes (by rw [hcas, h]; simp), v2]
    · rename_i h
      rw [csV_no (by rw [hcas]; simpa using h), v2]
theorem more_full (hn : 4 ≤ n) (hN : M.V adN = n) : ∃ o' M', EndsK (newB false) M 1 o' M' ∧ o'.e = 5 ∧ M'.V = M.V := by
  refine ⟨⟨false, 0, 5, n⟩, ldM M adN, EndsK.last (o1 := ⟨false, 0, 5, n⟩) (M1 := ldM M adN) ?_ rfl rfl rfl, rfl, rfl⟩
  unfold newB
  rw [kX_m]
  unfold moreX
  simp only [if_true, hN, if_pos hn]
theorem less_one (hn : n ≤ 1) (hN : M.V adN = n) : ∃ o' M', EndsK (newB true) M 1 o' M' ∧ o'.e = 4 ∧ M'.V = M.V := by
  refine ⟨⟨true, 0, 4, n⟩, ldM M adN, EndsK.last (o1 := ⟨true, 0, 4, n⟩) (M1 := ldM M adN) ?_ rfl rfl rfl, rfl, rfl⟩
  unfold newB
  rw [kX_l]
  unfold lessX
  simp only [if_true, hN, if_pos hn]
theorem less_alone (hn : 2 ≤ n ∧ n ≤ 4) (hN : M.V adN = n) (ho : M.V (adK (n - 1)) = opnW) : ∃ o' M', EndsK (newB true) M 3 o' M' ∧ o'.e = 0 ∧ M'.V = lessV M.V n := by
  have hm : 0 ≤ n - 1 ∧ n - 1 < 4 := by omega
  obtain ⟨M1, e1⟩ : ∃ M1, M1 = ldM M adN := ⟨_, rfl⟩
  have v1 : M1.V = M.V := by rw [e1]; rfl
  have hc : casV M1.V (adK (n - 1)) opnW = true := by rw [casV_K hm, v1, ho]; simp
  obtain ⟨M2, e2⟩ : ∃ M2, M2 = csM M1 (adK (n - 1)) opnW cldW := ⟨_, rfl⟩
  have v2 : M2.V = setV M.V (adK (n - 1)) cldW := by rw [e2]; show csV M1.V _ _ _ = _; rw [csV_yes hc, v1]
  have hc2 : casV M2.V adN n = true := by rw [casV_may mayN, v2, setV_other (neNK hm), hN]; simp
  obtain ⟨M3, e3⟩ : ∃ M3, M3 = csM M2 adN n (n - 1) := ⟨_, rfl⟩
  have v3 : M3.V = lessV M.V n := by rw [e3]; show csV M2.V _ _ _ = _; rw [csV_yes hc2, v2]; rfl
  refine ⟨⟨true, 0, 0, n⟩, M3, EndsK.step (o1 := ⟨true, 2, 0, n⟩) (M1 := M1) ?_ (by simp) (EndsK.step (o1 := ⟨true, 3, 0, n⟩) (M1 := M2) ?_ (by simp) (EndsK.last (o1 := ⟨true, 0, 0, n⟩) (M1 := M3) ?_ rfl rfl rfl)), rfl, v3⟩
  · rw [e1]
    unfold newB
    rw [kX_l]
    unfold lessX
    simp only [if_true, hN, if_neg (show ¬ n ≤ 1 by omega), if_neg (show ¬ 4 < n by omega)]
  · rw [e2]
    rw [kX_l]
    unfold lessX
    simp only [if_neg (show ¬ (2 : Int) = 1 by decide), if_true, hc]
  · rw [e3]
    rw [kX_l]
    unfold lessX
    simp only [if_neg (show ¬ (3 : Int) = 1 by decide), if_neg (show ¬ (3 : Int) = 2 by decide), if_true, hc2]
theorem less_busy (hn : 2 ≤ n ∧ n ≤ 4) (hN : M.V adN = n) (ho : M.V (adK (n - 1)) ≠ opnW) : ∃ o' M', EndsK (newB true) M 2 o' M' ∧ o'.e = 7 ∧ M'.V = M.V := by
  have hm : 0 ≤ n - 1 ∧ n - 1 < 4 := by omega
  obtain ⟨M1, e1⟩ : ∃ M1, M1 = ldM M adN := ⟨_, rfl⟩
  have v1 : M1.V = M.V := by rw [e1]; rfl
  have hc : casV M1.V (adK (n - 1)) opnW = false := by rw [casV_K hm, v1]; simpa using ho
  refine ⟨⟨true, 0, 7, n⟩, csM M1 (adK (n - 1)) opnW cldW, EndsK.step (o1 := ⟨true, 2, 0, n⟩) (M1 := M1) ?_ (by simp) (EndsK.last (o1 := ⟨true, 0, 7, n⟩) (M1 := csM M1 (adK (n - 1)) opnW cldW) ?_ rfl rfl rfl), rfl, ?_⟩
  · rw [e1]
    unfold newB
    rw [kX_l]
    unfold lessX
    simp only [if_true, hN, if_neg (show ¬ n ≤ 1 by omega), if_neg (show ¬ 4 < n by omega)]
  · rw [kX_l]
    unfold lessX
    simp only [if_neg (show ¬ (2 : Int) = 1 by decide), if_true, if_neg (show ¬ casV M1.V (adK (n - 1)) opnW = true by rw [hc]; decide)]
  · show csV M1.V _ _ _ = _
    rw [csV_no hc, v1]
/-- A table that nobody joins: so many blocks, open; those beyond are closed or never were. -/
structure Row11 (n : Int) (V : Ad → Int) : Prop where
  n14 : 1 ≤ n ∧ n ≤ 4
  N : V adN = n
  here : ∀ i, 0 ≤ i → i < n → V (adK i) = opnW
  gone : ∀ i, n ≤ i → i < 4 → V (adK i) = opnW ∨ V (adK i) = cldW
theorem Row11.first (h : 1 ≤ n ∧ n ≤ 4) (hN : V adN = n) (hz : ∀ x, x ≠ adN → V x = 0) : Row11 n V := by
  have e0 : (0 : Int) = opnW := by unfold opnW; decide
  have hK : ∀ i, 0 ≤ i → i < 4 → V (adK i) = opnW := fun i g0 g1 => by rw [hz _ (Ne.symm (neNK ⟨g0, g1⟩))]; exact e0
  exact ⟨h, hN, fun i g0 g1 => hK i g0 (by omega), fun i g0 g1 => .inl (hK i (by omega) g1)⟩
theorem Row11.more (R : Row11 n V) (h : n < 4) : Row11 (n + 1) (moreV V n) := by
  have hn := R.n14
  have hm : 0 ≤ n ∧ n < 4 := by omega
  have hK : ∀ i, 0 ≤ i → i < 4 → i ≠ n → moreV V n (adK i) = V (adK i) := fun i g0 g1 g => by
    unfold moreV
    split
    · rw [setV_other (neKK ⟨g0, g1⟩ hm g), setV_other (Ne.symm (neNK ⟨g0, g1⟩))]
    · rw [setV_other (Ne.symm (neNK ⟨g0, g1⟩))]
  refine ⟨by omega, ?_, fun i g0 g1 => ?_, fun i g0 g1 => ?_⟩
  · unfold moreV
    split
    · rw [setV_other (neNK hm), setV_same mayN]
    · rw [setV_same mayN]
  · by_cases g : i = n
    · rw [g]
      unfold moreV
      split
      · exact setV_same (mayK hm) _
      · rename_i hc
        rw [setV_other (Ne.symm (neNK hm))]
        rcases R.gone n (Int.le_refl _) h with hw | hw
        · exact hw
        · exact absurd hw hc
    · rw [hK i g0 (by omega) g]
      exact R.here i g0 (by omega)
  · rw [hK i (by omega) g1 (by omega)]
    exact R.gone i (by omega) g1
theorem Row11.less (R : Row11 n V) (h : 1 < n) : Row11 (n - 1) (lessV V n) := by
  have hn := R.n14
  have hm : 0 ≤ n - 1 ∧ n - 1 < 4 := by omega
  have hK : ∀ i, 0 ≤ i → i < 4 → i ≠ n - 1 → lessV V n (adK i) = V (adK i) := fun i g0 g1 g => by
    unfold lessV
    rw [setV_other (Ne.symm (neNK ⟨g0, g1⟩)), setV_other (neKK ⟨g0, g1⟩ hm g)]
  refine ⟨by omega, setV_same mayN _, fun i g0 g1 => ?_, fun i g0 g1 => ?_⟩
  · rw [hK i g0 (by omega) (by omega)]
    exact R.here i g0 (by omega)
  · by_cases g : i = n - 1
    · rw [g]
      unfold lessV
      rw [setV_other (Ne.symm (neNK hm)), setV_same (mayK hm)]
      exact .inr rfl
    · rw [hK i (by omega) g1 g]
      exact R.gone i (by omega) g1
end
end Go.Proofs.YtffkjdmpeeagoaaDoor
