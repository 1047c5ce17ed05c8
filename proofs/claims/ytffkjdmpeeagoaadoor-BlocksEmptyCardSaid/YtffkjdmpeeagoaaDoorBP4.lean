/-
  The keeper's step keeps what holds before each act, and how it begins; no condition.
-/
import Derived.Test.YtffkjdmpeeagoaaDoorBP3
namespace Go.Proofs.YtffkjdmpeeagoaaDoor
open Go.RowKit Go.Maps

section
variable {A : Nat → AS} {p q : Nat} {a : AS} {i t n ever : Int} {M : MV} {V V' : Ad → Int} {k : BO}
theorem opn_back : blkN opnW = 0 ∧ blkC opnW = false := blk_back false (by decide)
theorem cld_back : blkN cldW = 0 ∧ blkC cldW = true := blk_back true (by decide)
theorem AOk.mono (h : AOk ever p a) {v : Int} (g : ever ≤ v) : AOk v p a := ⟨h.n, h.th, fun h0 h1 => by obtain ⟨h2, h3, h4, h5⟩ := h.j h0 h1; exact ⟨h2, h3, fun h6 => by have := h4 h6; omega, h5⟩, h.l⟩
theorem InvB.keep (I : InvB n ever V A k) {k' : BO} (h : k.ln ≠ 3) (h' : k'.ln ≠ 3) (hk : KOk n k') : InvB n ever V A k' :=
  ⟨I.N, I.n14, I.K, I.shut, I.never, I.gone, fun i h0 h1 _ => I.here i h0 h1 fun g => h g.1, fun _ h3 => absurd h3 h', I.own, I.free, I.I, I.a, hk⟩
theorem InvB.beginK (I : InvB n ever V A k) (h : k.ln = 0) (lv : Bool) : InvB n ever V A (newB lv) := by
  refine I.keep (by omega) (by simp [newB]) ?_
  unfold KOk newB
  cases lv <;> simp
/-- How many blocks there are changes. -/
theorem InvB.count1 (I : InvB n ever V A k) {n' ever' : Int} {k' : BO} (hv : V' = setV V adN n') (h14 : 1 ≤ n' ∧ n' ≤ ever' ∧ ever' ≤ 4) (he : ever ≤ ever') (hg : ∀ i, n' ≤ i → i < ever' → blkC (V (adK i)) = true)
    (hh : ∀ i, 0 ≤ i → i < n' → ¬ (k'.ln = 3 ∧ i = n' - 1) → blkC (V (adK i)) = false) (hl : k'.lv = true → k'.ln = 3 → blkC (V (adK (n' - 1))) = true) (hk : KOk n' k') : InvB n' ever' V' A k' := by
  have hn := I.n14
  have hK : ∀ l, 0 ≤ l → l < 4 → V' (adK l) = V (adK l) := fun l g0 g1 => by rw [hv]; exact setV_other (Ne.symm (neNK ⟨g0, g1⟩)) _
  have hT : ∀ s f, 0 ≤ s → s < 16 → 0 ≤ f → f < 10 → V' (adT s f) = V (adT s f) := fun s f g0 g1 g2 g3 => by rw [hv]; exact setV_other (Ne.symm (neNT ⟨g0, g1⟩ ⟨g2, g3⟩)) _
  refine ⟨by rw [hv]; exact setV_same mayN _, h14, fun i g0 g1 => ?_, fun i g0 g1 g2 => ?_, fun i g0 g1 => ?_, fun i g0 g1 => ?_, fun i g0 g1 g2 => ?_, fun g0 g1 => ?_, fun q hq g0 => ?_, fun s g0 g1 g2 => ?_, fun s g0 g1 => ?_, fun q hq => (I.a q hq).mono he, hk⟩
  · rw [hK i g0 g1]
    exact I.K i g0 g1
  · rw [hK i g0 g1] at g2
    exact I.shut i g0 g1 g2
  · rw [hK i (by omega) g1]
    exact I.never i (by omega) g1
  · rw [hK i (by omega) (by omega)]
    exact hg i g0 g1
  · rw [hK i g0 (by omega)]
    exact hh i g0 g1 g2
  · rw [hK (n' - 1) (by omega) (by omega)]
    exact hl g0 g1
  · rw [hT _ 0 g0 ((I.a q hq).ob_in).2 (by decide) (by decide)]
    exact I.own q hq g0
  · rw [hT s 0 g0 g1 (by decide) (by decide)]
    exact I.free s g0 g1 g2
  · rw [hT s 1 g0 g1 (by decide) (by decide)]
    exact I.I s g0 g1
/-- The last block, that nobody joined, opens or closes. -/
theorem InvB.flips (I : InvB n ever V A k) {k' : BO} {c : Bool} (hv : V' = setV V (adK (n - 1)) (blockW 0 c)) (h0 : cnt8 A (n - 1) = 0)
    (hh : ∀ i, 0 ≤ i → i < n - 1 → blkC (V (adK i)) = false) (hc : k'.ln ≠ 3 → c = false) (hl : k'.lv = true → k'.ln = 3 → c = true) (hk : KOk n k') : InvB n ever V' A k' := by
  have hn := I.n14
  have hm : 0 ≤ n - 1 ∧ n - 1 < 4 := by omega
  have hi : V' (adK (n - 1)) = blockW 0 c := by rw [hv]; exact setV_same (mayK hm) _
  have hC : blkC (V' (adK (n - 1))) = c := by rw [hi]; exact (blk_back c (by decide)).2
  have hK : ∀ l, 0 ≤ l → l < 4 → l ≠ n - 1 → V' (adK l) = V (adK l) := fun l g0 g1 g => by rw [hv]; exact setV_other (neKK ⟨g0, g1⟩ hm g) _
  have hT : ∀ s f, 0 ≤ s → s < 16 → 0 ≤ f → f < 10 → V' (adT s f) = V (adT s f) := fun s f g0 g1 g2 g3 => by rw [hv]; exact setV_other (Ne.symm (neKT hm ⟨g0, g1⟩ ⟨g2, g3⟩)) _
  refine ⟨by rw [hv, setV_other (neNK hm)]; exact I.N, hn, fun i g0 g1 => ?_, fun i g0 g1 g2 => ?_, fun i g0 g1 => ?_, fun i g0 g1 => ?_, fun i g0 g1 g2 => ?_, fun g0 g1 => ?_, fun q hq g0 => ?_, fun s g0 g1 g2 => ?_, fun s g0 g1 => ?_, I.a, hk⟩
  · by_cases g : i = n - 1
    · rw [g, hC, hi, h0]
    · rw [hK i g0 g1 g]
      exact I.K i g0 g1
  · by_cases g : i = n - 1
    · rw [g, h0]
    · rw [hK i g0 g1 g] at g2
      exact I.shut i g0 g1 g2
  · rw [hK i (by omega) g1 (by omega)]
    exact I.never i g0 g1
  · rw [hK i (by omega) (by omega) (by omega)]
    exact I.gone i g0 g1
  · by_cases g : i = n - 1
    · rw [g, hC]
      exact hc fun h3 => g2 ⟨h3, g⟩
    · rw [hK i g0 (by omega) g]
      exact hh i g0 (by omega)
  · rw [hC]
    exact hl g0 g1
  · rw [hT _ 0 g0 ((I.a q hq).ob_in).2 (by decide) (by decide)]
    exact I.own q hq g0
  · rw [hT s 0 g0 g1 (by decide) (by decide)]
    exact I.free s g0 g1 g2
  · rw [hT s 1 g0 g1 (by decide) (by decide)]
    exact I.I s g0 g1
def mx (a b : Int) : Int := if a < b then b else a
theorem mx_le {a b : Int} (h : b ≤ a) : mx a b = a := by unfold mx; rw [if_neg (by omega)]
/-- The keeper's step. -/
theorem InvB.kept (I : InvB n ever M.V A k) (h0 : k.ln ≠ 0) : InvB ((kX k M).2.V adN) (mx ever ((kX k M).2.V adN)) (kX k M).2.V A (kX k M).1 ∧ ((kX k M).1.ln = 0 ∨ (kX k M).1.ln = k.ln + 1) := by
  have hn := I.n14
  have hk := I.k
  obtain ⟨lv, ln, e, b⟩ := k
  unfold KOk at hk
  simp only at hk h0
  have hN := I.N
  have he : mx ever n = ever := mx_le hn.2.1
  have hcN := casV_may mayN M.V
  rcases hk with hk | ⟨rfl, hk⟩ | ⟨rfl, hk⟩
  · exact absurd hk h0
  · rw [show kX (⟨false, ln, e, b⟩ : BO) M = moreX ⟨false, ln, e, b⟩ M from rfl]
    unfold moreX
    rcases hk with rfl | ⟨rfl, rfl, h4⟩ | ⟨rfl, rfl, h2⟩
    · simp only [if_true]
      rw [show (ldM M adN).V = M.V from rfl, hN, he]
      split
      · exact ⟨I.keep (by simp) (by simp) (by simp [KOk]), .inl (by simp)⟩
      · refine ⟨I.keep (by simp) (by simp) ?_, .inr rfl⟩
        exact .inr (.inl ⟨rfl, .inr (.inl ⟨rfl, rfl, by omega⟩)⟩)
    · have hc : casV M.V adN b = true := by rw [hcN, hN]; simp
      have hV : (csM M adN b (b + 1)).V = setV M.V adN (b + 1) := csV_yes hc
      simp only [if_neg (show ¬ (2 : Int) = 1 by decide), if_true, hc]
      rw [hV, setV_same mayN]
      refine ⟨I.count1 rfl (by unfold mx; split <;> omega) (by unfold mx; split <;> omega) (fun i g0 g1 => ?_) (fun i g0 g1 g2 => I.here i g0 ?_ fun g => by simp at g) (fun g => by simp at g) ?_, .inr rfl⟩
      · refine I.gone i (by omega) ?_
        unfold mx at g1
        split at g1 <;> omega
      · simp only [true_and] at g2
        omega
      · exact .inr (.inl ⟨rfl, .inr (.inr ⟨rfl, by show b = b + 1 - 1; omega, by omega⟩)⟩)
    · have hm : 0 ≤ n - 1 ∧ n - 1 < 4 := by omega
      have hcas := casV_K hm M.V cldW
      have hK := I.K (n - 1) hm.1 hm.2
      have hS := I.shut (n - 1) hm.1 hm.2
      simp only [if_neg (show ¬ (3 : Int) = 1 by decide), if_neg (show ¬ (3 : Int) = 2 by decide), if_true]
      have hNV : (csM M (adK (n - 1)) cldW opnW).V adN = n := by
        show csV M.V _ _ _ _ = _
        unfold csV
        split
        · rw [setV_other (neNK hm), hN]
        · exact hN
      rw [hNV, he]
      refine ⟨?_, .inl (by simp)⟩
      by_cases hw : M.V (adK (n - 1)) = cldW
      · have hz : cnt8 A (n - 1) = 0 := hS (by rw [hw]; exact cld_back.2)
        refine I.flips (c := false) (csV_yes (by rw [hcas, hw]; simp)) hz (fun i g0 g1 => I.here i g0 (by omega) (by simp only; omega)) (fun _ => rfl) (fun g => by simp at g) (by simp [KOk])
      · rw [show (csM M (adK (n - 1)) cldW opnW).V = M.V from csV_no (by rw [hcas]; simpa using hw)]
        have hz : blkC (M.V (adK (n - 1))) = false := by
          cases hb : blkC (M.V (adK (n - 1))) with
          | false => rfl
          | true =>
            rw [hb, hS hb] at hK
            exact absurd hK hw
        refine ⟨I.N, I.n14, I.K, I.shut, I.never, I.gone, fun i g0 g1 _ => ?_, fun g => by simp at g, I.own, I.free, I.I, I.a, by simp [KOk]⟩
        by_cases g : i = n - 1
        · rw [g, hz]
        · exact I.here i g0 g1 (by simp only; omega)
  · rw [show kX (⟨true, ln, e, b⟩ : BO) M = lessX ⟨true, ln, e, b⟩ M from rfl]
    unfold lessX
    rcases hk with rfl | ⟨rfl | rfl, rfl, h2⟩
    · simp only [if_true]
      rw [show (ldM M adN).V = M.V from rfl, hN, he]
      split
      · exact ⟨I.keep (by simp) (by simp) (by simp [KOk]), .inl (by simp)⟩
      · rw [if_neg (by omega)]
        refine ⟨I.keep (by simp) (by simp) ?_, .inr rfl⟩
        exact .inr (.inr ⟨rfl, .inr ⟨.inl rfl, rfl, by omega⟩⟩)
    · have hm : 0 ≤ b - 1 ∧ b - 1 < 4 := by omega
      have hcas := casV_K hm M.V opnW
      have hK := I.K (b - 1) hm.1 hm.2
      simp only [if_neg (show ¬ (2 : Int) = 1 by decide), if_true]
      have hNV : (csM M (adK (b - 1)) opnW cldW).V adN = b := by
        show csV M.V _ _ _ _ = _
        unfold csV
        split
        · rw [setV_other (neNK hm), hN]
        · exact hN
      rw [hNV, he]
      by_cases hw : M.V (adK (b - 1)) = opnW
      · have hc : casV M.V (adK (b - 1)) opnW = true := by rw [hcas, hw]; simp
        rw [if_pos hc]
        have hz : cnt8 A (b - 1) = 0 := by
          have hin := cnt8_in A (b - 1)
          rw [hw] at hK
          have := congrArg blkN hK
          rw [opn_back.1, (blk_back _ ⟨hin.1, by omega⟩).1] at this
          exact this.symm
        refine ⟨I.flips (c := true) (csV_yes hc) hz (fun i g0 g1 => I.here i g0 (by omega) (by simp only; omega)) (fun g => by simp at g) (fun _ _ => rfl) ?_, .inr rfl⟩
        exact .inr (.inr ⟨rfl, .inr ⟨.inr rfl, rfl, by omega⟩⟩)
      · have hc : casV M.V (adK (b - 1)) opnW = false := by rw [hcas]; simpa using hw
        rw [if_neg (by rw [hc]; decide), show (csM M (adK (b - 1)) opnW cldW).V = M.V from csV_no hc]
        exact ⟨I.keep (by simp) (by simp) (by simp [KOk]), .inl (by simp)⟩
    · have hc : casV M.V adN b = true := by rw [hcN, hN]; simp
      have hV : (csM M adN b (b - 1)).V = setV M.V adN (b - 1) := csV_yes hc
      simp only [if_neg (show ¬ (3 : Int) = 1 by decide), if_neg (show ¬ (3 : Int) = 2 by decide), if_true, hc]
      rw [hV, setV_same mayN, mx_le (by omega)]
      refine ⟨I.count1 rfl (by omega) (Int.le_refl _) (fun i g0 g1 => ?_) (fun i g0 g1 g2 => I.here i g0 (by omega) (by simp only; omega)) (fun _ g => by simp at g) (by simp [KOk]), .inl (by simp)⟩
      by_cases g : i = b - 1
      · rw [g]
        exact I.less rfl rfl
      · exact I.gone i (by omega) g1
/-- An actor's act: it begins something, if nothing is under way, and takes a step. -/
theorem InvB.acted (I : InvB n ever M.V A k) (hp : p < 8) (hu : ∀ x, U64 (M.V x)) : InvB n ever (tX ((A p).begin p) M).2.V (putAS A p (AS.next (A p) (tX ((A p).begin p) M).1)) k
    ∧ ((tX ((A p).begin p) M).1.ln = 0 → (tX ((A p).begin p) M).1.lv = false → (tX ((A p).begin p) M).1.e = 0 → 0 ≤ (tX ((A p).begin p) M).1.th ∧ (tX ((A p).begin p) M).1.th < 4 * n) ∧ ((tX ((A p).begin p) M).1.ln = 0 → (tX ((A p).begin p) M).1.lv = true → (tX ((A p).begin p) M).1.e = 0) := by
  have hb := ((I.a p hp).begin hp).2.2.2
  have h := (I.begin hp).stept hp hu (by rw [putAS_same]; exact hb)
  unfold Stept at h
  rw [putAS_same] at h
  obtain ⟨h1, h2, h3⟩ := h
  refine ⟨?_, h2, h3⟩
  have e : putAS (putAS A p ⟨(A p).th, (A p).begin p⟩) p (AS.next ⟨(A p).th, (A p).begin p⟩ (tX ((A p).begin p) M).1) = putAS A p (AS.next (A p) (tX ((A p).begin p) M).1) := by
    funext q
    by_cases hq : q = p
    · rw [hq, putAS_same, putAS_same]
      rfl
    · rw [putAS_other hq, putAS_other hq, putAS_other hq]
  rw [← e]
  exact h1
/-- At first: so many blocks, nobody joined, nothing is under way. -/
theorem InvB.first (h : 1 ≤ n ∧ n ≤ 4) (hN : V adN = n) (hz : ∀ x, x ≠ adN → V x = 0) {o : TO} (ho : o.ln = 0) (hno : TNum o) {k : BO} (hk : k.ln = 0) : InvB n n V (fun _ => ⟨-1, o⟩) k := by
  have hcb : (⟨-1, o⟩ : AS).cb = -1 := by simp [AS.cb, ho]
  have hob : (⟨-1, o⟩ : AS).ob = -1 := by simp [AS.ob, ho]
  have hcnt : ∀ i, 0 ≤ i → cnt8 (fun _ => (⟨-1, o⟩ : AS)) i = 0 := fun i hi => by
    unfold cnt8
    simp only [hcb]
    rw [if_neg (by omega)]
    rfl
  have e0 : (0 : Int) = opnW := by unfold opnW; decide
  have hK : ∀ i, 0 ≤ i → i < 4 → V (adK i) = opnW := fun i g0 g1 => by rw [hz _ (Ne.symm (neNK ⟨g0, g1⟩))]; exact e0
  have hC : ∀ i, 0 ≤ i → i < 4 → blkC (V (adK i)) = false := fun i g0 g1 => by rw [hK i g0 g1]; exact opn_back.2
  refine ⟨hN, by omega, fun i g0 g1 => ?_, fun i g0 g1 g2 => ?_, fun i g0 g1 => ⟨hC i (by omega) g1, hcnt i (by omega)⟩, fun i g0 g1 => by omega, fun i g0 g1 _ => hC i g0 (by omega), fun _ g => by omega, fun q hq g => ?_, fun s g0 g1 _ => hz _ (Ne.symm (neNT ⟨g0, g1⟩ (by decide))), fun s g0 g1 => hz _ (Ne.symm (neNT ⟨g0, g1⟩ (by decide))), fun q hq => ⟨hno, by simp, fun g => absurd ho g, fun g => absurd ho g⟩, .inl hk⟩
  · rw [hC i g0 g1, hcnt i g0, hK i g0 g1]
    rfl
  · exact hcnt i g0
  · rw [hob] at g
    omega
end
end Go.Proofs.YtffkjdmpeeagoaaDoor
