/-
  A step of the document's More or Less is the plain one's; a new one; condition: both memories say the same, the operation lies as it says, numbers of their kinds.
-/
import Derived.Test.YtffkjdmpeeagoaaDoorBD1
namespace Go.Proofs.YtffkjdmpeeagoaaDoor
open Go.RowKit Go.Maps

section
variable {B p m b n K c : Nat} {D : DataW Unit} {L : List (Ad × Int)} {M : MV} {w : World} {o : BO}
theorem kX_mB (a b c : Int) (M : MV) : kX ⟨false, a, b, c⟩ M = moreX ⟨false, a, b, c⟩ M := rfl
theorem kX_lB (a b c : Int) (M : MV) : kX ⟨true, a, b, c⟩ M = lessX ⟨true, a, b, c⟩ M := rfl
theorem docK (hBm : B ≤ m) (hc : c ≤ 900) (S : Say p m b n D L c M w) (ok : BNum o) (h : Bk K 99 o.cells w) (hBK : B ≤ K) :
    Calls Tryd.prog 42 #[.pointer (some ⟨K, 0, none⟩), .pointer (some ⟨b, 0, none⟩)] w (OdS B p m b n c D M.s K [K] (kX o M).1.cells (kX o M).2 w) := by
  obtain ⟨lv, ln, e, wd⟩ := o
  obtain ⟨h1, h2, h3, h4, h5⟩ := ok
  simp only at h1 h2 h3 h4 h5
  have h10 := h1.1
  cases lv with
  | false =>
    obtain ⟨h6, h7⟩ := h4 rfl
    rw [kX_mB]
    unfold moreX
    obtain rfl | rfl | rfl | rfl : ln = 0 ∨ ln = 1 ∨ ln = 2 ∨ ln = 3 := by omega
    · exact bm0 hBm hc S h hBK
    · simp only [if_true]
      by_cases hv : 4 ≤ M.V adN
      · rw [if_pos hv]; exact bm1_full hBm hc S h hBK rfl hv
      · rw [if_neg hv]; exact bm1_go hBm hc S h hBK rfl hv
    · simp only [if_neg (show ¬ (2 : Int) = 1 by decide), if_true]
      have hb := h7 (by decide)
      cases hcs : casV M.V adN wd with
      | true => exact bm2_yes hBm hc S h hBK ⟨h10, hb⟩ hcs
      | false => exact bm2_no hBm hc S h hBK ⟨h10, hb⟩ hcs
    · simp only [if_neg (show ¬ (3 : Int) = 1 by decide), if_neg (show ¬ (3 : Int) = 2 by decide), if_true]
      have hb := h7 (by decide)
      cases hcs : casV M.V (adK wd) cldW with
      | true => exact bm3_yes hBm hc S h hBK ⟨h10, hb⟩ hcs
      | false => exact bm3_no hBm hc S h hBK ⟨h10, hb⟩ hcs
  | true =>
    have h7 := h5 rfl
    rw [kX_lB]
    unfold lessX
    obtain rfl | rfl | rfl | rfl | rfl : ln = 0 ∨ ln = 1 ∨ ln = 2 ∨ ln = 3 ∨ ln = 4 := by omega
    · exact bl0 hBm hc S h hBK
    · simp only [if_true]
      by_cases hv : M.V adN ≤ 1
      · rw [if_pos hv]; exact bl1_one hBm hc S h hBK rfl hv
      · rw [if_neg hv]
        by_cases hv4 : 4 < M.V adN
        · rw [if_pos hv4]; exact bl1_many hBm hc S h hBK rfl hv hv4
        · rw [if_neg hv4]; exact bl1_go hBm hc S h hBK rfl hv hv4
    · simp only [if_neg (show ¬ (2 : Int) = 1 by decide), if_true]
      have hb := h7 (by decide)
      cases hcs : casV M.V (adK (wd - 1)) opnW with
      | true => exact bl2_yes hBm hc S h hBK hb hcs
      | false => exact bl2_no hBm hc S h hBK hb hcs
    · simp only [if_neg (show ¬ (3 : Int) = 1 by decide), if_neg (show ¬ (3 : Int) = 2 by decide), if_true]
      have hb := h7 (by decide)
      cases hcs : casV M.V adN wd with
      | true => exact bl3_yes hBm hc S h hBK hb hcs
      | false => exact bl3_no hBm hc S h hBK hb hcs
    · simp only [if_neg (show ¬ (4 : Int) = 1 by decide), if_neg (show ¬ (4 : Int) = 2 by decide), if_neg (show ¬ (4 : Int) = 3 by decide), if_true]
      have hb := h7 (by decide)
      cases hcs : casV M.V (adK (wd - 1)) cldW with
      | true => exact bl4_yes hBm hc S h hBK hb hcs
      | false => exact bl4_no hBm hc S h hBK hb hcs
theorem newR (lv : Bool) (w : World) : Calls Tryd.prog 11 #[.bool lv] w fun e w' => ∃ K, e = .returned (.pointer (some ⟨K, 0, none⟩)) ∧ w.heap.size ≤ K ∧ Bk K 99 (newB lv).cells w' ∧ Below w.heap.size w w' := by
  go_enter Tryd.func11, Tryd.ntmps11
  go_wp2_with fail
  go_ret
  exact ⟨w.heap.size, rfl, Nat.le_refl _, Bk.new w _ _, (Below.refl _ _).alloc (Nat.le_refl _) _⟩
end
end Go.Proofs.YtffkjdmpeeagoaaDoor
