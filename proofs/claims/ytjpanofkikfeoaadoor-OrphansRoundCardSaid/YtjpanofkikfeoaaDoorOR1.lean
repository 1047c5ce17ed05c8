/-
  How many steps a Take has left if no one interferes, whatever the words say; no condition but that its numbers are of their kinds.
-/
import Derived.Test.YtjpanofkikfeoaaDoorOP1
namespace Go.Proofs.YtjpanofkikfeoaaDoor
open Go.RowKit Go.Maps

/-- The steps left at most. -/
def remT (o : OG) : Int :=
  if o.ln = 1 then 1282 else if o.ln = 2 then 1281 else if o.ln = 3 then 5 * (256 - (o.got.length : Int)) else if o.ln = 4 then 5 * (256 - (o.got.length : Int)) - 1
  else if o.ln = 5 then 5 * (256 - (o.got.length : Int)) - 2 else if o.ln = 6 then 5 * (256 - (o.got.length : Int)) - 3 else if o.ln = 7 then 5 * (256 - (o.got.length : Int)) + 1 else 0
theorem remT_pos {o : OG} (hg : o.g = []) (ok : ONum o) (h : remT o ≤ 0) : o.ln = 0 := by
  obtain ⟨t1, t2, t3, t4, t5, t6⟩ := ok.tk hg
  have hl := ok.ln
  refine Decidable.byContradiction fun hn => ?_
  obtain ⟨ln, got, g, i, hh, s, e⟩ := o
  dsimp only at *
  unfold remT at h
  dsimp only at h
  obtain rfl | rfl | rfl | rfl | rfl | rfl | rfl : ln = 1 ∨ ln = 2 ∨ ln = 3 ∨ ln = 4 ∨ ln = 5 ∨ ln = 6 ∨ ln = 7 := by omega
  · simp at h
  · simp at h
  · have := t4 (by decide); simp at h; omega
  · have := t4 (by decide); simp at h; omega
  · have := t4 (by decide); simp at h; omega
  · have := t4 (by decide); simp at h; omega
  · simp at h; omega
theorem remT_step {o : OG} {M : MV} (hg : o.g = []) (ok : ONum o) (h2 : o.ln = 2 → M.V adO = o.h) (h0 : o.ln ≠ 0) :
    remT (oX o M).1 + 1 ≤ remT o ∧ ((oX o M).1.ln = 2 → (oX o M).2.V adO = (oX o M).1.h) := by
  obtain ⟨t1, t2, t3, t4, t5, t6⟩ := ok.tk hg
  have hl := ok.ln
  rw [tX_eq o M hg]
  obtain ⟨ln, got, g, i, hh, s, e⟩ := o
  dsimp only at *
  unfold takeX
  dsimp only
  obtain rfl | rfl | rfl | rfl | rfl | rfl | rfl : ln = 1 ∨ ln = 2 ∨ ln = 3 ∨ ln = 4 ∨ ln = 5 ∨ ln = 6 ∨ ln = 7 := by omega
  · rw [if_pos rfl]
    dsimp only
    by_cases hs : wSlot (M.V adO) < 0
    · rw [if_pos hs]
      exact ⟨by unfold remT; simp, fun h => by simp at h⟩
    · rw [if_neg hs]
      exact ⟨by unfold remT; simp, fun _ => rfl⟩
  · rw [if_neg (by decide), if_pos rfl]
    have hc : casV M.V adO hh = true := by unfold casV; simp [h2 rfl]; exact mayO
    rw [if_pos hc]
    have := t5 (.inr rfl)
    subst this
    exact ⟨by unfold remT; simp, fun h => by simp at h⟩
  · rw [if_neg (by decide), if_neg (by decide), if_pos rfl]
    exact ⟨by unfold remT; simp, fun h => by simp at h⟩
  · rw [if_neg (by decide), if_neg (by decide), if_neg (by decide), if_pos rfl]
    exact ⟨by unfold remT; simp; omega, fun h => by simp at h⟩
  · rw [if_neg (by decide), if_neg (by decide), if_neg (by decide), if_neg (by decide), if_pos rfl]
    exact ⟨by unfold remT; simp; omega, fun h => by simp at h⟩
  · rw [if_neg (by decide), if_neg (by decide), if_neg (by decide), if_neg (by decide), if_neg (by decide), if_pos rfl]
    exact ⟨by unfold remT; simp; omega, fun h => by simp at h⟩
  · rw [if_neg (by decide), if_neg (by decide), if_neg (by decide), if_neg (by decide), if_neg (by decide), if_neg (by decide), if_pos rfl]
    dsimp only
    by_cases hs : 0 ≤ wSlot (M.V (adS s 2)) ∧ got.length < 256
    · rw [if_pos hs]
      exact ⟨by unfold remT; simp, fun h => by simp at h⟩
    · rw [if_neg hs]
      exact ⟨by unfold remT; simp; omega, fun h => by simp at h⟩
theorem remT_new : remT newT = 1282 := by decide
end Go.Proofs.YtjpanofkikfeoaaDoor
