/-
  One step of a Pop and of a Push by themselves, in plain words: what it makes of the list, and what others have under way keeps; no condition.
-/
import Derived.Test.YtlcbinckbkdgdaaDoorH5
namespace Go.Proofs.YtlcbinckbkdgdaaDoor
open Go.RowKit Go.Maps

section
variable {n : Nat} {S : List Int} {T : Int} {M : MS}
/-- What others have under way keeps. -/
def Mv (n : Nat) (x : Int) (M : MS) (S : List Int) (T : Int) (M' : MS) (S' : List Int) (T' : Int) : Prop :=
  ∀ o : TO, (∀ y ∈ pend o, y ≠ x) → OpOk n M S T o → OpOk n M' S' T' o
theorem Mv.refl (x : Int) : Mv n x M S T M S T := fun _ _ h => h
theorem pushA_step (stk : Stk M S T) (hn : n ≤ 60) (hT : T + 1 < 1000000) {o : OS} (hnS : o.to ∉ S) (ok : OpOk n M S T (.push o)) :
    ∃ S' T', Stk (pushF o M).2 S' T' ∧ T ≤ T' ∧ T' ≤ T + 1 ∧ (pushF o M).1.to = o.to ∧ Mv n o.to M S T (pushF o M).2 S' T' ∧
      (((pushF o M).1.nx ≠ 0 ∧ S' = S ∧ OpOk n (pushF o M).2 S' T' (.push (pushF o M).1) ∧ remF (pushF o M).2 (.push (pushF o M).1) + 1 ≤ remF M (.push o)) ∨ ((pushF o M).1.nx = 0 ∧ S' = o.to :: S ∧ 1 ≤ remF M (.push o))) := by
  obtain ⟨hu, hin, h1 | ⟨h1, h3⟩ | ⟨h1, h3, h4⟩⟩ := ok
  · have eg : pushF o M = (⟨2, M.hd, o.to⟩, M) := by simp [pushF, h1]
    rw [eg]
    exact ⟨S, T, stk, Int.le_refl _, by omega, rfl, Mv.refl _, .inl ⟨by simp, rfl, ⟨stk.u64, hin, .inr (.inl ⟨rfl, .inl rfl⟩)⟩, by simp [remF, h1]⟩⟩
  · have eg : pushF o M = (⟨3, o.h, o.to⟩, M.link o.to (headW (wSlot o.h) 0)) := by simp [pushF, h1]
    rw [eg]
    refine ⟨S, T, ⟨stk.hd, stk.ch.upd hnS _, stk.nd, stk.t0, stk.t1⟩, Int.le_refl _, by omega, rfl, fun x hx k => k.link hx, .inl ⟨by simp, rfl, ⟨hu, hin, .inr (.inr ⟨rfl, h3, fun eh => ?_⟩)⟩, ?_⟩⟩
    · have hin2 := slot_in o.h
      simp only [MS.link, if_true]
      rw [slot_head _ _ hin2.1 (by omega)]
      have : M.hd = o.h := eh.symm
      rw [← this]
      exact stk.slotM
    · simp only [remF, h1, MS.link]
      by_cases hh : o.h = M.hd <;> simp [hh]
  · by_cases hh : M.hd = o.h
    · have etg : fld o.h 16 48 = T := by rw [← hh]; exact stk.tag
      have eg : pushF o M = (⟨0, o.h, o.to⟩, ⟨headW o.to (T + 1), M.lk⟩) := by simp [pushF, swapF, h1, hh, nextW, etg]
      rw [eg]
      have hst' := stk.pushed (h4 hh.symm) hnS hin.1 (by omega) hT
      exact ⟨o.to :: S, T + 1, hst', by omega, by omega, rfl, fun x hx k => k.up stk hst'.tag, .inr ⟨rfl, rfl, by simp only [remF, h1]; by_cases hh : o.h = M.hd <;> simp [hh]⟩⟩
    · have eg : pushF o M = (⟨1, o.h, o.to⟩, M) := by simp [pushF, swapF, h1, hh]
      rw [eg]
      have : ¬ o.h = M.hd := fun h => hh h.symm
      exact ⟨S, T, stk, Int.le_refl _, by omega, rfl, Mv.refl _, .inl ⟨by simp, rfl, ⟨hu, hin, .inl rfl⟩, by simp [remF, h1, this]⟩⟩
theorem popA_step (stk : Stk M S T) (hT : T + 1 < 1000000) {o : OS} (ok : OpOk n M S T (.pop o)) (x : Int) :
    ∃ S' T', Stk (popF o M).2 S' T' ∧ T ≤ T' ∧ T' ≤ T + 1 ∧ Mv n x M S T (popF o M).2 S' T' ∧ (popF o M).2.lk = M.lk ∧
      (((popF o M).1.nx ≠ 0 ∧ S' = S ∧ OpOk n (popF o M).2 S' T' (.pop (popF o M).1) ∧ remF (popF o M).2 (.pop (popF o M).1) + 1 ≤ remF M (.pop o)) ∨ ((popF o M).1.nx = 0 ∧ wSlot (popF o M).1.h < 0 ∧ S' = S ∧ 1 ≤ remF M (.pop o)) ∨ ((popF o M).1.nx = 0 ∧ 0 ≤ wSlot (popF o M).1.h ∧ S = wSlot (popF o M).1.h :: S' ∧ 1 ≤ remF M (.pop o))) := by
  obtain ⟨hu, h1 | ⟨h1, h2, h3⟩ | ⟨h1, h2, h3, h4⟩⟩ := ok
  · by_cases hs : wSlot M.hd < 0
    · have eg : popF o M = (⟨0, M.hd, o.to⟩, M) := by simp [popF, h1, hs]
      rw [eg]
      exact ⟨S, T, stk, Int.le_refl _, by omega, Mv.refl _, rfl, .inr (.inl ⟨rfl, hs, rfl, by simp [remF, h1]⟩)⟩
    · have eg : popF o M = (⟨2, M.hd, o.to⟩, M) := by simp [popF, h1, hs]
      rw [eg]
      exact ⟨S, T, stk, Int.le_refl _, by omega, Mv.refl _, rfl, .inl ⟨by simp, rfl, ⟨stk.u64, .inr (.inl ⟨rfl, Int.not_lt.1 hs, .inl rfl⟩)⟩, by simp [remF, h1]⟩⟩
  · have eg : popF o M = (⟨3, o.h, wSlot (M.lk (wSlot o.h))⟩, M) := by simp [popF, h1]
    rw [eg]
    refine ⟨S, T, stk, Int.le_refl _, by omega, Mv.refl _, rfl, .inl ⟨by simp, rfl, ⟨hu, .inr (.inr ⟨rfl, h2, h3, fun eh => ?_⟩)⟩, ?_⟩⟩
    · have ec := topOf_cons (S := S) (x := wSlot o.h) (by rw [eh, stk.slotM]) h2
      have hc := stk.ch
      rw [ec] at hc
      exact hc.1.2.2
    · simp only [remF, h1]
      by_cases hh : o.h = M.hd <;> simp [hh]
  · by_cases hh : M.hd = o.h
    · have ec := topOf_cons (S := S) (x := wSlot o.h) (by rw [← hh, stk.slotM]) h2
      have et : o.to = topOf S.tail := h4 hh.symm
      have etg : fld o.h 16 48 = T := by rw [← hh]; exact stk.tag
      have eg : popF o M = (⟨0, o.h, o.to⟩, ⟨headW (topOf S.tail) (T + 1), M.lk⟩) := by
        simp [popF, swapF, h1, hh, nextW, et, etg]
      rw [eg]
      have hst := stk
      rw [ec] at hst
      have hst' := hst.popped hT
      exact ⟨S.tail, T + 1, hst', by omega, by omega, fun x hx k => k.up stk hst'.tag, rfl, .inr (.inr ⟨rfl, h2, ec, by simp only [remF, h1]; by_cases hh : o.h = M.hd <;> simp [hh]⟩)⟩
    · have eg : popF o M = (⟨1, o.h, o.to⟩, M) := by simp [popF, swapF, h1, hh]
      rw [eg]
      have : ¬ o.h = M.hd := fun h => hh h.symm
      exact ⟨S, T, stk, Int.le_refl _, by omega, Mv.refl _, rfl, .inl ⟨by simp, rfl, ⟨hu, .inl rfl⟩, by simp [remF, h1, this]⟩⟩
end
end Go.Proofs.YtlcbinckbkdgdaaDoor
