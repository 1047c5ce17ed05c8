/-
  Threads over the list of free slots, in plain words: a step of one keeps what holds, and brings its operation nearer to its end; no condition.
-/
import Derived.Test.YtlcbinckbkdgdaaDoorH4
namespace Go.Proofs.YtlcbinckbkdgdaaDoor
open Go.RowKit Go.Maps

section
variable {n : Nat} {th : Nat → Th} {S : List Int} {T : Int} {M : MS}
/-- The parts of a step: thread k's new state, the list's. -/
theorem Inv.put (I : Inv n th S T M) {k : Nat} (hk : k < 6) {t : Th} {S' : List Int} {T' : Int} {M' : MS} (stk : Stk M' S' T') (hop : OpOk n M' S' T' t.op) (hoth : ∀ j, j < 6 → j ≠ k → OpOk n M' S' T' (th j).op)
    (hc : ∀ z, S'.count z + (ownT t).count z = S.count z + (ownT (th k)).count z) : Inv n (updT th k t) S' T' M' := by
  refine ⟨stk, fun j hj => ?_, fun z => ?_⟩
  · by_cases hjk : j = k
    · subst hjk; rw [updT_same]; exact hop
    · rw [updT_ne _ _ hjk]; exact hoth j hj hjk
  · have h := sum6_upd (fun j => (ownT (th j)).count z) (fun j => (ownT (updT th k t j)).count z) hk (fun j hj => by rw [updT_ne _ _ hj])
    rw [updT_same] at h
    have := I.cnt z
    have := hc z
    unfold cntT at *
    omega
theorem topOf_cons {S : List Int} {x : Int} (h : topOf S = x) (hx : 0 ≤ x) : S = x :: S.tail := by
  cases S with
  | nil => simp [topOf] at h; omega
  | cons y r => simp only [topOf] at h; rw [h]; rfl

theorem Inv.go (I : Inv n th S T M) (hn : n ≤ 60) (hT : T + 1 < 1000000) {k : Nat} (hk : k < 6) (hop : (th k).op ≠ .no) :
    ∃ S' T', Inv n (updT th k (goF (th k) M).1) S' T' (goF (th k) M).2 ∧ T ≤ T' ∧ T' ≤ T + 1 ∧ ((goF (th k) M).1.op = .no ∨ remF (goF (th k) M).2 (goF (th k) M).1.op + 1 ≤ remF M (th k).op) := by
  have ho := I.ops k hk
  have hown : ∀ z ∈ ownT (th k), 0 ≤ z ∧ z < n := fun z hz => I.owned hk hz
  have hnot : ∀ z ∈ ownT (th k), z ∉ S := fun z hz => I.notin hk hz
  have hslot := I.stk.slotM
  have htag := I.stk.tag
  have hoth : ∀ j, j < 6 → j ≠ k → OpOk n M S T (th j).op := fun j hj _ => I.ops j hj
  obtain ⟨o, e⟩ | ⟨o, e⟩ : (∃ o, (th k).op = .pop o) ∨ ∃ o, (th k).op = .push o := by
    cases h : (th k).op with
    | no => exact absurd h hop
    | pop o => exact .inl ⟨o, rfl⟩
    | push o => exact .inr ⟨o, rfl⟩
  · -- a Pop
    have ew : ownT (th k) = (th k).held := by simp [ownT, e, pend]
    rw [e] at ho
    obtain ⟨hu, h1 | ⟨h1, h2, h3⟩ | ⟨h1, h2, h3, h4⟩⟩ := ho
    · -- its first line
      by_cases hs : wSlot M.hd < 0
      · have eg : goF (th k) M = (⟨(th k).held, .no⟩, M) := by simp [goF, e, popF, h1, hs]
        rw [eg]
        refine ⟨S, T, I.put hk I.stk trivial hoth (fun z => by rw [ew]; simp [ownT, pend]), Int.le_refl _, by omega, .inl rfl⟩
      · have eg : goF (th k) M = (⟨(th k).held, .pop ⟨2, M.hd, o.to⟩⟩, M) := by simp [goF, e, popF, h1, hs]
        rw [eg]
        refine ⟨S, T, I.put hk I.stk ⟨I.stk.u64, .inr (.inl ⟨rfl, Int.not_lt.1 hs, .inl rfl⟩)⟩ hoth (fun z => by rw [ew]; simp [ownT, pend]), Int.le_refl _, by omega, .inr ?_⟩
        rw [e]
        simp [remF, h1]
    · have eg : goF (th k) M = (⟨(th k).held, .pop ⟨3, o.h, wSlot (M.lk (wSlot o.h))⟩⟩, M) := by simp [goF, e, popF, h1]
      rw [eg]
      refine ⟨S, T, I.put hk I.stk ⟨hu, .inr (.inr ⟨rfl, h2, h3, fun eh => ?_⟩)⟩ hoth (fun z => by rw [ew]; simp [ownT, pend]), Int.le_refl _, by omega, .inr ?_⟩
      · have ec := topOf_cons (S := S) (x := wSlot o.h) (by rw [eh, hslot]) h2
        have hc := I.stk.ch
        rw [ec] at hc
        exact hc.1.2.2
      · rw [e]
        simp only [remF, h1]
        by_cases hh : o.h = M.hd <;> simp [hh]
    · by_cases hh : M.hd = o.h
      · have ec := topOf_cons (S := S) (x := wSlot o.h) (by rw [← hh, hslot]) h2
        have et : o.to = topOf S.tail := h4 hh.symm
        have etg : fld o.h 16 48 = T := by rw [← hh]; exact htag
        have eg : goF (th k) M = (⟨(th k).held ++ [wSlot o.h], .no⟩, ⟨headW (topOf S.tail) (T + 1), M.lk⟩) := by
          have hw : ¬ wSlot o.h < 0 := by omega
          simp [goF, e, popF, swapF, h1, hh, nextW, hw, et, etg]
        rw [eg]
        have hst := I.stk
        rw [ec] at hst
        have hst' := hst.popped hT
        have e2 : fld (MS.mk (headW (topOf S.tail) (T + 1)) M.lk).hd 16 48 = T + 1 := hst'.tag
        refine ⟨S.tail, T + 1, I.put hk hst' trivial (fun j hj hjk => (I.ops j hj).up I.stk e2) (fun z => ?_), by omega, by omega, .inl rfl⟩
        rw [ew]
        conv => rhs; rw [ec]
        simp only [ownT, pend, List.count_append, List.count_cons, List.count_nil]
        simp
        omega
      · have eg : goF (th k) M = (⟨(th k).held, .pop ⟨1, o.h, o.to⟩⟩, M) := by simp [goF, e, popF, swapF, h1, hh]
        rw [eg]
        refine ⟨S, T, I.put hk I.stk ⟨hu, .inl rfl⟩ hoth (fun z => by rw [ew]; simp [ownT, pend]), Int.le_refl _, by omega, .inr ?_⟩
        rw [e]
        have : ¬ o.h = M.hd := fun h => hh h.symm
        simp [remF, h1, this]
  · -- a Push
    have ew : ownT (th k) = (th k).held ++ [o.to] := by simp [ownT, e, pend]
    have hto := hown o.to (by rw [ew]; simp)
    have hnS := hnot o.to (by rw [ew]; simp)
    rw [e] at ho
    obtain ⟨hu, hin, h1 | ⟨h1, h3⟩ | ⟨h1, h3, h4⟩⟩ := ho
    · have eg : goF (th k) M = (⟨(th k).held, .push ⟨2, M.hd, o.to⟩⟩, M) := by simp [goF, e, pushF, h1]
      rw [eg]
      refine ⟨S, T, I.put hk I.stk ⟨I.stk.u64, hin, .inr (.inl ⟨rfl, .inl rfl⟩)⟩ hoth (fun z => by rw [ew]; simp [ownT, pend]), Int.le_refl _, by omega, .inr ?_⟩
      rw [e]
      simp [remF, h1]
    · have eg : goF (th k) M = (⟨(th k).held, .push ⟨3, o.h, o.to⟩⟩, M.link o.to (headW (wSlot o.h) 0)) := by simp [goF, e, pushF, h1]
      rw [eg]
      have hst : Stk (M.link o.to (headW (wSlot o.h) 0)) S T := ⟨I.stk.hd, I.stk.ch.upd hnS _, I.stk.nd, I.stk.t0, I.stk.t1⟩
      refine ⟨S, T, I.put hk hst ⟨hu, hin, .inr (.inr ⟨rfl, h3, fun eh => ?_⟩)⟩ (fun j hj hjk => (I.ops j hj).link (fun y hy => ?_)) (fun z => by rw [ew]; simp [ownT, pend]), Int.le_refl _, by omega, .inr ?_⟩
      · have hin2 := slot_in o.h
        simp only [MS.link, if_true]
        rw [slot_head _ _ hin2.1 (by omega)]
        have : M.hd = o.h := eh.symm
        rw [← this]
        exact hslot
      · intro ey
        exact I.notin2 hj hk hjk (z := y) (by unfold ownT; exact List.mem_append_right _ hy) (by rw [ew, ey]; simp)
      · rw [e]
        simp only [remF, h1, MS.link]
        by_cases hh : o.h = M.hd <;> simp [hh]
    · by_cases hh : M.hd = o.h
      · have etg : fld o.h 16 48 = T := by rw [← hh]; exact htag
        have eg : goF (th k) M = (⟨(th k).held, .no⟩, ⟨headW o.to (T + 1), M.lk⟩) := by
          simp [goF, e, pushF, swapF, h1, hh, nextW, etg]
        rw [eg]
        have hst' := I.stk.pushed (h4 hh.symm) hnS hto.1 (by omega) hT
        have e2 : fld (MS.mk (headW o.to (T + 1)) M.lk).hd 16 48 = T + 1 := hst'.tag
        refine ⟨o.to :: S, T + 1, I.put hk hst' trivial (fun j hj hjk => (I.ops j hj).up I.stk e2) (fun z => ?_), by omega, by omega, .inl rfl⟩
        rw [ew]
        simp only [ownT, pend, List.count_append, List.count_cons, List.count_nil]
        simp
        omega
      · have eg : goF (th k) M = (⟨(th k).held, .push ⟨1, o.h, o.to⟩⟩, M) := by simp [goF, e, pushF, swapF, h1, hh]
        rw [eg]
        refine ⟨S, T, I.put hk I.stk ⟨hu, hin, .inl rfl⟩ hoth (fun z => by rw [ew]; simp [ownT, pend]), Int.le_refl _, by omega, .inr ?_⟩
        rw [e]
        have : ¬ o.h = M.hd := fun h => hh h.symm
        simp [remF, h1, this]
end
end Go.Proofs.YtlcbinckbkdgdaaDoor
