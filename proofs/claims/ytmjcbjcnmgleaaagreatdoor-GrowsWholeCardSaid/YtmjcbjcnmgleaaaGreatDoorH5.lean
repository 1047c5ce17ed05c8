/-
  Threads over the list of free slots, in plain words: a step of one keeps what holds, and brings its operation nearer to its end; no condition.
  One step of a Pop and of a Push by themselves, in plain words: what it makes of the list, and what others have under way keeps; no condition.
  One step of a Park in plain words: where it stands afterwards, what it tells, how far it is; no condition.
-/
import Derived.Test.YtmjcbjcnmgleaaaGreatDoorH4
namespace Go.Proofs.YtmjcbjcnmgleaaaGreatDoor
open Go.RowKit Go.Maps

section
variable {n : Nat} {th : Nat → Th} {S : List Int} {T : Int} {M : MS}
/-- The parts of a step: thread k's new state, the list's. -/
theorem Inv.put (I : Inv n th S T M) {k : Nat} (hk : k < 6) {t : Th} {S' : List Int} {T' : Int} {M' : MS} (stk : Stk M' S' T') (hop : OpOk n M' S' T' t.op) (hoth : ∀ j, j < 6 → j ≠ k → OpOk n M' S' T' (th j).op)
    (hc : ∀ z, S'.count z + (ownT t).count z = S.count z + (ownT (th k)).count z) : Inv n (updT th k t) S' T' M' := by
  refine ⟨stk, fun j hj => ?_, fun z => ?_⟩
  · by_cases hjk : j = k
    · subst hjk; rw [updT_same]; exact hop
    · rw [updT_ne _ _ hjk]; exact hoth j hj hjk
  · have h := sum6_upd (fun j => (ownT (th j)).count z) (fun j => (ownT (updT th k t j)).count z) hk (fun j hj => by rw [updT_ne _ _ hj])
    rw [updT_same] at h
    have := I.cnt z
    have := hc z
    unfold cntT at *
    omega
theorem topOf_cons {S : List Int} {x : Int} (h : topOf S = x) (hx : 0 ≤ x) : S = x :: S.tail := by
  cases S with
  | nil => simp [topOf] at h; omega
  | cons y r => simp only [topOf] at h; rw [h]; rfl

theorem Inv.go (I : Inv n th S T M) (hn : n ≤ 60) (hT : T + 1 < 1000000) {k : Nat} (hk : k < 6) (hop : (th k).op ≠ .no) :
    ∃ S' T', Inv n (updT th k (goF (th k) M).1) S' T' (goF (th k) M).2 ∧ T ≤ T' ∧ T' ≤ T + 1 ∧ ((goF (th k) M).1.op = .no ∨ remF (goF (th k) M).2 (goF (th k) M).1.op + 1 ≤ remF M (th k).op) := by
  have ho := I.ops k hk
  have hown : ∀ z ∈ ownT (th k), 0 ≤ z ∧ z < n := fun z hz => I.owned hk hz
  have hnot : ∀ z ∈ ownT (th k), z ∉ S := fun z hz => I.notin hk hz
  have hslot := I.stk.slotM
  have htag := I.stk.tag
  have hoth : ∀ j, j < 6 → j ≠ k → OpOk n M S T (th j).op := fun j hj _ => I.ops j hj
  obtain ⟨o, e⟩ | ⟨o, e⟩ : (∃ o, (th k).op = .pop o) ∨ ∃ o, (th k).op = .push o := by
    cases h : (th k).op with
    | no => exact absurd h hop
    | pop o => exact .inl ⟨o, rfl⟩
    | push o => exact .inr ⟨o, rfl⟩
  · -- a Pop
    have ew : ownT (th k) = (th k).held := by simp [ownT, e, pend]
    rw [e] at ho
    obtain ⟨hu, h1 | ⟨h1, h2, h3⟩ | ⟨h1, h2, h3, h4⟩⟩ := ho
    · -- its first line
      by_cases hs : wSlot M.hd < 0
      · have eg : goF (th k) M = (⟨(th k).held, .no⟩, M) := by simp [goF, e, popF, h1, hs]
        rw [eg]
        refine ⟨S, T, I.put hk I.stk trivial hoth (fun z => by rw [ew]; simp [ownT, pend]), Int.le_refl _, by omega, .inl rfl⟩
      · have eg : goF (th k) M = (⟨(th k).held, .pop ⟨2, M.hd, o.to⟩⟩, M) := by simp [goF, e, popF, h1, hs]
        rw [eg]
        refine ⟨S, T, I.put hk I.stk ⟨I.stk.u64, .inr (.inl ⟨rfl, Int.not_lt.1 hs, .inl rfl⟩)⟩ hoth (fun z => by rw [ew]; simp [ownT, pend]), Int.le_refl _, by omega, .inr ?_⟩
        rw [e]
        simp [remF, h1]
    · have eg : goF (th k) M = (⟨(th k).held, .pop ⟨3, o.h, wSlot (M.lk (wSlot o.h))⟩⟩, M) := by simp [goF, e, popF, h1]
      rw [eg]
      refine ⟨S, T, I.put hk I.stk ⟨hu, .inr (.inr ⟨rfl, h2, h3, fun eh => ?_⟩)⟩ hoth (fun z => by rw [ew]; simp [ownT, pend]), Int.le_refl _, by omega, .inr ?_⟩
      · have ec := topOf_cons (S := S) (x := wSlot o.h) (by rw [eh, hslot]) h2
        have hc := I.stk.ch
        rw [ec] at hc
        exact hc.1.2.2
      · rw [e]
        simp only [remF, h1]
        by_cases hh : o.h = M.hd <;> simp [hh]
    · by_cases hh : M.hd = o.h
      · have ec := topOf_cons (S := S) (x := wSlot o.h) (by rw [← hh, hslot]) h2
        have et : o.to = topOf S.tail := h4 hh.symm
        have etg : fld o.h 16 48 = T := by rw [← hh]; exact htag
        have eg : goF (th k) M = (⟨(th k).held ++ [wSlot o.h], .no⟩, ⟨headW (topOf S.tail) (T + 1), M.lk⟩) := by
          have hw : ¬ wSlot o.h < 0 := by omega
          simp [goF, e, popF, swapF, h1, hh, nextW, hw, et, etg]
        rw [eg]
        have hst := I.stk
        rw [ec] at hst
        have hst' := hst.popped hT
        have e2 : fld (MS.mk (headW (topOf S.tail) (T + 1)) M.lk).hd 16 48 = T + 1 := hst'.tag
        refine ⟨S.tail, T + 1, I.put hk hst' trivial (fun j hj hjk => (I.ops j hj).up I.stk e2) (fun z => ?_), by omega, by omega, .inl rfl⟩
        rw [ew]
        conv => rhs; rw [ec]
        simp only [ownT, pend, List.count_append, List.count_cons, List.count_nil]
        simp
        omega
      · have eg : goF (th k) M = (⟨(th k).held, .pop ⟨1, o.h, o.to⟩⟩, M) := by simp [goF, e, popF, swapF, h1, hh]
        rw [eg]
        refine ⟨S, T, I.put hk I.stk ⟨hu, .inl rfl⟩ hoth (fun z => by rw [ew]; simp [ownT, pend]), Int.le_refl _, by omega, .inr ?_⟩
        rw [e]
        have : ¬ o.h = M.hd := fun h => hh h.symm
        simp [remF, h1, this]
  · -- a Push
    have ew : ownT (th k) = (th k).held ++ [o.to] := by simp [ownT, e, pend]
    have hto := hown o.to (by rw [ew]; simp)
    have hnS := hnot o.to (by rw [ew]; simp)
    rw [e] at ho
    obtain ⟨hu, hin, h1 | ⟨h1, h3⟩ | ⟨h1, h3, h4⟩⟩ := ho
    · have eg : goF (th k) M = (⟨(th k).held, .push ⟨2, M.hd, o.to⟩⟩, M) := by simp [goF, e, pushF, h1]
      rw [eg]
      refine ⟨S, T, I.put hk I.stk ⟨I.stk.u64, hin, .inr (.inl ⟨rfl, .inl rfl⟩)⟩ hoth (fun z => by rw [ew]; simp [ownT, pend]), Int.le_refl _, by omega, .inr ?_⟩
      rw [e]
      simp [remF, h1]
    · have eg : goF (th k) M = (⟨(th k).held, .push ⟨3, o.h, o.to⟩⟩, M.link o.to (headW (wSlot o.h) 0)) := by simp [goF, e, pushF, h1]
      rw [eg]
      have hst : Stk (M.link o.to (headW (wSlot o.h) 0)) S T := ⟨I.stk.hd, I.stk.ch.upd hnS _, I.stk.nd, I.stk.t0, I.stk.t1⟩
      refine ⟨S, T, I.put hk hst ⟨hu, hin, .inr (.inr ⟨rfl, h3, fun eh => ?_⟩)⟩ (fun j hj hjk => (I.ops j hj).link (fun y hy => ?_)) (fun z => by rw [ew]; simp [ownT, pend]), Int.le_refl _, by omega, .inr ?_⟩
      · have hin2 := slot_in o.h
        simp only [MS.link, if_true]
        rw [slot_head _ _ hin2.1 (by omega)]
        have : M.hd = o.h := eh.symm
        rw [← this]
        exact hslot
      · intro ey
        exact I.notin2 hj hk hjk (z := y) (by unfold ownT; exact List.mem_append_right _ hy) (by rw [ew, ey]; simp)
      · rw [e]
        simp only [remF, h1, MS.link]
        by_cases hh : o.h = M.hd <;> simp [hh]
    · by_cases hh : M.hd = o.h
      · have etg : fld o.h 16 48 = T := by rw [← hh]; exact htag
        have eg : goF (th k) M = (⟨(th k).held, .no⟩, ⟨headW o.to (T + 1), M.lk⟩) := by
          simp [goF, e, pushF, swapF, h1, hh, nextW, etg]
        rw [eg]
        have hst' := I.stk.pushed (h4 hh.symm) hnS hto.1 (by omega) hT
        have e2 : fld (MS.mk (headW o.to (T + 1)) M.lk).hd 16 48 = T + 1 := hst'.tag
        refine ⟨o.to :: S, T + 1, I.put hk hst' trivial (fun j hj hjk => (I.ops j hj).up I.stk e2) (fun z => ?_), by omega, by omega, .inl rfl⟩
        rw [ew]
        simp only [ownT, pend, List.count_append, List.count_cons, List.count_nil]
        simp
        omega
      · have eg : goF (th k) M = (⟨(th k).held, .push ⟨1, o.h, o.to⟩⟩, M) := by simp [goF, e, pushF, swapF, h1, hh]
        rw [eg]
        refine ⟨S, T, I.put hk I.stk ⟨hu, hin, .inl rfl⟩ hoth (fun z => by rw [ew]; simp [ownT, pend]), Int.le_refl _, by omega, .inr ?_⟩
        rw [e]
        have : ¬ o.h = M.hd := fun h => hh h.symm
        simp [remF, h1, this]
end
end Go.Proofs.YtmjcbjcnmgleaaaGreatDoor
namespace Go.Proofs.YtmjcbjcnmgleaaaGreatDoor
open Go.RowKit Go.Maps

section
variable {n : Nat} {S : List Int} {T : Int} {M : MS}
/-- What others have under way keeps. -/
def Mv (n : Nat) (x : Int) (M : MS) (S : List Int) (T : Int) (M' : MS) (S' : List Int) (T' : Int) : Prop :=
  ∀ o : TO, (∀ y ∈ pend o, y ≠ x) → OpOk n M S T o → OpOk n M' S' T' o
theorem Mv.refl (x : Int) : Mv n x M S T M S T := fun _ _ h => h
theorem pushA_step (stk : Stk M S T) (hn : n ≤ 60) (hT : T + 1 < 1000000) {o : OS} (hnS : o.to ∉ S) (ok : OpOk n M S T (.push o)) :
    ∃ S' T', Stk (pushF o M).2 S' T' ∧ T ≤ T' ∧ T' ≤ T + 1 ∧ (pushF o M).1.to = o.to ∧ Mv n o.to M S T (pushF o M).2 S' T' ∧
      (((pushF o M).1.nx ≠ 0 ∧ S' = S ∧ OpOk n (pushF o M).2 S' T' (.push (pushF o M).1) ∧ remF (pushF o M).2 (.push (pushF o M).1) + 1 ≤ remF M (.push o)) ∨ ((pushF o M).1.nx = 0 ∧ S' = o.to :: S ∧ 1 ≤ remF M (.push o))) := by
  obtain ⟨hu, hin, h1 | ⟨h1, h3⟩ | ⟨h1, h3, h4⟩⟩ := ok
  · have eg : pushF o M = (⟨2, M.hd, o.to⟩, M) := by simp [pushF, h1]
    rw [eg]
    exact ⟨S, T, stk, Int.le_refl _, by omega, rfl, Mv.refl _, .inl ⟨by simp, rfl, ⟨stk.u64, hin, .inr (.inl ⟨rfl, .inl rfl⟩)⟩, by simp [remF, h1]⟩⟩
  · have eg : pushF o M = (⟨3, o.h, o.to⟩, M.link o.to (headW (wSlot o.h) 0)) := by simp [pushF, h1]
    rw [eg]
    refine ⟨S, T, ⟨stk.hd, stk.ch.upd hnS _, stk.nd, stk.t0, stk.t1⟩, Int.le_refl _, by omega, rfl, fun x hx k => k.link hx, .inl ⟨by simp, rfl, ⟨hu, hin, .inr (.inr ⟨rfl, h3, fun eh => ?_⟩)⟩, ?_⟩⟩
    · have hin2 := slot_in o.h
      simp only [MS.link, if_true]
      rw [slot_head _ _ hin2.1 (by omega)]
      have : M.hd = o.h := eh.symm
      rw [← this]
      exact stk.slotM
    · simp only [remF, h1, MS.link]
      by_cases hh : o.h = M.hd <;> simp [hh]
  · by_cases hh : M.hd = o.h
    · have etg : fld o.h 16 48 = T := by rw [← hh]; exact stk.tag
      have eg : pushF o M = (⟨0, o.h, o.to⟩, ⟨headW o.to (T + 1), M.lk⟩) := by simp [pushF, swapF, h1, hh, nextW, etg]
      rw [eg]
      have hst' := stk.pushed (h4 hh.symm) hnS hin.1 (by omega) hT
      exact ⟨o.to :: S, T + 1, hst', by omega, by omega, rfl, fun x hx k => k.up stk hst'.tag, .inr ⟨rfl, rfl, by simp only [remF, h1]; by_cases hh : o.h = M.hd <;> simp [hh]⟩⟩
    · have eg : pushF o M = (⟨1, o.h, o.to⟩, M) := by simp [pushF, swapF, h1, hh]
      rw [eg]
      have : ¬ o.h = M.hd := fun h => hh h.symm
      exact ⟨S, T, stk, Int.le_refl _, by omega, rfl, Mv.refl _, .inl ⟨by simp, rfl, ⟨hu, hin, .inl rfl⟩, by simp [remF, h1, this]⟩⟩
theorem popA_step (stk : Stk M S T) (hT : T + 1 < 1000000) {o : OS} (ok : OpOk n M S T (.pop o)) (x : Int) :
    ∃ S' T', Stk (popF o M).2 S' T' ∧ T ≤ T' ∧ T' ≤ T + 1 ∧ Mv n x M S T (popF o M).2 S' T' ∧ (popF o M).2.lk = M.lk ∧
      (((popF o M).1.nx ≠ 0 ∧ S' = S ∧ OpOk n (popF o M).2 S' T' (.pop (popF o M).1) ∧ remF (popF o M).2 (.pop (popF o M).1) + 1 ≤ remF M (.pop o)) ∨ ((popF o M).1.nx = 0 ∧ wSlot (popF o M).1.h < 0 ∧ S' = S ∧ 1 ≤ remF M (.pop o)) ∨ ((popF o M).1.nx = 0 ∧ 0 ≤ wSlot (popF o M).1.h ∧ S = wSlot (popF o M).1.h :: S' ∧ 1 ≤ remF M (.pop o))) := by
  obtain ⟨hu, h1 | ⟨h1, h2, h3⟩ | ⟨h1, h2, h3, h4⟩⟩ := ok
  · by_cases hs : wSlot M.hd < 0
    · have eg : popF o M = (⟨0, M.hd, o.to⟩, M) := by simp [popF, h1, hs]
      rw [eg]
      exact ⟨S, T, stk, Int.le_refl _, by omega, Mv.refl _, rfl, .inr (.inl ⟨rfl, hs, rfl, by simp [remF, h1]⟩)⟩
    · have eg : popF o M = (⟨2, M.hd, o.to⟩, M) := by simp [popF, h1, hs]
      rw [eg]
      exact ⟨S, T, stk, Int.le_refl _, by omega, Mv.refl _, rfl, .inl ⟨by simp, rfl, ⟨stk.u64, .inr (.inl ⟨rfl, Int.not_lt.1 hs, .inl rfl⟩)⟩, by simp [remF, h1]⟩⟩
  · have eg : popF o M = (⟨3, o.h, wSlot (M.lk (wSlot o.h))⟩, M) := by simp [popF, h1]
    rw [eg]
    refine ⟨S, T, stk, Int.le_refl _, by omega, Mv.refl _, rfl, .inl ⟨by simp, rfl, ⟨hu, .inr (.inr ⟨rfl, h2, h3, fun eh => ?_⟩)⟩, ?_⟩⟩
    · have ec := topOf_cons (S := S) (x := wSlot o.h) (by rw [eh, stk.slotM]) h2
      have hc := stk.ch
      rw [ec] at hc
      exact hc.1.2.2
    · simp only [remF, h1]
      by_cases hh : o.h = M.hd <;> simp [hh]
  · by_cases hh : M.hd = o.h
    · have ec := topOf_cons (S := S) (x := wSlot o.h) (by rw [← hh, stk.slotM]) h2
      have et : o.to = topOf S.tail := h4 hh.symm
      have etg : fld o.h 16 48 = T := by rw [← hh]; exact stk.tag
      have eg : popF o M = (⟨0, o.h, o.to⟩, ⟨headW (topOf S.tail) (T + 1), M.lk⟩) := by
        simp [popF, swapF, h1, hh, nextW, et, etg]
      rw [eg]
      have hst := stk
      rw [ec] at hst
      have hst' := hst.popped hT
      exact ⟨S.tail, T + 1, hst', by omega, by omega, fun x hx k => k.up stk hst'.tag, rfl, .inr (.inr ⟨rfl, h2, ec, by simp only [remF, h1]; by_cases hh : o.h = M.hd <;> simp [hh]⟩)⟩
    · have eg : popF o M = (⟨1, o.h, o.to⟩, M) := by simp [popF, swapF, h1, hh]
      rw [eg]
      have : ¬ o.h = M.hd := fun h => hh h.symm
      exact ⟨S, T, stk, Int.le_refl _, by omega, Mv.refl _, rfl, .inl ⟨by simp, rfl, ⟨hu, .inl rfl⟩, by simp [remF, h1, this]⟩⟩
end
end Go.Proofs.YtmjcbjcnmgleaaaGreatDoor
namespace Go.Proofs.YtmjcbjcnmgleaaaGreatDoor
open Go.RowKit Go.Maps

theorem header_form (s g : Int) (h0 : 0 ≤ s) (h1 : s ≤ 4) (g0 : 0 ≤ g) (g1 : g < 4294967296) : headerW s g = s + g * 8 := by
  unfold headerW stS pw
  have e3 : (2 : Int) ^ 3 = 8 := by decide
  have e32 : (2 : Int) ^ 32 = 4294967296 := by decide
  rw [p0, e3, e32, Int.emod_eq_of_lt g0 g1]
  split
  · have : s = 4 := by omega
    subst this; omega
  · rw [Int.emod_eq_of_lt h0 (by omega)]; omega
theorem gW_header (s g : Int) (h0 : 0 ≤ s) (h1 : s ≤ 4) (g0 : 0 ≤ g) (g1 : g < 4294967296) : gW (headerW s g) = g := by
  rw [header_form s g h0 h1 g0 g1]
  unfold gW fld
  have e3 : (2 : Int) ^ 3 = 8 := by decide
  have e32 : (2 : Int) ^ 32 = 4294967296 := by decide
  rw [e3, e32]
  omega
section
variable {n : Nat} {S : List Int} {T : Int} {M : MA} {mo : Int} {lst : Int → Int}
theorem stW_header (s g : Int) (h0 : 0 ≤ s) (h1 : s ≤ 4) (g0 : 0 ≤ g) (g1 : g < 4294967296) : stW (headerW s g) = s := by
  rw [header_form s g h0 h1 g0 g1]
  unfold stW fld
  have e3 : (2 : Int) ^ 3 = 8 := by decide
  rw [e3, p0]
  omega
/-- A slot's header: its state, and a generation that has not been. -/
def Hg (M : MA) (mo : Int) (lst : Int → Int) (st z : Int) : Prop := ∃ g, M.hdr z = headerW st g ∧ lst z ≤ g ∧ 0 ≤ g ∧ g ≤ mo
def PkOk (n : Nat) (M : MA) (S : List Int) (T mo : Int) (lst : Int → Int) (o : PO) : Prop :=
  (0 ≤ o.sl ∧ o.sl < n) ∧ (o.psh = ⟨1, 0, o.sl⟩ ∨ o.ln = 10) ∧ o.psh.to = o.sl ∧
  ((o.ln = 1 ∧ Hg M mo lst 0 o.sl) ∨ ∃ g, gW o.w = g ∧ lst o.sl ≤ g ∧ 0 ≤ g ∧ g ≤ mo ∧ ((o.ln = 2 ∧ M.hdr o.sl = headerW 0 g) ∨ (3 ≤ o.ln ∧ o.ln ≤ 9 ∧ M.hdr o.sl = headerW 3 g) ∨ (o.ln = 10 ∧ M.hdr o.sl = headerW 0 g ∧ OpOk n M.ms S T (.push o.psh))))
/-- Will its slot come back to the list, if nobody else steps? -/
def wpP (M : MA) (o : PO) : Nat := if 9 ≤ o.ln ∨ M.sst (segF o.sl) = 1 then 1 else 0
def remP (M : MA) (o : PO) : Nat :=
  if o.ln = 10 then remF M.ms (.push o.psh)
  else if o.ln = 9 then 6
  else if M.sst (segF o.sl) = 1 then
    (if o.ln = 8 then 7 else if o.ln = 7 then (if M.spk (segF o.sl) = o.n then 8 else 10) else if o.ln = 6 then 9 else if o.ln = 5 then 10 else if o.ln = 4 then (if M.spk (segF o.sl) = o.n then 11 else 13) else if o.ln = 3 then 12 else if o.ln = 2 then 13 else 14)
  else (if o.ln = 5 then 1 else if o.ln = 4 then (if M.spk (segF o.sl) = o.n then 2 else 4) else if o.ln = 3 then 3 else if o.ln = 2 then 4 else if o.ln = 1 then 5 else if o.ln = 8 then 4 else if o.ln = 7 then (if M.spk (segF o.sl) = o.n then 5 else 7) else 6)
theorem remF_le5 (M : MS) (o : TO) : remF M o ≤ 5 := by
  cases o with
  | no => simp [remF]
  | pop o => simp only [remF]; repeat' split
             all_goals omega
  | push o => simp only [remF]; repeat' split
              all_goals omega
theorem remP_le (M : MA) (o : PO) : remP M o ≤ 14 := by
  unfold remP
  have := remF_le5 M.ms (.push o.psh)
  repeat' split
  all_goals omega
/-- What a step of an operation on this slot leaves as it was. -/
structure Lv (n : Nat) (x : Int) (M : MA) (S : List Int) (T : Int) (M' : MA) (S' : List Int) (T' : Int) : Prop where
  stk : Stk M'.ms S' T'
  t0 : T ≤ T'
  t1 : T' ≤ T + 1
  mv : Mv n x M.ms S T M'.ms S' T'
  hdr : ∀ z, z ≠ x → M'.hdr z = M.hdr z
  sst : M'.sst = M.sst
  spk : ∀ g, g ≠ segF x → M'.spk g = M.spk g
theorem Lv.refl (stk : Stk M.ms S T) (x : Int) : Lv n x M S T M S T := ⟨stk, Int.le_refl _, by omega, Mv.refl _, fun _ _ => rfl, rfl, fun _ _ => rfl⟩
theorem Lv.setH (stk : Stk M.ms S T) (x v : Int) : Lv n x M S T (M.setH x v) S T := ⟨stk, Int.le_refl _, by omega, Mv.refl _, fun z hz => by simp [MA.setH, hz], rfl, fun _ _ => rfl⟩
theorem Lv.setP (stk : Stk M.ms S T) (x v : Int) : Lv n x M S T (M.setP (segF x) v) S T := ⟨stk, Int.le_refl _, by omega, Mv.refl _, fun z hz => rfl, rfl, fun g hg => by simp [MA.setP, hg]⟩

theorem park_step (stk : Stk M.ms S T) (hn : n ≤ 60) (hT : T + 1 < 1000000) {o : PO} (hnS : o.sl ∉ S) (ok : PkOk n M S T mo lst o) (hmo : mo < 4294967296) (hsp : (tlP o : Int) ≤ M.spk (segF o.sl)) (hsp2 : M.spk (segF o.sl) < 1000) :
    ∃ S' T', Lv n o.sl M S T (parkF o M).2 S' T' ∧ (parkF o M).1.sl = o.sl ∧
      (((parkF o M).1.ln ≠ 0 ∧ S' = S ∧ PkOk n (parkF o M).2 S' T' mo lst (parkF o M).1 ∧ (parkF o M).2.spk (segF o.sl) + tlP o = M.spk (segF o.sl) + tlP (parkF o M).1 ∧ remP (parkF o M).2 (parkF o M).1 + 1 ≤ remP M o ∧ wpP (parkF o M).2 (parkF o M).1 = wpP M o)
      ∨ ((parkF o M).1.ln = 0 ∧ S' = S ∧ Hg (parkF o M).2 mo lst 3 o.sl ∧ (parkF o M).2.spk (segF o.sl) + tlP o = M.spk (segF o.sl) + 1 ∧ 1 ≤ remP M o)
      ∨ ((parkF o M).1.ln = 0 ∧ S' = o.sl :: S ∧ Hg (parkF o M).2 mo lst 0 o.sl ∧ (parkF o M).2.spk (segF o.sl) + tlP o = M.spk (segF o.sl) ∧ wpP M o = 1 ∧ 1 ≤ remP M o)) := by
  obtain ⟨ln, sl, w, nn, psh, st⟩ := o
  obtain ⟨hin, hp, hto, hl⟩ := ok
  simp only at hin hp hto hl hnS hsp hsp2
  rcases hl with ⟨rfl, g, hg, g0, g1, g2⟩ | ⟨g, hw, g0, g1, g2, ⟨rfl, hh⟩ | ⟨l0, l1, hh⟩ | ⟨rfl, hh, ho⟩⟩
  · have hp : psh = ⟨1, 0, sl⟩ := by simpa using hp
    refine ⟨S, T, Lv.refl stk _, rfl, .inl ⟨by simp [parkF], rfl, ⟨hin, .inl hp, hto, .inr ⟨g, ?_, g0, g1, g2, .inl ⟨rfl, hg⟩⟩⟩, by simp [parkF, tlP], by simp [parkF, remP]; split <;> omega, by simp [parkF, wpP]⟩⟩
    show gW (M.hdr sl) = g
    rw [hg, gW_header _ _ (by omega) (by omega) g1 (by omega)]
  · have hp : psh = ⟨1, 0, sl⟩ := by simpa using hp
    refine ⟨S, T, Lv.setH stk _ _, rfl, .inl ⟨by simp [parkF], rfl, ⟨hin, .inl hp, hto, .inr ⟨g, hw, g0, g1, g2, .inr (.inl ⟨by simp [parkF], by simp [parkF], ?_⟩)⟩⟩, by simp [parkF, tlP, MA.setH], by simp [parkF, remP, MA.setH]; split <;> omega, by simp [parkF, wpP, MA.setH]⟩⟩
    simp [parkF, MA.setH, hw]
  · have hpp : psh = ⟨1, 0, sl⟩ := by rcases hp with h | h
                                      · exact h
                                      · omega
    have hok : ∀ (M' : MA) (l x : Int), M'.hdr sl = M.hdr sl → 3 ≤ l → l ≤ 9 → PkOk n M' S T mo lst ⟨l, sl, w, x, psh, st⟩ := fun M' l x e a b => ⟨hin, .inl hpp, hto, .inr ⟨g, hw, g0, g1, g2, .inr (.inl ⟨a, b, e.trans hh⟩)⟩⟩
    obtain rfl | rfl | rfl | rfl | rfl | rfl | rfl : ln = 3 ∨ ln = 4 ∨ ln = 5 ∨ ln = 6 ∨ ln = 7 ∨ ln = 8 ∨ ln = 9 := by omega
    · exact ⟨S, T, Lv.refl stk _, rfl, .inl ⟨by simp [parkF], rfl, hok _ _ _ rfl (by decide) (by decide), by simp [parkF, tlP], by simp [parkF, remP]; split <;> omega, by simp [parkF, wpP]⟩⟩
    · by_cases hc : M.spk (segF sl) = nn
      · have e : parkF ⟨4, sl, w, nn, psh, st⟩ M = (⟨5, sl, w, nn, psh, st⟩, M.setP (segF sl) (up64 nn)) := by simp [parkF, hc]
        rw [e]
        refine ⟨S, T, Lv.setP stk _ _, rfl, .inl ⟨by simp, rfl, hok _ _ _ rfl (by decide) (by decide), ?_, by simp [remP, hc, MA.setP]; split <;> omega, by simp [wpP, MA.setP]⟩⟩
        have : 0 ≤ M.spk (segF sl) := by simpa [tlP] using hsp
        simp [tlP, MA.setP, up64]
        omega
      · have e : parkF ⟨4, sl, w, nn, psh, st⟩ M = (⟨3, sl, w, nn, psh, st⟩, M) := by simp [parkF, hc]
        rw [e]
        exact ⟨S, T, Lv.refl stk _, rfl, .inl ⟨by simp, rfl, hok _ _ _ rfl (by decide) (by decide), by simp [tlP], by simp [remP, hc]; split <;> omega, by simp [wpP]⟩⟩
    · by_cases hc : M.sst (segF sl) = 1
      · have e : parkF ⟨5, sl, w, nn, psh, st⟩ M = (⟨6, sl, w, nn, psh, st⟩, M) := by simp [parkF, hc]
        rw [e]
        exact ⟨S, T, Lv.refl stk _, rfl, .inl ⟨by simp, rfl, hok _ _ _ rfl (by decide) (by decide), by simp [tlP], by simp [remP, hc], by simp [wpP]⟩⟩
      · have e : parkF ⟨5, sl, w, nn, psh, st⟩ M = (⟨0, sl, w, nn, psh, true⟩, M) := by simp [parkF, hc]
        rw [e]
        exact ⟨S, T, Lv.refl stk _, rfl, .inr (.inl ⟨rfl, rfl, ⟨g, hh, g0, g1, g2⟩, by simp [tlP], by simp [remP, hc]⟩)⟩
    · exact ⟨S, T, Lv.refl stk _, rfl, .inl ⟨by simp [parkF], rfl, hok _ _ _ rfl (by decide) (by decide), by simp [parkF, tlP], by simp [parkF, remP]; split <;> omega, by simp [parkF, wpP]⟩⟩
    · by_cases hc : M.spk (segF sl) = nn
      · have e : parkF ⟨7, sl, w, nn, psh, st⟩ M = (⟨8, sl, w, nn, psh, st⟩, M.setP (segF sl) (down64 nn)) := by simp [parkF, hc]
        rw [e]
        refine ⟨S, T, Lv.setP stk _ _, rfl, .inl ⟨by simp, rfl, hok _ _ _ rfl (by decide) (by decide), ?_, by simp [remP, hc, MA.setP]; split <;> omega, by simp [wpP, MA.setP]⟩⟩
        have : 1 ≤ M.spk (segF sl) := by simpa [tlP] using hsp
        simp [tlP, MA.setP, down64]
        omega
      · have e : parkF ⟨7, sl, w, nn, psh, st⟩ M = (⟨6, sl, w, nn, psh, st⟩, M) := by simp [parkF, hc]
        rw [e]
        exact ⟨S, T, Lv.refl stk _, rfl, .inl ⟨by simp, rfl, hok _ _ _ rfl (by decide) (by decide), by simp [tlP], by simp [remP, hc]; split <;> omega, by simp [wpP]⟩⟩
    · by_cases hc : M.sst (segF sl) = 1
      · have e : parkF ⟨8, sl, w, nn, psh, st⟩ M = (⟨9, sl, w, nn, psh, st⟩, M) := by simp [parkF, hc]
        rw [e]
        exact ⟨S, T, Lv.refl stk _, rfl, .inl ⟨by simp, rfl, hok _ _ _ rfl (by decide) (by decide), by simp [tlP], by simp [remP, hc], by simp [wpP, hc]⟩⟩
      · have e : parkF ⟨8, sl, w, nn, psh, st⟩ M = (⟨3, sl, w, nn, psh, st⟩, M) := by simp [parkF, hc]
        rw [e]
        exact ⟨S, T, Lv.refl stk _, rfl, .inl ⟨by simp, rfl, hok _ _ _ rfl (by decide) (by decide), by simp [tlP], by simp [remP, hc], by simp [wpP, hc]⟩⟩
    · have e : parkF ⟨9, sl, w, nn, psh, st⟩ M = (⟨10, sl, w, nn, psh, st⟩, M.setH sl (headerW 0 g)) := by simp [parkF, hh, hw]
      rw [e]
      refine ⟨S, T, Lv.setH stk _ _, rfl, .inl ⟨by simp, rfl, ⟨hin, .inr rfl, hto, .inr ⟨g, hw, g0, g1, g2, .inr (.inr ⟨rfl, by simp [MA.setH], ?_⟩)⟩⟩, by simp [tlP, MA.setH], by simp [remP, remF, hpp], by simp [wpP]⟩⟩
      rw [hpp]
      exact ⟨u64_0, hin, .inl rfl⟩
  · obtain ⟨S', T', h1, h2, h3, h4, h5, h6⟩ := pushA_step stk hn hT (o := psh) (by rw [hto]; exact hnS) ho
    rw [hto] at h5 h4 h6
    have e : parkF ⟨10, sl, w, nn, psh, st⟩ M = (⟨if (pushF psh M.ms).1.nx = 0 then 0 else 10, sl, w, nn, (pushF psh M.ms).1, st⟩, { M with ms := (pushF psh M.ms).2 }) := by simp [parkF]
    rw [e]
    refine ⟨S', T', ⟨h1, h2, h3, h5, fun _ _ => rfl, rfl, fun _ _ => rfl⟩, rfl, ?_⟩
    rcases h6 with ⟨k1, k2, k3, k4⟩ | ⟨k1, k2, k3⟩
    · rw [if_neg k1]
      exact .inl ⟨by simp, k2, ⟨hin, .inr rfl, h4, .inr ⟨g, hw, g0, g1, g2, .inr (.inr ⟨rfl, hh, k3⟩)⟩⟩, by simp [tlP], by simpa [remP] using k4, by simp [wpP]⟩
    · rw [if_pos k1]
      exact .inr (.inr ⟨rfl, k2, ⟨g, hh, g0, g1, g2⟩, by simp [tlP], by simp [wpP], by simpa [remP] using k3⟩)
end
end Go.Proofs.YtmjcbjcnmgleaaaGreatDoor
