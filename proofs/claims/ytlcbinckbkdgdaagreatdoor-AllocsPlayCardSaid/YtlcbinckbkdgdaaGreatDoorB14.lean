/-
  Package allocs, one thread alone, in plain words: an Alloc of eight steps, a Free of six, or four; a list that is filled; condition: the list lies as a stack, the segment does not drain.
  A new memory; the law's Begin: segments mapped, all their slots in the list; condition: the tables as laid.
  How many steps of the memory an operation's step takes; the law's Made, of one alone; condition: the tables as laid, the memory lies as it says.
  One thread alone: what an Alloc and a Free leave, in plain words; a Free's steps in a row; the law's examples (lives); condition: the tables as laid.
  The law's examples (lives), walked: they return true; condition: the tables as laid.
-/
import Derived.Test.YtlcbinckbkdgdaaGreatDoorB12
import Derived.Test.YtlcbinckbkdgdaaGreatDoorAG2
import Derived.Laws.StructEq
namespace Go.Proofs.YtlcbinckbkdgdaaGreatDoor
open Go.RowKit Go.Maps

/-- The slots from n - 1 down. -/
def downS : Nat → List Int
  | 0 => []
  | n + 1 => (n : Int) :: downS n
theorem down_count (n : Nat) (z : Int) : (downS n).count z = if 0 ≤ z ∧ z < n then 1 else 0 := by
  induction n with
  | zero => rw [if_neg (by omega)]; rfl
  | succ n ih =>
    simp only [downS, List.count_cons]
    rw [ih]
    by_cases h : (n : Int) = z
    · subst h
      rw [if_neg (show ¬ (0 ≤ (n : Int) ∧ (n : Int) < n) by omega), if_pos (show 0 ≤ (n : Int) ∧ (n : Int) < ((n + 1 : Nat) : Int) by omega)]
      simp
    · have hb : ((n : Int) == z) = false := by simpa using h
      rw [hb]
      by_cases h1 : 0 ≤ z ∧ z < n
      · rw [if_pos h1, if_pos (show 0 ≤ z ∧ z < ((n + 1 : Nat) : Int) by omega)]; rfl
      · rw [if_neg h1, if_neg (show ¬ (0 ≤ z ∧ z < ((n + 1 : Nat) : Int)) by omega)]; rfl
theorem down_notin (n : Nat) : (n : Int) ∉ downS n := by
  rw [← List.count_eq_zero, down_count, if_neg (by omega)]
def iterA (M : MV) : Nat → AX × MV
  | 0 => (⟨newAl, 0⟩, M)
  | j + 1 => alX (iterA M j).1 (iterA M j).2
def iterF (s m : Int) (M : MV) : Nat → FX × MV
  | 0 => (⟨newFr s m, 0⟩, M)
  | j + 1 => frX (iterF s m M j).1 (iterF s m M j).2
def pushed3 (x : Int) (M : MV) : MV := (pushX (pushX (pushX ⟨1, 0, x⟩ M).1 (pushX ⟨1, 0, x⟩ M).2).1 (pushX (pushX ⟨1, 0, x⟩ M).1 (pushX ⟨1, 0, x⟩ M).2).2).2
section
variable {M : MV} {S : List Int} {x s T v : Int} {V : Ad → Int}
theorem er_ne : adEr ≠ adF := ad_ne (.inl (by decide))
theorem er_neS (hs : 0 ≤ s ∧ s < 256) : adEr ≠ adS s ∧ adEr ≠ adH s ∧ adEr ≠ adB s :=
  ⟨ad_ne (.inl (by rw [(adS_at (slot_i64 hs)).1]; decide)), ad_ne (.inl (by rw [(adH_at (slot_i64 hs)).1]; decide)), ad_ne (.inl (by rw [(adB_at (slot_i64 hs)).1]; decide))⟩
theorem er_neG {g : Int} (hg : 0 ≤ g ∧ g < 32) : adEr ≠ adG g ∧ adEr ≠ adP g :=
  ⟨ad_ne (.inl (by rw [(adG_at (g_i64 hg)).1]; decide)), ad_ne (.inl (by rw [(adP_at (g_i64 hg)).1]; decide))⟩
theorem csV_hit (h : V adF = x) : csV V adF x v = setV V adF v := by rw [csV_F, if_pos h]
/-- A slot goes into the list, by three steps of one alone. -/
theorem push_alone (h : Stk (maV M.V).ms S T) (hx : x ∉ S) (h0 : 0 ≤ x ∧ x < 256) (ht : T + 1 < 1000000) :
    pushX ⟨1, 0, x⟩ M = (⟨2, M.V adF, x⟩, ldM M adF) ∧ pushX ⟨2, M.V adF, x⟩ (ldM M adF) = (⟨3, M.V adF, x⟩, stM (ldM M adF) (adS x) (headW (wSlot (M.V adF)) 0)) ∧
    pushX ⟨3, M.V adF, x⟩ (stM (ldM M adF) (adS x) (headW (wSlot (M.V adF)) 0)) = (⟨0, M.V adF, x⟩, csM (stM (ldM M adF) (adS x) (headW (wSlot (M.V adF)) 0)) adF (M.V adF) (nextW (M.V adF) x)) ∧
    Stk (maV (csM (stM (ldM M adF) (adS x) (headW (wSlot (M.V adF)) 0)) adF (M.V adF) (nextW (M.V adF) x)).V).ms (x :: S) (T + 1) ∧
    (csM (stM (ldM M adF) (adS x) (headW (wSlot (M.V adF)) 0)) adF (M.V adF) (nextW (M.V adF) x)).V = setV (setV M.V (adS x) (headW (wSlot (M.V adF)) 0)) adF (nextW (M.V adF) x) := by
  have hF : setV M.V (adS x) (headW (wSlot (M.V adF)) 0) adF = M.V adF := setV_other (ms_ne h0).1.symm _
  have eV : (csM (stM (ldM M adF) (adS x) (headW (wSlot (M.V adF)) 0)) adF (M.V adF) (nextW (M.V adF) x)).V = setV (setV M.V (adS x) (headW (wSlot (M.V adF)) 0)) adF (nextW (M.V adF) x) := csV_hit hF
  have hd : M.V adF = headW (topOf S) T := h.hd
  refine ⟨rfl, rfl, ?_, ?_, eV⟩
  · show (_, _) = _
    rw [show (stM (ldM M adF) (adS x) (headW (wSlot (M.V adF)) 0)).V adF = M.V adF from hF, if_pos rfl]
  · rw [eV, ma_head, ma_link h0]
    obtain ⟨g1, g2⟩ := h.linked hx
    have hw : wSlot (M.V adF) = topOf S := by rw [hd]; exact h.slot
    have := g1.pushed g2 hx h0.1 h0.2 ht
    rw [hw]
    have e : nextW (M.V adF) x = headW x (T + 1) := by rw [hd]; unfold nextW; rw [tag_small _ T h.t0 h.t1]
    rw [e]
    exact this
theorem alone_top (h : Stk (maV M.V).ms (s :: S) T) : (0 ≤ s ∧ s < 256) ∧ wSlot (M.V adF) = s ∧ wSlot (M.V (adS s)) = topOf S ∧ nextW (M.V adF) (topOf S) = headW (topOf S) (T + 1) := by
  have hs : 0 ≤ s ∧ s < 256 := ⟨h.ch.1.1, h.ch.1.2.1⟩
  have hd : M.V adF = headW (topOf (s :: S)) T := h.hd
  refine ⟨hs, by rw [hd]; exact h.slot, ?_, by rw [hd]; unfold nextW; rw [tag_small _ T h.t0 h.t1]⟩
  have := h.ch.1.2.2
  rw [ma_lk hs] at this
  exact this
/-- What an Alloc of one alone makes of the memory. -/
def madeM (M : MV) (s t : Int) : MV :=
  stM (ldM (stM (ldM (ldM (csM (ldM (ldM M adF) (adS s)) adF (M.V adF) (nextW (M.V adF) t)) (adG (segF s))) adEr) (adB s) (M.V adEr)) (adH s)) (adH s) (headerW 1 (gW (M.V (adH s))))
theorem made_V (h : Stk (maV M.V).ms (s :: S) T) : (madeM M s (topOf S)).V = setV (setV (setV M.V adF (headW (topOf S) (T + 1))) (adB s) (M.V adEr)) (adH s) (headerW 1 (gW (M.V (adH s)))) := by
  have := (alone_top h).2.2.2
  show setV (setV (csV M.V adF (M.V adF) _) _ _) _ _ = _
  rw [csV_hit rfl, this]
theorem made_alone (h : Stk (maV M.V).ms (s :: S) T) (hd : (maV M.V).sst (segF s) ≠ 2) : ∃ e,
    iterA M 8 = (⟨⟨0, ⟨0, M.V adF, topOf S⟩, s, M.V (adH s), newPark (-1), true⟩, e⟩, madeM M s (topOf S)) ∧ ∀ j, j < 8 → (iterA M j).1.o.ln ≠ 0 := by
  obtain ⟨hs, hw, hl, _⟩ := alone_top h
  have hg := seg_in hs
  rw [ma_sst hg] at hd
  have hn : ¬ s < 0 := by omega
  have e1 : iterA M 1 = (⟨{ newAl with pop := ⟨2, M.V adF, 0⟩ }, 0⟩, ldM M adF) := by
    show alX ⟨newAl, 0⟩ M = _
    simp [alX, newAl, popX, hw, hn]
  have e2 : iterA M 2 = (⟨{ newAl with pop := ⟨3, M.V adF, topOf S⟩ }, 0⟩, ldM (ldM M adF) (adS s)) := by
    show alX (iterA M 1).1 (iterA M 1).2 = _
    rw [e1]
    simp [alX, newAl, popX, hw, hl, ldM]
  have e3 : iterA M 3 = (⟨{ newAl with ln := 2, pop := ⟨0, M.V adF, topOf S⟩, sl := s }, 0⟩, csM (ldM (ldM M adF) (adS s)) adF (M.V adF) (nextW (M.V adF) (topOf S))) := by
    show alX (iterA M 2).1 (iterA M 2).2 = _
    rw [e2]
    simp [alX, newAl, popX, swapX, hw, hn, ldM]
  have hG : (csM (ldM (ldM M adF) (adS s)) adF (M.V adF) (nextW (M.V adF) (topOf S))).V (adG (segF s)) = M.V (adG (segF s)) := by
    show csV M.V adF (M.V adF) _ _ = _
    rw [csV_hit rfl, setV_other (mg_ne hg).1]
  have e4 : iterA M 4 = (⟨{ newAl with ln := 4, pop := ⟨0, M.V adF, topOf S⟩, sl := s }, 0⟩, ldM (csM (ldM (ldM M adF) (adS s)) adF (M.V adF) (nextW (M.V adF) (topOf S))) (adG (segF s))) := by
    show alX (iterA M 3).1 (iterA M 3).2 = _
    rw [e3]
    simp [alX, newAl, hG, hd]
  have hE : (csM (ldM (ldM M adF) (adS s)) adF (M.V adF) (nextW (M.V adF) (topOf S))).V adEr = M.V adEr := by
    show csV M.V adF (M.V adF) _ _ = _
    rw [csV_hit rfl, setV_other er_ne]
  have e5 : iterA M 5 = (⟨{ newAl with ln := 5, pop := ⟨0, M.V adF, topOf S⟩, sl := s }, M.V adEr⟩, ldM (ldM (csM (ldM (ldM M adF) (adS s)) adF (M.V adF) (nextW (M.V adF) (topOf S))) (adG (segF s))) adEr) := by
    show alX (iterA M 4).1 (iterA M 4).2 = _
    rw [e4]
    have : (ldM (csM (ldM (ldM M adF) (adS s)) adF (M.V adF) (nextW (M.V adF) (topOf S))) (adG (segF s))).V adEr = M.V adEr := hE
    simp [alX, newAl, this]
  have e6 : iterA M 6 = (⟨{ newAl with ln := 6, pop := ⟨0, M.V adF, topOf S⟩, sl := s }, M.V adEr⟩, stM (ldM (ldM (csM (ldM (ldM M adF) (adS s)) adF (M.V adF) (nextW (M.V adF) (topOf S))) (adG (segF s))) adEr) (adB s) (M.V adEr)) := by
    show alX (iterA M 5).1 (iterA M 5).2 = _
    rw [e5]
    simp [alX, newAl]
  have hH : (stM (ldM (ldM (csM (ldM (ldM M adF) (adS s)) adF (M.V adF) (nextW (M.V adF) (topOf S))) (adG (segF s))) adEr) (adB s) (M.V adEr)).V (adH s) = M.V (adH s) := by
    show setV (csV M.V adF (M.V adF) _) _ _ _ = _
    rw [setV_other (ss_ne hs hs).2.2.2.2.1, csV_hit rfl, setV_other (ms_ne hs).2.1]
  have e7 : iterA M 7 = (⟨{ newAl with ln := 7, pop := ⟨0, M.V adF, topOf S⟩, sl := s, w := M.V (adH s) }, M.V adEr⟩, ldM (stM (ldM (ldM (csM (ldM (ldM M adF) (adS s)) adF (M.V adF) (nextW (M.V adF) (topOf S))) (adG (segF s))) adEr) (adB s) (M.V adEr)) (adH s)) := by
    show alX (iterA M 6).1 (iterA M 6).2 = _
    rw [e6]
    simp [alX, newAl, hH]
  refine ⟨M.V adEr, ?_, fun j hj => ?_⟩
  · show alX (iterA M 7).1 (iterA M 7).2 = _
    rw [e7]
    simp [alX, newAl, madeM]
  · match j, hj with
    | 0, _ => show (1 : Int) ≠ 0; decide
    | 1, _ => rw [e1]; show (1 : Int) ≠ 0; decide
    | 2, _ => rw [e2]; show (1 : Int) ≠ 0; decide
    | 3, _ => rw [e3]; show (2 : Int) ≠ 0; decide
    | 4, _ => rw [e4]; show (4 : Int) ≠ 0; decide
    | 5, _ => rw [e5]; show (5 : Int) ≠ 0; decide
    | 6, _ => rw [e6]; show (6 : Int) ≠ 0; decide
    | 7, _ => rw [e7]; show (7 : Int) ≠ 0; decide
    | j + 8, hj => omega
/-- .. of an empty list. -/
theorem made_none (h : wSlot (M.V adF) < 0) : iterA M 1 = (⟨{ newAl with ln := 0, pop := ⟨0, M.V adF, 0⟩ }, 0⟩, ldM M adF) ∧ ∀ j, j < 1 → (iterA M j).1.o.ln ≠ 0 := by
  refine ⟨?_, fun j hj => ?_⟩
  · show alX ⟨newAl, 0⟩ M = _
    simp [alX, newAl, popX, h]
  · obtain rfl : j = 0 := by omega
    show (1 : Int) ≠ 0
    decide
/-- What a Free of one alone makes of the memory: the slot goes back to the list. -/
def freedM (M : MV) (s : Int) : MV :=
  let M1 := ldM (stM (ldM M (adH s)) (adH s) (headerW 0 (gW (M.V (adH s)) + 1))) (adG (segF s))
  csM (stM (ldM M1 adF) (adS s) (headW (wSlot (M1.V adF)) 0)) adF (M1.V adF) (nextW (M1.V adF) s)
theorem free_alone {m : Int} (h : Stk (maV M.V).ms S T) (hx : s ∉ S) (hs : 0 ≤ s ∧ s < 256) (ht : T + 1 < 1000000) (hd : (maV M.V).sst (segF s) ≠ 2) (hm : gW (M.V (adH s)) < m) :
    (iterF s m M 6).1.o.ln = 0 ∧ (iterF s m M 6).1.got = 0 ∧ (iterF s m M 6).2 = freedM M s ∧ Stk (maV (freedM M s).V).ms (s :: S) (T + 1) ∧
    (freedM M s).V = setV (setV (setV M.V (adH s) (headerW 0 (gW (M.V (adH s)) + 1))) (adS s) (headW (wSlot (M.V adF)) 0)) adF (nextW (M.V adF) s) := by
  have hg := seg_in hs
  rw [ma_sst hg] at hd
  have hm' : ¬ m ≤ gW (M.V (adH s)) := by omega
  have e1 : iterF s m M 1 = (⟨{ newFr s m with ln := 2, w := M.V (adH s) }, 0⟩, ldM M (adH s)) := by
    show frX ⟨newFr s m, 0⟩ M = _
    simp [frX, newFr]
  have e2 : iterF s m M 2 = (⟨{ newFr s m with ln := 5, w := M.V (adH s) }, 0⟩, stM (ldM M (adH s)) (adH s) (headerW 0 (gW (M.V (adH s)) + 1))) := by
    show frX (iterF s m M 1).1 (iterF s m M 1).2 = _
    rw [e1]
    simp [frX, newFr, hm']
  have hG : (stM (ldM M (adH s)) (adH s) (headerW 0 (gW (M.V (adH s)) + 1))).V (adG (segF s)) = M.V (adG (segF s)) := setV_other (sg_ne hs hg).2.2.2.2.1.symm _
  obtain ⟨M1, hM1⟩ : ∃ M1, M1 = ldM (stM (ldM M (adH s)) (adH s) (headerW 0 (gW (M.V (adH s)) + 1))) (adG (segF s)) := ⟨_, rfl⟩
  have e3 : iterF s m M 3 = (⟨{ newFr s m with ln := 7, w := M.V (adH s), psh := ⟨1, 0, s⟩ }, 0⟩, M1) := by
    show frX (iterF s m M 2).1 (iterF s m M 2).2 = _
    rw [e2, hM1]
    simp [frX, newFr, hG, hd]
  have hV1 : M1.V = setV M.V (adH s) (headerW 0 (gW (M.V (adH s)) + 1)) := by rw [hM1]; rfl
  have hst : Stk (maV M1.V).ms S T := by rw [hV1, ma_setH hs]; exact h
  obtain ⟨p1, p2, p3, p4, p5⟩ := push_alone hst hx hs ht
  have hfm : freedM M s = csM (stM (ldM M1 adF) (adS s) (headW (wSlot (M1.V adF)) 0)) adF (M1.V adF) (nextW (M1.V adF) s) := by rw [hM1]; rfl
  have e4 : iterF s m M 4 = (⟨{ newFr s m with ln := 7, w := M.V (adH s), psh := ⟨2, M1.V adF, s⟩ }, 0⟩, ldM M1 adF) := by
    show frX (iterF s m M 3).1 (iterF s m M 3).2 = _
    rw [e3]
    simp [frX, newFr, p1]
  have e5 : iterF s m M 5 = (⟨{ newFr s m with ln := 7, w := M.V (adH s), psh := ⟨3, M1.V adF, s⟩ }, 0⟩, stM (ldM M1 adF) (adS s) (headW (wSlot (M1.V adF)) 0)) := by
    show frX (iterF s m M 4).1 (iterF s m M 4).2 = _
    rw [e4]
    simp [frX, newFr, p2]
  have e6 : iterF s m M 6 = (⟨{ newFr s m with ln := 0, w := M.V (adH s), psh := ⟨0, M1.V adF, s⟩ }, 0⟩, freedM M s) := by
    show frX (iterF s m M 5).1 (iterF s m M 5).2 = _
    rw [e5, hfm]
    simp [frX, newFr, p3]
  have hF : M1.V adF = M.V adF := by rw [hV1]; exact setV_other (ms_ne hs).2.1.symm _
  refine ⟨by rw [e6], by rw [e6], by rw [e6], by rw [hfm]; exact p4, ?_⟩
  rw [hfm, p5, hV1, show setV M.V (adH s) (headerW 0 (gW (M.V (adH s)) + 1)) adF = M.V adF from setV_other (ms_ne hs).2.1.symm _]
/-- .. for the last time: it is gone. -/
def goneM (M : MV) (s : Int) : MV :=
  csM (ldM (stM (ldM M (adH s)) (adH s) (headerW 4 (gW (M.V (adH s))))) (adP (segF s))) (adP (segF s)) (M.V (adP (segF s))) (up64 (M.V (adP (segF s))))
theorem gone_alone {m : Int} (hs : 0 ≤ s ∧ s < 256) (hm : m ≤ gW (M.V (adH s))) :
    (iterF s m M 6).1.o.ln = 0 ∧ (iterF s m M 6).1.got = 4 ∧ (iterF s m M 6).2 = goneM M s ∧
    (goneM M s).V = setV (setV M.V (adH s) (headerW 4 (gW (M.V (adH s))))) (adP (segF s)) (up64 (M.V (adP (segF s)))) := by
  have hg := seg_in hs
  have e1 : iterF s m M 1 = (⟨{ newFr s m with ln := 2, w := M.V (adH s) }, 0⟩, ldM M (adH s)) := by
    show frX ⟨newFr s m, 0⟩ M = _
    simp [frX, newFr]
  have e2 : iterF s m M 2 = (⟨{ newFr s m with ln := 3, w := M.V (adH s) }, 0⟩, stM (ldM M (adH s)) (adH s) (headerW 4 (gW (M.V (adH s))))) := by
    show frX (iterF s m M 1).1 (iterF s m M 1).2 = _
    rw [e1]
    simp [frX, newFr, hm]
  have hP : (stM (ldM M (adH s)) (adH s) (headerW 4 (gW (M.V (adH s))))).V (adP (segF s)) = M.V (adP (segF s)) := setV_other (sg_ne hs hg).2.1.symm _
  have e3 : iterF s m M 3 = (⟨{ newFr s m with ln := 4, w := M.V (adH s), n := M.V (adP (segF s)) }, 0⟩, ldM (stM (ldM M (adH s)) (adH s) (headerW 4 (gW (M.V (adH s))))) (adP (segF s))) := by
    show frX (iterF s m M 2).1 (iterF s m M 2).2 = _
    rw [e2]
    simp [frX, newFr, hP]
  have hc : casV (ldM (stM (ldM M (adH s)) (adH s) (headerW 4 (gW (M.V (adH s))))) (adP (segF s))).V (adP (segF s)) (M.V (adP (segF s))) = true := by
    unfold casV
    rw [may_P hg, show (ldM (stM (ldM M (adH s)) (adH s) (headerW 4 (gW (M.V (adH s))))) (adP (segF s))).V (adP (segF s)) = M.V (adP (segF s)) from hP]
    simp
  have e4 : iterF s m M 4 = (⟨{ newFr s m with ln := 0, w := M.V (adH s), n := M.V (adP (segF s)) }, 4⟩, goneM M s) := by
    show frX (iterF s m M 3).1 (iterF s m M 3).2 = _
    rw [e3]
    simp [frX, newFr, hc, goneM]
  have e5 : iterF s m M 5 = (⟨{ newFr s m with ln := 0, w := M.V (adH s), n := M.V (adP (segF s)) }, 4⟩, goneM M s) := by
    show frX (iterF s m M 4).1 (iterF s m M 4).2 = _
    rw [e4]
    simp [frX, newFr]
  have e6 : iterF s m M 6 = (⟨{ newFr s m with ln := 0, w := M.V (adH s), n := M.V (adP (segF s)) }, 4⟩, goneM M s) := by
    show frX (iterF s m M 5).1 (iterF s m M 5).2 = _
    rw [e5]
    simp [frX, newFr]
  refine ⟨by rw [e6], by rw [e6], by rw [e6], ?_⟩
  show csV (setV M.V (adH s) _) (adP (segF s)) _ _ = _
  unfold csV
  have hc' : casV (setV M.V (adH s) (headerW 4 (gW (M.V (adH s))))) (adP (segF s)) (M.V (adP (segF s))) = true := hc
  rw [hc', if_pos rfl]
end
end Go.Proofs.YtlcbinckbkdgdaaGreatDoor
namespace Go.Proofs.YtlcbinckbkdgdaaGreatDoor
open Go.RowKit Go.Maps

def mv0 : MV := ⟨fun _ => 0, ⟨0, 0, 0, 0, 0, 0, 0, false⟩⟩
theorem new_vx {w : World} (hL : Lay w) (hM : LayM w) : Calls Tryz.prog 23 #[] w fun e w' => ∃ p b, e = .returned (.pointer (some ⟨p, 0, none⟩)) ∧ VX p b mv0 w' ∧ Below w.heap.size w w' ∧ w.heap.size ≤ b ∧ b < p := by
  refine (new_some w).mono ?_
  rintro e w' ⟨p, b, rfl, hp, hb, h1, h2⟩
  have := hM.1
  have := hL.1
  exact ⟨p, b, rfl, ⟨⟨0, _, Int.le_refl _, rq_nil, hp, fun _ => rfl⟩, hL.below hb, hM.below hb, by omega, by omega⟩, hb, h1, h2⟩
/-- What Begin has made so far: n slots in the list, i segments mapped. -/
structure Beg (n i : Nat) (M : MV) : Prop where
  stk : Stk (maV M.V).ms (downS n) n
  hdr : ∀ z, (maV M.V).hdr z = 0
  spk : ∀ g, (maV M.V).spk g = 0
  sst : ∀ g : Int, 0 ≤ g → g < i → (maV M.V).sst g = 1
  era : M.V adEr = 0
  st : M.s.st = i + 3 * n
theorem Beg.start : Beg 0 0 mv0 := by
  refine ⟨?_, fun z => ?_, fun g => ?_, fun g h0 h1 => by omega, rfl, rfl⟩
  · have : (maV mv0.V).ms = ⟨0, fun _ => 0⟩ := by
      show (⟨0, fun s => if 0 ≤ s ∧ s < 256 then 0 else 0⟩ : MS) = _
      congr 1
      funext s
      split <;> rfl
    rw [this]
    exact Stk.start
  · show (if 0 ≤ z ∧ z < 256 then 0 else 0) = 0
    split <;> rfl
  · show (if 0 ≤ g ∧ g < 32 then 0 else 0) = 0
    split <;> rfl
theorem Beg.seg {n i : Nat} {M : MV} (h : Beg n i M) (hi : i < 32) : Beg n (i + 1) (stM M (adG i) 1) := by
  have hg : 0 ≤ (i : Int) ∧ (i : Int) < 32 := by omega
  have e : maV (stM M (adG i) 1).V = (maV M.V).setD i 1 := ma_setD hg 1
  refine ⟨by rw [e]; exact h.stk, by rw [e]; exact h.hdr, by rw [e]; exact h.spk, fun g h0 h1 => ?_, ?_, ?_⟩
  · rw [e]
    show (if g = (i : Int) then (1 : Int) else (maV M.V).sst g) = 1
    by_cases hgi : g = i
    · rw [if_pos hgi]
    · rw [if_neg hgi]; exact h.sst g h0 (by omega)
  · exact (setV_other (er_neG hg).1 _).trans h.era
  · show M.s.st + 1 = _
    rw [h.st]
    push_cast
    omega
/-- The memory behind a push of one alone. -/
def pushM (M : MV) (x : Int) : MV := csM (stM (ldM M adF) (adS x) (headW (wSlot (M.V adF)) 0)) adF (M.V adF) (nextW (M.V adF) x)
theorem Beg.push {n i : Nat} {M : MV} (h : Beg n i M) (hn : n < 256) : Beg (n + 1) i (pushM M n) := by
  have hs : 0 ≤ (n : Int) ∧ (n : Int) < 256 := by omega
  obtain ⟨_, _, _, p4, p5⟩ := push_alone h.stk (down_notin n) hs (by omega)
  have e : maV (pushM M n).V = { maV M.V with ms := (maV (pushM M n).V).ms } := by
    have e0 : (pushM M n).V = setV (setV M.V (adS n) (headW (wSlot (M.V adF)) 0)) adF (nextW (M.V adF) n) := p5
    rw [e0, ma_head, ma_link hs]
  have e3 : (maV (pushM M n).V).hdr = (maV M.V).hdr := by rw [e]
  have e4 : (maV (pushM M n).V).spk = (maV M.V).spk := by rw [e]
  have e5 : (maV (pushM M n).V).sst = (maV M.V).sst := by rw [e]
  refine ⟨by exact_mod_cast p4, by rw [e3]; exact h.hdr, by rw [e4]; exact h.spk, by rw [e5]; exact h.sst, ?_, ?_⟩
  · show (csM _ _ _ _).V adEr = 0
    rw [p5, setV_other er_ne, setV_other (er_neS hs).1]
    exact h.era
  · show M.s.st + 1 + 1 + 1 = _
    rw [h.st]
    push_cast
    omega
section
variable {p b q : Nat} {M M' : MV} {nx h to nx' h' to' : Int} {w : World}
theorem pushX_to (hq : 1 < q) (F : VX p b M w) (hs : M.s.st < 1000000) (hh : U64 h) (hnx : 0 ≤ nx ∧ nx ≤ 3) (hto : nx = 2 → I64w to) (ho : OpAt 133 q nx h to w) (e : pushX ⟨nx, h, to⟩ M = (⟨nx', h', to'⟩, M')) {c : Bool} (ec : (nx' == 0) = c) :
    Calls Tryz.prog 43 #[.pointer (some ⟨q, 0, none⟩), .pointer (some ⟨p, 0, none⟩)] w fun e w' => e = .returned (.bool c) ∧ OpAt 133 q nx' h' to' w' ∧ VX p b M' w' ∧ Only3 p b q w w' := by
  subst ec
  have := push_stepX (o := ⟨nx, h, to⟩) hq F hs hh hnx hto ho
  rw [e] at this
  exact this
end
def BegP (n : Nat) (W : World) (e : Ending) (w' : World) : Prop := ∃ p b M, e = .returned (.tuple #[.pointer (some ⟨p, 0, none⟩), .bool true]) ∧ Beg (8 * n) n M ∧ VX p b M w' ∧ Below W.heap.size W w' ∧ W.heap.size ≤ p ∧ W.heap.size ≤ b
theorem vx_storeG {p b i : Nat} {M : MV} {w : World} (hi : i < 32) (F : VX p b M w) (hs : M.s.st < 1000000) :
    Calls Tryz.prog 17 #[.pointer (some ⟨p, 0, none⟩), .agg #[.int .u8 6, .int .i64 i, .int .i64 0], .int .u64 1] w fun e w' => e = .returned (.tuple #[]) ∧ VX p b (stM M (adG i) 1) w' ∧ Only p b w w' := by
  have := F.store hs (adG i) 1 ⟨by decide, by decide⟩
  have h := g_i64 (show 0 ≤ (i : Int) ∧ (i : Int) < 32 by omega)
  rw [(adG_at h).1, (adG_at h).2.1, (adG_at h).2.2] at this
  exact this
set_option maxRecDepth 100000 in
set_option maxHeartbeats 4000000 in
theorem begin8_any (n : Nat) (hn : n ≤ 3) (W : World) (hL : Lay W) (hM : LayM W) : Calls Tryz.prog 16 #[.int .i64 n] W (BegP n W) := by
  have h1W : 1 < W.heap.size := by have := hM.1; have := hL.1; omega
  have hn' : (n : Int) ≤ 3 := by omega
  have hnew := new_vx hL hM
  clear hL hM
  go_enter Tryz.func16, Tryz.ntmps16
  go_wp2_with fail
  ((with_reducible refine hnew.mono ?_); rintro e w1 ⟨p, b, rfl, F1, hb1, hwb, hbp⟩)
  have HR := Lib.hid (show ∃ M, Beg (8 * 0) 0 M ∧ VX p b M w1 ∧ Below W.heap.size W w1 from ⟨mv0, Beg.start, F1, hb1⟩)
  have hpW : W.heap.size ≤ p := by omega
  clear hnew F1 hb1
  go_wp2_with fail
  go_loopw [5] (fun j wr => ∃ i : Nat, i ≤ n ∧ j = .int .i64 (i : Int) ∧ Hid (∃ M, Beg (8 * i) i M ∧ VX p b M wr ∧ Below W.heap.size W wr)) (fun j _ => n - (intOf j).toNat)
  case atStart => exact ⟨0, Nat.zero_le _, rfl, HR⟩
  case round =>
    clear HR
    obtain ⟨i, hi, rfl, hr⟩ := hrel
    have hge : (0 : Int) ≤ (i : Int) := by omega
    have hi32 : (i : Int) < 32 := by omega
    by_cases hlt : i < n
    · obtain ⟨M, hB, F, hlow⟩ := hr.out
      have hlt' : (i : Int) < (n : Int) := by omega
      have hst := hB.st
      have HB := Lib.hid hB
      have HF := Lib.hid F
      have HLOW := Lib.hid hlow
      clear hB F hlow hr
      go_wp2_with fail
      ((with_reducible refine (vx_storeG (by omega) HF.out (by omega)).mono ?_); rintro e w2 ⟨rfl, F2, h2⟩)
      have HR := Lib.hid (show ∃ M', Beg (8 * i + 0) (i + 1) M' ∧ VX p b M' w2 ∧ Below W.heap.size W w2 from ⟨_, HB.out.seg (by omega), F2, HLOW.out.trans ((Only3.of_only (q := p) h2).below (B := W.heap.size) hpW hwb hpW HLOW.out.size)⟩)
      clear HB HF HLOW F2 h2 hst M
      go_wp2_with fail
      rename World => wA
      go_loopw [6] (fun j wr => ∃ k : Nat, k ≤ 8 ∧ j = .int .i64 (k : Int) ∧ Hid (∃ M, Beg (8 * i + k) (i + 1) M ∧ VX p b M wr ∧ Below W.heap.size W wr)) (fun j _ => 8 - (intOf j).toNat)
      case atStart => exact ⟨0, Nat.zero_le _, rfl, HR⟩
      case round =>
        clear HR
        obtain ⟨k, hk, rfl, hr⟩ := hrel
        rename World => wA
        have hkg : (0 : Int) ≤ (k : Int) := by omega
        by_cases hk8 : k < 8
        · have hk8' : (k : Int) < 8 := by omega
          obtain ⟨M, hB, F, hlow⟩ := hr.out
          have hst := hB.st
          have HB := Lib.hid hB
          have HF := Lib.hid F
          have HLOW := Lib.hid hlow
          obtain ⟨p1, p2, p3, _, _⟩ := push_alone hB.stk (down_notin (8 * i + k)) (show 0 ≤ ((8 * i + k : Nat) : Int) ∧ ((8 * i + k : Nat) : Int) < 256 by omega) (by push_cast; omega)
          have hx : ((8 * i + k : Nat) : Int) = 8 * (i : Int) + (k : Int) := by omega
          rw [hx] at p1 p2 p3
          have P1 := Lib.hid p1
          have P2 := Lib.hid p2
          have P3 := Lib.hid p3
          have e1 : IntKind.i64.wrap ((i : Int) * 8) = (i : Int) * 8 := by simp [IntKind.wrap, IntKind.bits, IntKind.signed]; omega
          have e2 : IntKind.i64.wrap ((i : Int) * 8 + (k : Int)) = 8 * (i : Int) + (k : Int) := by simp [IntKind.wrap, IntKind.bits, IntKind.signed]; omega
          have hW1 : W.heap.size ≤ wA.heap.size := hlow.size
          clear hB F hlow hr p1 p2 p3
          have HX := Lib.hid hx
          clear hx
          go_wp2_with fail
          ((with_reducible refine (newPush_any (8 * (i : Int) + (k : Int)) (by omega) (by omega) wA).mono ?_); rintro e w3 ⟨rfl, o3, hb3, -⟩)
          have HF3 := Lib.hid (HF.out.below hb3)
          have HLOW3 := Lib.hid (HLOW.out.trans (hb3.mono HLOW.out.size))
          have HO3 := Lib.hid o3
          have hU := HF.out.u64 adF
          have hs1 : (ldM M adF).s.st < 1000000 := by show M.s.st + 1 < 1000000; omega
          have hs2 : (stM (ldM M adF) (adS (8 * (i : Int) + (k : Int))) (headW (wSlot (M.V adF)) 0)).s.st < 1000000 := by show M.s.st + 1 + 1 < 1000000; omega
          clear o3 hb3 HF HLOW e1 e2
          generalize wA.heap.size = q at *
          have h1q : 1 < q := by omega
          go_wp2_with fail
          ((with_reducible refine (pushX_to (c := false) h1q HF3.out (by omega) u64_0 (by decide) (fun h => absurd h (by decide)) HO3.out P1.out rfl).mono ?_); rintro e w4 ⟨rfl, o4, F4, k4⟩)
          have HF4 := Lib.hid F4
          have HO4 := Lib.hid o4
          have HLOW4 := Lib.hid (HLOW3.out.trans (k4.below (B := W.heap.size) hpW hwb hW1 (by have := HLOW3.out.size; omega)))
          clear o4 F4 k4 HF3 HO3 HLOW3
          go_wp2_with fail
          ((with_reducible refine (pushX_to (c := false) h1q HF4.out hs1 hU (by decide) (fun _ => i64w_in (by omega) (by omega)) HO4.out P2.out rfl).mono ?_); rintro e w5 ⟨rfl, o5, F5, k5⟩)
          have HF5 := Lib.hid F5
          have HO5 := Lib.hid o5
          have HLOW5 := Lib.hid (HLOW4.out.trans (k5.below (B := W.heap.size) hpW hwb hW1 (by have := HLOW4.out.size; omega)))
          clear o5 F5 k5 HF4 HO4 HLOW4
          go_wp2_with fail
          ((with_reducible refine (pushX_to (c := true) h1q HF5.out hs2 hU (by decide) (fun h => absurd h (by decide)) HO5.out P3.out rfl).mono ?_); rintro e w6 ⟨rfl, o6, F6, k6⟩)
          have HR := Lib.hid (show ∃ M', Beg (8 * i + (k + 1)) (i + 1) M' ∧ VX p b M' w6 ∧ Below W.heap.size W w6 from ⟨_, HB.out.push (by omega), (by unfold pushM; rw [HX.out]; exact F6), HLOW5.out.trans (k6.below (B := W.heap.size) hpW hwb hW1 (by have := HLOW5.out.size; omega))⟩)
          clear o6 F6 k6 HF5 HO5 HLOW5 HB P1 P2 P3 hst hU hs1 hs2
          go_wp2_with fail
          go_roundw
          case rel => exact ⟨k + 1, by omega, by go_num, HR⟩
          case measure => simp [intOf]; omega
        · have hkk : k = 8 := by omega
          have hk8' : (8 : Int) ≤ (k : Int) := by omega
          have hr2 := hr.out
          rw [hkk, show 8 * i + 8 = 8 * (i + 1) by omega] at hr2
          have HR := Lib.hid hr2
          clear hr hr2 hkk
          go_wp2_with fail
          go_roundw
          case rel => exact ⟨i + 1, by omega, by go_num, HR⟩
          case measure => simp [intOf]; omega
    · have hin : i = n := by omega
      have hge' : (n : Int) ≤ (i : Int) := by omega
      have hr2 := hr.out
      rw [hin] at hr2
      obtain ⟨M, hB, F, hlow⟩ := hr2
      have HB := Lib.hid hB
      have HF := Lib.hid F
      have HLOW := Lib.hid hlow
      clear hr hin hB F hlow
      go_wp2_with fail
      go_ret2
      exact ⟨p, b, M, rfl, HB.out, HF.out, HLOW.out, hpW, hwb⟩
end Go.Proofs.YtlcbinckbkdgdaaGreatDoor
namespace Go.Proofs.YtlcbinckbkdgdaaGreatDoor
open Go.RowKit Go.Maps

theorem ld_st (M : MV) (x : Ad) : (ldM M x).s.st = M.s.st + 1 := rfl
theorem st_st (M : MV) (x : Ad) (v : Int) : (stM M x v).s.st = M.s.st + 1 := rfl
theorem cs_st (M : MV) (x : Ad) (u v : Int) : (csM M x u v).s.st = M.s.st + 1 := rfl
theorem popX_st (o : OS) (M : MV) : (popX o M).2.s.st ≤ M.s.st + 1 := by
  unfold popX
  by_cases h : o.nx = 1
  · rw [if_pos h]; exact Int.le_refl _
  rw [if_neg h]
  by_cases h : o.nx = 2
  · rw [if_pos h]; exact Int.le_refl _
  rw [if_neg h]
  by_cases h : o.nx = 3
  · rw [if_pos h]; exact Int.le_refl _
  rw [if_neg h]
  show M.s.st ≤ M.s.st + 1
  omega
theorem pushX_st (o : OS) (M : MV) : (pushX o M).2.s.st ≤ M.s.st + 1 := by
  unfold pushX
  by_cases h : o.nx = 1
  · rw [if_pos h]; exact Int.le_refl _
  rw [if_neg h]
  by_cases h : o.nx = 2
  · rw [if_pos h]; exact Int.le_refl _
  rw [if_neg h]
  by_cases h : o.nx = 3
  · rw [if_pos h]; exact Int.le_refl _
  rw [if_neg h]
  show M.s.st ≤ M.s.st + 1
  omega
theorem parkX_st (o : PO) (M : MV) : (parkX o M).2.s.st ≤ M.s.st + 1 := by
  unfold parkX
  by_cases h : o.ln = 1
  · rw [if_pos h]; exact Int.le_refl _
  rw [if_neg h]
  clear h
  by_cases h : o.ln = 2
  · rw [if_pos h]; exact Int.le_refl _
  rw [if_neg h]
  clear h
  by_cases h : o.ln = 3
  · rw [if_pos h]; exact Int.le_refl _
  rw [if_neg h]
  clear h
  by_cases h : o.ln = 4
  · rw [if_pos h]; exact Int.le_refl _
  rw [if_neg h]
  clear h
  by_cases h : o.ln = 5
  · rw [if_pos h]; exact Int.le_refl _
  rw [if_neg h]
  clear h
  by_cases h : o.ln = 6
  · rw [if_pos h]; exact Int.le_refl _
  rw [if_neg h]
  clear h
  by_cases h : o.ln = 7
  · rw [if_pos h]; exact Int.le_refl _
  rw [if_neg h]
  clear h
  by_cases h : o.ln = 8
  · rw [if_pos h]; exact Int.le_refl _
  rw [if_neg h]
  clear h
  by_cases h : o.ln = 9
  · rw [if_pos h]; exact Int.le_refl _
  rw [if_neg h]
  clear h
  by_cases h : o.ln = 10
  · rw [if_pos h]; exact pushX_st _ _
  rw [if_neg h]
  clear h
  by_cases h : o.ln = 11
  · rw [if_pos h]; exact Int.le_refl _
  rw [if_neg h]
  clear h
  by_cases h : o.ln = 12
  · rw [if_pos h]; exact Int.le_refl _
  rw [if_neg h]
  show M.s.st ≤ M.s.st + 1
  omega
theorem frX_st (o : FX) (M : MV) : (frX o M).2.s.st ≤ M.s.st + 1 := by
  unfold frX
  by_cases h : o.o.ln = 1
  · rw [if_pos h]; exact Int.le_refl _
  rw [if_neg h]
  clear h
  by_cases h : o.o.ln = 2
  · rw [if_pos h]; exact Int.le_refl _
  rw [if_neg h]
  clear h
  by_cases h : o.o.ln = 3
  · rw [if_pos h]; exact Int.le_refl _
  rw [if_neg h]
  clear h
  by_cases h : o.o.ln = 4
  · rw [if_pos h]; exact Int.le_refl _
  rw [if_neg h]
  clear h
  by_cases h : o.o.ln = 5
  · rw [if_pos h]; exact Int.le_refl _
  rw [if_neg h]
  clear h
  by_cases h : o.o.ln = 6
  · rw [if_pos h]; exact parkX_st _ _
  rw [if_neg h]
  clear h
  by_cases h : o.o.ln = 7
  · rw [if_pos h]; exact pushX_st _ _
  rw [if_neg h]
  show M.s.st ≤ M.s.st + 1
  omega
theorem alX_st (o : AX) (M : MV) : (alX o M).2.s.st ≤ M.s.st + 1 := by
  unfold alX
  by_cases h : o.o.ln = 1
  · rw [if_pos h]; exact popX_st _ _
  rw [if_neg h]
  clear h
  by_cases h : o.o.ln = 2
  · rw [if_pos h]; exact Int.le_refl _
  rw [if_neg h]
  clear h
  by_cases h : o.o.ln = 3
  · rw [if_pos h]; exact parkX_st _ _
  rw [if_neg h]
  clear h
  by_cases h : o.o.ln = 4
  · rw [if_pos h]; exact Int.le_refl _
  rw [if_neg h]
  clear h
  by_cases h : o.o.ln = 5
  · rw [if_pos h]; exact Int.le_refl _
  rw [if_neg h]
  clear h
  by_cases h : o.o.ln = 6
  · rw [if_pos h]; exact Int.le_refl _
  rw [if_neg h]
  clear h
  by_cases h : o.o.ln = 7
  · rw [if_pos h]; exact Int.le_refl _
  rw [if_neg h]
  show M.s.st ≤ M.s.st + 1
  omega
theorem iterA_st (M : MV) : ∀ j : Nat, (iterA M j).2.s.st ≤ M.s.st + j
  | 0 => by show M.s.st ≤ M.s.st + 0; omega
  | j + 1 => by
    have := alX_st (iterA M j).1 (iterA M j).2
    have := iterA_st M j
    show (alX (iterA M j).1 (iterA M j).2).2.s.st ≤ _
    push_cast
    omega
theorem iterF_st (x m : Int) (M : MV) : ∀ j : Nat, (iterF x m M j).2.s.st ≤ M.s.st + j
  | 0 => by show M.s.st ≤ M.s.st + 0; omega
  | j + 1 => by
    have := frX_st (iterF x m M j).1 (iterF x m M j).2
    have := iterF_st x m M j
    show (frX (iterF x m M j).1 (iterF x m M j).2).2.s.st ≤ _
    push_cast
    omega
section
variable {p b q r r1 g : Nat} {E : List Nat} {o : AX} {f : FX} {M : MV} {W w w' X Y : World}
/-- Blocks that were not there count as nothing. -/
theorem Onl.past (h : Onl p b [] W X) (k : Onl p b E X Y) (hE : ∀ x ∈ E, W.heap.size ≤ x) : Onl p b [] W Y :=
  ⟨k.os.trans h.os, k.tape.trans h.tape, k.output.trans h.output, Nat.le_trans h.size k.size, fun j hj h1 h2 h3 => (k.block j (Nat.lt_of_lt_of_le hj h.size) h1 h2 (fun e => by have := hE j e; omega)).trans (h.block j hj h1 h2 h3)⟩
theorem AlRep.on (h : AlRep q r r1 o w) (hn : o.o.ln ≠ 0) : ∃ t v0 v1 v2 v3 v4, Bq q 80 [.iface t v0, v1, v2, v3, v4] w := by
  rcases h with ⟨h, _⟩ | ⟨pt, bt, cs, s, g, hp, h1, h2, kq, kr⟩ | ⟨h, g, kq, P⟩
  · exact absurd h hn
  · exact ⟨_, _, _, _, _, _, kq⟩
  · exact ⟨_, _, _, _, _, _, kq⟩
theorem AlRep.off (h : AlRep q r r1 o w) (hn : o.o.ln = 0) : ∃ s g, (o.o.got = true → s = o.o.sl ∧ g = gW o.o.w) ∧ Bq q 80 [.nilIface, .int .i64 s, .int .u32 g, .bool false, .bool o.o.got] w := by
  rcases h with ⟨h, s, g, hg, k⟩ | ⟨pt, bt, cs, s, g, hp, h1, h2, kq, kr⟩ | ⟨h, g, kq, P⟩
  · exact ⟨s, g, hg, k⟩
  · exfalso; cases hp <;> omega
  · exfalso; omega
theorem FrRep.on (h : FrRep q r r1 f w) (hn : f.o.ln ≠ 0) : ∃ t v0 v1 v2 v3, Bq q 88 [.iface t v0, v1, v2, v3] w := by
  rcases h with ⟨h, _⟩ | ⟨pt, bt, cs, hp, kq, kr⟩ | ⟨h, kq, P⟩
  · exact absurd h hn
  · exact ⟨_, _, _, _, _, kq⟩
  · exact ⟨_, _, _, _, _, kq⟩
theorem FrRep.off (h : FrRep q r r1 f w) (hn : f.o.ln = 0) : ∃ s g, Bq q 88 [.nilIface, .int .i64 s, .int .u32 g, .int .u8 f.got] w := by
  rcases h with ⟨h, s, g, k⟩ | ⟨pt, bt, cs, hp, kq, kr⟩ | ⟨h, kq, P⟩
  · exact ⟨s, g, k⟩
  · exfalso; cases hp <;> omega
  · exfalso; omega
theorem PkX.keep {q r : Nat} {o : PO} {w w' : World} (h : PkX q r o w) (F : VX p b M w) (ho : Only p b w w') : PkX q r o w' := by
  rcases h with ⟨h, s, g, k⟩ | ⟨pt, bt, cs, hp, kq, kr⟩
  · exact .inl ⟨h, s, g, k.only F (by decide) ho⟩
  · exact .inr ⟨pt, bt, cs, hp, kq.only F (by decide) ho, kr.only F hp.ne.2.1 ho⟩
theorem AlRep.keep (h : AlRep q r r1 o w) (F : VX p b M w) (ho : Only p b w w') : AlRep q r r1 o w' := by
  rcases h with ⟨h, s, g, hg, k⟩ | ⟨pt, bt, cs, s, g, hp, h1, h2, kq, kr⟩ | ⟨h, g, kq, P⟩
  · exact .inl ⟨h, s, g, hg, k.only F (by decide) ho⟩
  · exact .inr (.inl ⟨pt, bt, cs, s, g, hp, h1, h2, kq.only F (by decide) ho, kr.only F hp.ne.2 ho⟩)
  · exact .inr (.inr ⟨h, g, kq.only F (by decide) ho, P.keep F ho⟩)
theorem FrRep.keep (h : FrRep q r r1 f w) (F : VX p b M w) (ho : Only p b w w') : FrRep q r r1 f w' := by
  rcases h with ⟨h, s, g, k⟩ | ⟨pt, bt, cs, hp, kq, kr⟩ | ⟨h, kq, P⟩
  · exact .inl ⟨h, s, g, k.only F (by decide) ho⟩
  · exact .inr (.inl ⟨pt, bt, cs, hp, kq.only F (by decide) ho, kr.only F hp.ne.2 ho⟩)
  · exact .inr (.inr ⟨h, kq.only F (by decide) ho, P.keep F ho⟩)
theorem alOver (h : AlRep q r r1 o w) : Calls Tryz.prog 32 #[.pointer (some ⟨q, 0, none⟩)] w fun e w' => e = .returned (.bool (o.o.ln == 0)) ∧ w' = w := by
  by_cases hn : o.o.ln = 0
  · obtain ⟨s, g, _, k⟩ := h.off hn
    rw [hn]
    exact overAlloc_yes k
  · obtain ⟨t, v0, v1, v2, v3, v4, k⟩ := h.on hn
    rw [fls hn]
    exact overAlloc_no k
theorem frOver (h : FrRep q r r1 f w) : Calls Tryz.prog 21 #[.pointer (some ⟨q, 0, none⟩)] w fun e w' => e = .returned (.bool (f.o.ln == 0)) ∧ w' = w := by
  by_cases hn : f.o.ln = 0
  · obtain ⟨s, g, k⟩ := h.off hn
    rw [hn]
    exact overFree_yes k
  · obtain ⟨t, v0, v1, v2, v3, k⟩ := h.on hn
    rw [fls hn]
    exact overFree_no k
/-- What an Alloc tells. -/
def refV (o : AX) : Value := if o.o.got = true then .agg #[.int .i64 o.o.sl, .int .u32 (gW o.o.w), .bool false] else .agg #[.int .i64 (-1), .int .u32 0, .bool false]
theorem alGot (h : AlRep q r r1 o w) (hg : o.o.got = true → o.o.ln = 0) : Calls Tryz.prog 31 #[.pointer (some ⟨q, 0, none⟩)] w fun e w' => e = .returned (.tuple #[refV o, .bool o.o.got]) ∧ Below w.heap.size w w' := by
  by_cases hgo : o.o.got = true
  · obtain ⟨s, g, h2, k⟩ := h.off (hg hgo)
    obtain ⟨rfl, rfl⟩ := h2 hgo
    rw [hgo] at k
    unfold refV
    rw [if_pos hgo, hgo]
    exact gotAlloc_yes k
  · have hf : o.o.got = false := by simpa using hgo
    unfold refV
    rw [if_neg hgo, hf]
    rcases h with ⟨h, s, g, _, k⟩ | ⟨pt, bt, cs, s, g, hp, h1, h2, kq, kr⟩ | ⟨h, g, kq, P⟩
    · rw [hf] at k; exact gotAlloc_no k
    · exact gotAlloc_no kq
    · exact gotAlloc_no kq
/-- An operation of one alone, as far as it has come. -/
structure Sole (W : World) (p b g q : Nat) (o : AX) (M : MV) (w : World) : Prop where
  rep : ∃ r r1, AlRep q r r1 o w ∧ g < r ∧ g < r1
  num : AlNum o
  mem : VX p b M w
  low : Onl p b [] W w
  gq : g < q
  old : W.heap.size ≤ g
  got : o.o.got = true → o.o.ln = 0
  res : Bq g 62 [.int .i64 0, .int .u32 0, .bool false] w
theorem alX_got {o : AX} {M : MV} (ok : AlNum o) (hM : ∀ x, U64 (M.V x)) (_ : o.o.got = true → o.o.ln = 0) : (alX o M).1.o.got = true → (alX o M).1.o.ln = 0 := by
  intro hg
  by_cases hn : o.o.ln = 0
  · have e : alX o M = (o, M) := by unfold alX; rw [if_neg (by omega), if_neg (by omega), if_neg (by omega), if_neg (by omega), if_neg (by omega), if_neg (by omega), if_neg (by omega)]
    rw [e]; exact hn
  · exact Classical.byContradiction fun hc => by rw [(ok.step hM).got hc] at hg; cases hg
theorem Sole.step (h : Sole W p b g q o M w) (h1 : 1 < W.heap.size) (hs : M.s.st < 1000000) :
    Calls Tryz.prog 30 #[.pointer (some ⟨q, 0, none⟩), .pointer (some ⟨p, 0, none⟩)] w fun e w' => e = .returned (.bool ((alX o M).1.o.ln == 0)) ∧ Sole W p b g q (alX o M).1 (alX o M).2 w' := by
  obtain ⟨⟨r, r1, hr, g1, g2⟩, hn, F, low, gq, old, got, res⟩ := h
  refine (alloc_stepX (by omega) (by omega) (by omega) F hs hn hr).mono ?_
  rintro e w' ⟨rfl, r', r1', k1, k2, k3, k4, k5⟩
  have hg := F.ne (by decide) res
  have hgs := res.lt
  refine ⟨rfl, ⟨r', r1', k1, by omega, by omega⟩, hn.step F.u64, k2, low.past k3 (fun x hx => ?_), gq, old, alX_got hn F.u64 got, res.onl k3 hg.1 hg.2 (fun hx => ?_)⟩
  · simp only [List.mem_cons, List.not_mem_nil, or_false] at hx
    omega
  · simp only [List.mem_cons, List.not_mem_nil, or_false] at hx
    omega
theorem Sole.begin {W w1 w2 : World} (F : VX p b M W) (hW : W.heap.size ≤ g) (hgw : g < w1.heap.size) (hb1 : Below W.heap.size W w1) (hg : Bq g 62 [.int .i64 0, .int .u32 0, .bool false] w1) (hr : w1.heap.size ≤ r) (hq : r < q) (k : Bq q 80 [.iface 75 (.pointer (some ⟨r, 0, none⟩)), .int .i64 0, .int .u32 0, .bool false, .bool false] w2) (o2 : OpAt 118 r 1 0 0 w2) (hb2 : Below w1.heap.size w1 w2) :
    Sole W p b g q ⟨newAl, 0⟩ M w2 :=
  ⟨⟨r, r, .inr (.inl ⟨_, _, _, _, _, .l1 rfl, fun hh => absurd rfl hh, fun hh => absurd (show (1 : Int) = 7 from hh) (by decide), k, o2⟩), by omega, by omega⟩, AlNum.new, F.below (hb1.trans (hb2.mono hb1.size)), .of_below (hb1.trans (hb2.mono hb1.size)), by omega, hW, fun h => (by cases h), hg.below hb2⟩
theorem Bq.s3 {t : TypeId} {c0 c1 c2 : Value} (k : Bq q t [c0, c1, c2] w) : w.cell? ⟨q, 0, none⟩ = some c0 ∧ w.cell? ⟨q, 1, none⟩ = some c1 ∧ w.cell? ⟨q, 2, none⟩ = some c2 ∧ w.frozen? ⟨q, 0, none⟩ = false ∧ w.frozen? ⟨q, 1, none⟩ = false ∧ w.frozen? ⟨q, 2, none⟩ = false := ⟨k.cell 0, k.cell 1, k.cell 2, k.free 0, k.free 1, k.free 2⟩
def fill3 (e : Nat) (d0 d1 d2 : Value) (W : World) : World := ((W.setCell ⟨e, 0, none⟩ d0).setCell ⟨e, 1, none⟩ d1).setCell ⟨e, 2, none⟩ d2
theorem Bq.fill3 {t : TypeId} {c0 c1 c2 d0 d1 d2 : Value} {e : Nat} (k : Bq e t [c0, c1, c2] w) : Bq e t [d0, d1, d2] (fill3 e d0 d1 d2 w) :=
  ((k.set 0 d0 (cs' := [d0, c1, c2]) rfl).set 1 d1 (cs' := [d0, d1, c2]) rfl).set 2 d2 rfl
theorem onl_fill3 {d0 d1 d2 : Value} (h : Onl p b [] W w) (hg : W.heap.size ≤ g) : Onl p b [] W (fill3 g d0 d1 d2 w) := by
  refine h.past (E := [g]) (((Onl.setCell w (by simp) 0 d0).trans (.setCell _ (by simp) 1 d1)).trans (.setCell _ (by simp) 2 d2)) (fun x hx => ?_)
  simp only [List.mem_cons, List.not_mem_nil, or_false] at hx
  omega
theorem vx_fill3 {d0 d1 d2 : Value} (F : VX p b M w) (h1 : g ≠ p) (h2 : g ≠ b) (h3 : 1 < g) : VX p b M (fill3 g d0 d1 d2 w) := ((F.setQ h1 h2 h3 0 d0).setQ h1 h2 h3 1 d1).setQ h1 h2 h3 2 d2
theorem ref_parts (o : AX) : ∃ s u : Int, refV o = .agg #[.int .i64 s, .int .u32 u, .bool false] := by
  unfold refV
  split
  · exact ⟨_, _, rfl⟩
  · exact ⟨_, _, rfl⟩
theorem results_two {P : Program} {fn : Func} {p0 q0 : Tmp} {ty : TypeId} (h : fn.results = #[.cell p0 ty, .tmp q0]) (tmps : Array Value) (w : World) (g : Nat) (t : TypeId) (cs : Array Value) (fr : Nat × Nat) (d : TypeDesc)
    (hp : tmps.getD p0 undef = .pointer (some ⟨g, 0, none⟩)) (hg : w.heap[g]? = some (.cells cs t fr))
    (hu : P.underlying ty = some d) (hd : (match d with | .struct _ | .array _ _ => true | _ => false) = true) (hi : (P.info? ty).map (·.size) = some cs.size) :
    (results fn tmps).run P w = .ok (.tuple #[.agg cs, tmps.getD q0 undef]) w := by
  have hp' : tmps[p0]?.getD undef = .pointer (some ⟨g, 0, none⟩) := by simpa using hp
  simp [results, h, hp', asAddr, run_loadVar_row w g t ty cs fr d hg hu hd hi]
set_option maxRecDepth 100000 in
set_option maxHeartbeats 4000000 in
theorem made_any (N : Nat) (hN : N ≤ 900) (F : VX p b M W) (hs : M.s.st < 900000) (hov : (iterA M N).1.o.ln = 0) (hgo : ∀ j, j < N → (iterA M j).1.o.ln ≠ 0) :
    Calls Tryz.prog 19 #[.pointer (some ⟨p, 0, none⟩)] W fun e w' => e = .returned (.tuple #[refV (iterA M N).1, .bool (iterA M N).1.o.got]) ∧ VX p b (iterA M N).2 w' ∧ Onl p b [] W w' := by
  have h1W : 1 < W.heap.size := by have := F.lay.1; have := F.laym.1; omega
  have hpw := F.lt
  have HF := Lib.hid F
  have HOV := Lib.hid hov
  have HGO := Lib.hid hgo
  have hbA : Below W.heap.size W (W.alloc (.cells #[.int .i64 0, .int .u32 0, .bool false] 62)) := (Below.refl _ _).alloc (Nat.le_refl _) _
  have hkA : Bq W.heap.size 62 [.int .i64 0, .int .u32 0, .bool false] (W.alloc (.cells #[.int .i64 0, .int .u32 0, .bool false] 62)) := Bq.new _ _ _
  have hsA : W.heap.size < (W.alloc (.cells #[.int .i64 0, .int .u32 0, .bool false] 62)).heap.size := hkA.lt
  have HBA := Lib.hid hbA
  have HKA := Lib.hid hkA
  have HSA := Lib.hid hsA
  clear F hov hgo hbA hkA hsA
  go_enter Tryz.func19, Tryz.ntmps19
  go_wp2_with fail
  ((with_reducible refine (newAlloc_any _).mono ?_); rintro e w1 ⟨q, r, rfl, hr, hq, hk, ho, hb⟩)
  have HS := Lib.hid (show Sole W p b W.heap.size q (iterA M 0).1 (iterA M 0).2 w1 from Sole.begin HF.out (Nat.le_refl _) HSA.out HBA.out HKA.out hr hq hk ho hb)
  clear hr hq hk ho hb HBA HKA HSA HF
  generalize W.heap.size = g at HS
  go_wp2_with fail
  go_loopw [5] (fun j wr => ∃ i : Nat, i ≤ N ∧ j = .int .i64 (i : Int) ∧ Hid (Sole W p b g q (iterA M i).1 (iterA M i).2 wr)) (fun j _ => N - (intOf j).toNat)
  case atStart => exact ⟨0, Nat.zero_le _, rfl, HS⟩
  case round =>
    clear HS
    obtain ⟨i, hi, rfl, hr⟩ := hrel
    have hge : (0 : Int) ≤ (i : Int) := by omega
    have hlt : (i : Int) < 1000 := by omega
    have hst := iterA_st M i
    obtain ⟨r', r1', hrep, _, _⟩ := hr.out.rep
    have HV := Lib.hid hrep
    by_cases hin : i < N
    · have hln := fls (HGO.out i hin)
      have hov2 := alOver HV.out
      rw [hln] at hov2
      have hst2 : (iterA M i).2.s.st < 1000000 := by omega
      clear hrep hln
      go_wp2_with fail
      ((with_reducible refine hov2.mono ?_); rintro e w2 ⟨rfl, rfl⟩)
      go_wp2_with fail
      ((with_reducible refine (hr.out.step h1W hst2).mono ?_); rintro e w3 ⟨rfl, h3⟩)
      have HS3 := Lib.hid (show Sole W p b g q (iterA M (i + 1)).1 (iterA M (i + 1)).2 w3 from h3)
      clear h3 hov2 hst hst2 HV
      generalize ((alX (iterA M i).1 (iterA M i).2).1.o.ln == 0) = bb
      go_wp2_with fail
      go_roundw
      case rel => exact ⟨i + 1, by omega, by go_num, HS3⟩
      case measure => simp [intOf]; omega
    · have hiN : i = N := by omega
      have hov2 := alOver HV.out
      rw [hiN, HOV.out] at hov2
      have hr2 := hr.out
      rw [hiN] at hr2
      have HR := Lib.hid hr2
      have hgot := alGot (h := by have := HV.out; rw [hiN] at this; exact this) hr2.got
      have HFI := Lib.hid (show (.tuple #[refV (iterA M N).1, .bool (iterA M N).1.o.got] : Value) = .tuple #[refV (iterA M N).1, .bool (iterA M N).1.o.got] from rfl)
      obtain ⟨s, u, hsu⟩ := ref_parts (iterA M N).1
      rw [hsu] at hgot
      have HSU := Lib.hid hsu
      clear hrep hr hr2 hst HV hsu HFI
      go_wp2_with fail
      ((with_reducible refine hov2.mono ?_); rintro e w2 ⟨rfl, rfl⟩)
      go_wp2_with fail
      ((with_reducible refine hgot.mono ?_); rintro e w3 ⟨rfl, hb3⟩)
      have hres := HR.out.res.below hb3
      have HFX := Lib.hid (HR.out.mem.below hb3)
      have HLO := Lib.hid (HR.out.low.trans (.of_below hb3))
      have hne := HFX.out.ne (by decide) hres
      have HNE := Lib.hid hne
      have HOLD := Lib.hid HR.out.old
      obtain ⟨b0, b1, b2, z0, z1, z2⟩ := Bq.s3 hres
      have HK := Lib.hid (hres.fill3 (d0 := .int .i64 s) (d1 := .int .u32 u) (d2 := .bool false))
      clear hres hb3 hne hov2 hgot
      go_wp2_with fail
      refine bodyPost_ret (results_two Tryz.results19 _ _ _ _ _ _ _ rfl HK.out Tryz.underlying62 rfl (by kernel_rfl)) rfl ⟨?_, vx_fill3 HFX.out HNE.out.1 HNE.out.2 (by have := HOLD.out; omega), onl_fill3 HLO.out HOLD.out⟩
      rw [HSU.out]
      rfl
end
end Go.Proofs.YtlcbinckbkdgdaaGreatDoor
namespace Go.Proofs.YtlcbinckbkdgdaaGreatDoor
open Go.RowKit Go.Maps

section
variable {M : MV} {S : List Int} {s T : Int}
theorem made_ma (h : Stk (maV M.V).ms (s :: S) T) : maV (madeM M s (topOf S)).V = MA.setH { maV M.V with ms := ⟨headW (topOf S) (T + 1), (maV M.V).ms.lk⟩ } s (headerW 1 (gW ((maV M.V).hdr s))) := by
  obtain ⟨hs, _⟩ := alone_top h
  rw [made_V h, ma_setH hs, ma_setB hs, ma_head, ma_hdr hs]
theorem made_stk (h : Stk (maV M.V).ms (s :: S) T) (ht : T + 1 < 1000000) : Stk (maV (madeM M s (topOf S)).V).ms S (T + 1) := by
  rw [made_ma h]
  exact h.popped ht
theorem made_era (h : Stk (maV M.V).ms (s :: S) T) : (madeM M s (topOf S)).V adEr = M.V adEr ∧ (madeM M s (topOf S)).V (adB s) = M.V adEr ∧ (madeM M s (topOf S)).s.st = M.s.st + 8 := by
  obtain ⟨hs, _⟩ := alone_top h
  refine ⟨?_, ?_, ?_⟩
  · rw [made_V h, setV_other (er_neS hs).2.1, setV_other (er_neS hs).2.2, setV_other er_ne]
  · rw [made_V h, setV_other (ss_ne hs hs).2.2.2.2.2.2, setV_same (may_B hs)]
  · show M.s.st + 1 + 1 + 1 + 1 + 1 + 1 + 1 + 1 = _
    omega
theorem freed_ma (h : Stk (maV M.V).ms S T) (hx : s ∉ S) (hs : 0 ≤ s ∧ s < 256) (ht : T + 1 < 1000000) (hd : (maV M.V).sst (segF s) ≠ 2) {m : Int} (hm : gW (M.V (adH s)) < m) :
    (maV (freedM M s).V).hdr = ((maV M.V).setH s (headerW 0 (gW ((maV M.V).hdr s) + 1))).hdr ∧ (maV (freedM M s).V).sst = (maV M.V).sst ∧ (maV (freedM M s).V).spk = (maV M.V).spk ∧ (freedM M s).V adEr = M.V adEr := by
  obtain ⟨_, _, _, _, e⟩ := free_alone h hx hs ht hd hm
  have e2 : maV (freedM M s).V = { { (maV M.V).setH s (headerW 0 (gW ((maV M.V).hdr s) + 1)) with ms := ((maV M.V).setH s (headerW 0 (gW ((maV M.V).hdr s) + 1))).ms.link s (headW (wSlot (M.V adF)) 0) } with ms := ⟨nextW (M.V adF) s, (((maV M.V).setH s (headerW 0 (gW ((maV M.V).hdr s) + 1))).ms.link s (headW (wSlot (M.V adF)) 0)).lk⟩ } := by
    rw [e, ma_head, ma_link hs, ma_setH hs, ma_hdr hs]
  refine ⟨by rw [e2], by rw [e2]; rfl, by rw [e2]; rfl, ?_⟩
  rw [e, setV_other er_ne, setV_other (er_neS hs).1, setV_other (er_neS hs).2.1]
end
/-- A Free of one alone, as far as it has come. -/
structure SoleF (W : World) (p b q : Nat) (f : FX) (M : MV) (w : World) : Prop where
  rep : ∃ r r1, FrRep q r r1 f w ∧ W.heap.size ≤ r ∧ W.heap.size ≤ r1
  num : FrNum f
  mem : VX p b M w
  low : Onl p b [] W w
  old : W.heap.size ≤ q
section
variable {p b q r : Nat} {f : FX} {M : MV} {W w w' X Y : World}
theorem SoleF.step (h : SoleF W p b q f M w) (h1 : 1 < W.heap.size) (hs : M.s.st < 1000000) :
    Calls Tryz.prog 20 #[.pointer (some ⟨q, 0, none⟩), .pointer (some ⟨p, 0, none⟩)] w fun e w' => e = .returned (.bool ((frX f M).1.o.ln == 0)) ∧ SoleF W p b q (frX f M).1 (frX f M).2 w' := by
  obtain ⟨⟨r, r1, hr, g1, g2⟩, hn, F, low, old⟩ := h
  refine (free_stepX (by omega) (by omega) (by omega) F hs hn hr).mono ?_
  rintro e w' ⟨rfl, r', r1', k1, k2, k3, k4, k5⟩
  have := low.size
  refine ⟨rfl, ⟨r', r1', k1, by omega, by omega⟩, hn.step F.u64, k2, low.past k3 (fun x hx => ?_), old⟩
  simp only [List.mem_cons, List.not_mem_nil, or_false] at hx
  omega
theorem SoleF.begin {s m : Int} (h0 : 0 ≤ s) (h1 : s < 256) (hm : 0 ≤ m ∧ m < 4294967296) (F : VX p b M W) (hr : W.heap.size ≤ r) (hq : r < q) (k : Bq q 88 [.iface 89 (.pointer (some ⟨r, 0, none⟩)), .int .i64 s, .int .u32 m, .int .u8 0] w) (k2 : Bq r 125 [.int .u8 9, .int .i64 s, .int .i64 0, .int .u64 0] w) (hb : Below W.heap.size W w) :
    SoleF W p b q ⟨newFr s m, 0⟩ M w :=
  ⟨⟨r, r, .inr (.inl ⟨_, _, _, .l1 rfl, k, k2⟩), by omega, by omega⟩, FrNum.new ⟨h0, h1⟩ hm, F.below hb, .of_below hb, by omega⟩
theorem SoleF.over (h : SoleF W p b q f M w) : Calls Tryz.prog 21 #[.pointer (some ⟨q, 0, none⟩)] w fun e w' => e = .returned (.bool (f.o.ln == 0)) ∧ w' = w := by
  obtain ⟨r, r1, hr, _⟩ := h.rep
  exact frOver hr
theorem SoleF.told (h : SoleF W p b q f M w) (h0 : f.o.ln = 0) : Calls Tryz.prog 34 #[.pointer (some ⟨q, 0, none⟩)] w fun e w' => e = .returned (.int .u8 f.got) ∧ w' = w := by
  obtain ⟨r, r1, hr, _⟩ := h.rep
  obtain ⟨s, g, k⟩ := hr.off h0
  exact gotFree_any k
theorem vx_storeE (F : VX p b M w) (hs : M.s.st < 1000000) :
    Calls Tryz.prog 17 #[.pointer (some ⟨p, 0, none⟩), .agg #[.int .u8 2, .int .i64 0, .int .i64 0], .int .u64 5] w fun e w' => e = .returned (.tuple #[]) ∧ VX p b (stM M adEr 5) w' ∧ Only p b w w' :=
  F.store hs adEr 5 ⟨by decide, by decide⟩
theorem vx_loadB3 (F : VX p b M w) (hs : M.s.st < 1000000) :
    Calls Tryz.prog 22 #[.pointer (some ⟨p, 0, none⟩), .agg #[.int .u8 9, .int .i64 3, .int .i64 1]] w fun e w' => e = .returned (.int .u64 (M.V (adB 3))) ∧ VX p b (ldM M (adB 3)) w' ∧ Only p b w w' := by
  have := F.load hs (adB 3)
  have h := slot_i64 (show 0 ≤ (3 : Int) ∧ (3 : Int) < 256 by decide)
  rw [(adB_at h).1, (adB_at h).2.1, (adB_at h).2.2] at this
  exact this
end
/-- The examples' memory behind i Allocs. -/
structure Liv (i : Nat) (M : MV) : Prop where
  stk : Stk (maV M.V).ms (downS (8 - i)) (8 + i)
  hdr : ∀ z : Int, 0 ≤ z → z < 8 - i → (maV M.V).hdr z = 0
  own : 1 ≤ i → (maV M.V).hdr (8 - i) = headerW 1 0
  sst : (maV M.V).sst 0 = 1
  era : M.V adEr = 5
  st : M.s.st = 26 + 8 * i
theorem liv0 {M : MV} (h : Beg 8 1 M) : Liv 0 (stM M adEr 5) := by
  have e : maV (setV M.V adEr 5) = maV M.V := by
    refine ma_ext (setV_other er_ne.symm 5) (fun _ => if_same' fun hk => setV_other (er_neS hk).1.symm 5) (fun _ => if_same' fun hk => setV_other (er_neS hk).2.1.symm 5) (fun _ => if_same' fun hg => setV_other (er_neG hg).1.symm 5) (fun _ => if_same' fun hg => setV_other (er_neG hg).2.symm 5)
  refine ⟨?_, fun z _ _ => ?_, fun h => by omega, ?_, setV_same (V := M.V) (x := adEr) (by decide) 5, ?_⟩
  · show Stk (maV (setV M.V adEr 5)).ms _ _
    rw [e]; exact h.stk
  · show (maV (setV M.V adEr 5)).hdr z = 0
    rw [e]; exact h.hdr z
  · show (maV (setV M.V adEr 5)).sst 0 = 1
    rw [e]; exact h.sst 0 (by decide) (by decide)
  · show M.s.st + 1 = _
    rw [h.st]
    rfl
theorem gW_zero : gW 0 = 0 := by decide
theorem liv_next {i : Nat} {M : MV} (h : Liv i M) (hi : i < 5) : ∃ o, iterA M 8 = (o, madeM M (7 - i) (topOf (downS (7 - i)))) ∧ (∀ j, j < 8 → (iterA M j).1.o.ln ≠ 0) ∧ o.o.ln = 0 ∧ o.o.got = true ∧ refV o = .agg #[.int .i64 (7 - i), .int .u32 0, .bool false] ∧ Liv (i + 1) (madeM M (7 - i) (topOf (downS (7 - i)))) ∧ (madeM M (7 - i) (topOf (downS (7 - i)))).V (adB (7 - i)) = 5 := by
  have hd : downS (8 - i) = ((7 - i : Nat) : Int) :: downS (7 - i) := by rw [show 8 - i = (7 - i) + 1 by omega]; rfl
  have hc : ((7 - i : Nat) : Int) = 7 - (i : Int) := by omega
  have hst := h.stk
  rw [hd, hc] at hst
  have hseg : segF (7 - (i : Int)) = 0 := by unfold segF; omega
  have hsst : (maV M.V).sst (segF (7 - (i : Int))) ≠ 2 := by rw [hseg, h.sst]; decide
  obtain ⟨e, h1, h2⟩ := made_alone hst hsst
  have hs := (alone_top hst).1
  have hh := h.hdr (7 - i) (by omega) (by omega)
  have hh' : M.V (adH (7 - i)) = 0 := by rw [← hh, ma_hdr hs]
  obtain ⟨m1, m2, m3⟩ := made_era hst
  refine ⟨_, h1, h2, rfl, rfl, ?_, ?_, m2.trans h.era⟩
  · unfold refV
    rw [if_pos rfl]
    show (.agg #[.int .i64 (7 - i), .int .u32 (gW (M.V (adH (7 - i)))), .bool false] : Value) = _
    rw [hh', gW_zero]
  · refine ⟨?_, fun z h0 h1 => ?_, fun _ => ?_, ?_, m1.trans h.era, ?_⟩
    · have := made_stk hst (by omega)
      rw [show (8 : Int) + ((i + 1 : Nat) : Int) = 8 + i + 1 by omega, show 8 - (i + 1) = 7 - i by omega]
      exact this
    · rw [made_ma hst]
      show (if z = 7 - (i : Int) then _ else (maV M.V).hdr z) = 0
      rw [if_neg (by omega)]
      exact h.hdr z h0 (by omega)
    · rw [made_ma hst]
      show (if (8 : Int) - ((i + 1 : Nat) : Int) = 7 - (i : Int) then headerW 1 (gW ((maV M.V).hdr (7 - i))) else _) = _
      rw [if_pos (by omega), hh, gW_zero]
    · rw [made_ma hst]; exact h.sst
    · rw [m3, h.st]; omega
theorem eq_ref3 (g : Int) (w : World) : (binOp .eql 62 (.agg #[.int .i64 3, .int .u32 g, .bool false]) (.agg #[.int .i64 3, .int .u32 g, .bool false])).run Tryz.prog w = .ok (.bool true) w := by
  have hS : Tryz.prog.underlying 62 = some (.struct (Tryz.prog.fieldsOf 62)) := by kernel_rfl
  have hp : Tryz.prog.stoodInHeld 62 = false := by kernel_rfl
  rw [run_eql_struct, show (10000 : Nat) = 9999 + 1 from rfl, run_equalIn_agg w 9999 62 _ _ hS hp]
  simp only [Program.fieldsOf, Tryz.underlying62]
  have u3 := Tryz.underlying3
  have a3 := Tryz.isAgg3
  have z3 := Tryz.sizeOf3
  have u4 := Tryz.underlying31
  have a4 := Tryz.isAgg31
  have z4 := Tryz.sizeOf31
  have u5 := Tryz.underlying4
  have a5 := Tryz.isAgg4
  have z5 := Tryz.sizeOf4
  go_simp
end Go.Proofs.YtlcbinckbkdgdaaGreatDoor
namespace Go.Proofs.YtlcbinckbkdgdaaGreatDoor
open Go.RowKit Go.Maps

theorem made_to {p b : Nat} {M M' : MV} {W : World} {o : AX} {s u : Int} (F : VX p b M W) (hs : M.s.st < 900000) (h : iterA M 8 = (o, M')) (hgo : ∀ j, j < 8 → (iterA M j).1.o.ln ≠ 0) (h0 : o.o.ln = 0) (hg : o.o.got = true) (hr : refV o = .agg #[.int .i64 s, .int .u32 u, .bool false]) :
    Calls Tryz.prog 19 #[.pointer (some ⟨p, 0, none⟩)] W fun e w' => e = .returned (.tuple #[.agg #[.int .i64 s, .int .u32 u, .bool false], .bool true]) ∧ VX p b M' w' ∧ Onl p b [] W w' := by
  have := made_any 8 (by decide) F hs (by rw [h]; exact h0) hgo
  rw [h, hg, hr] at this
  exact this
theorem onl_fill3' {p b g : Nat} {d0 d1 d2 : Value} (X : World) : Onl p b [g] X (fill3 g d0 d1 d2 X) :=
  ((Onl.setCell (q := g) X (List.mem_singleton.2 rfl) 0 d0).trans (.setCell _ (List.mem_singleton.2 rfl) 1 d1)).trans (.setCell _ (List.mem_singleton.2 rfl) 2 d2)
/-- .. behind five Allocs: the last one's slot is freed, and got again. -/
theorem liv_then {M : MV} (h : Liv 5 M) : (iterF 3 9 M 6).1.o.ln = 0 ∧ (iterF 3 9 M 6).2 = freedM M 3 ∧ (freedM M 3).s.st = 72 ∧ ∃ o M', iterA (freedM M 3) 8 = (o, M') ∧ (∀ j, j < 8 → (iterA (freedM M 3) j).1.o.ln ≠ 0) ∧ o.o.ln = 0 ∧ o.o.got = true ∧ refV o = .agg #[.int .i64 3, .int .u32 1, .bool false] ∧ M'.V (adB 3) = 5 ∧ M'.s.st = 80 := by
  have hst : Stk (maV M.V).ms (downS 3) 13 := h.stk
  have hs : 0 ≤ (3 : Int) ∧ (3 : Int) < 256 := by decide
  have hsst : (maV M.V).sst (segF 3) ≠ 2 := by rw [show segF 3 = 0 from rfl, h.sst]; decide
  have ho : (maV M.V).hdr 3 = headerW 1 0 := h.own (by decide)
  have hg0 : gW (headerW 1 0) = 0 := gW_header 1 0 (by decide) (by decide) (by decide) (by decide)
  have hg1 : gW (headerW 0 1) = 1 := gW_header 0 1 (by decide) (by decide) (by decide) (by decide)
  have hx3 : (3 : Int) ∉ downS 3 := down_notin 3
  have hgw : gW (M.V (adH 3)) = 0 := by rw [← ma_hdr (V := M.V) hs, ho]; exact hg0
  obtain ⟨f1, _, f3, f4, _⟩ := free_alone (m := 9) hst hx3 hs (by decide) hsst (by rw [hgw]; decide)
  obtain ⟨g1, g2, g3, g4⟩ := freed_ma hst hx3 hs (by decide) hsst (m := 9) (by rw [hgw]; decide)
  have hh : (maV (freedM M 3).V).hdr 3 = headerW 0 1 := by
    rw [g1]
    show (if (3 : Int) = 3 then headerW 0 (gW ((maV M.V).hdr 3) + 1) else (maV M.V).hdr 3) = _
    rw [if_pos rfl, ho, hg0]
    rfl
  have hst4 : (freedM M 3).s.st = 72 := by
    show M.s.st + 1 + 1 + 1 + 1 + 1 + 1 = 72
    rw [h.st]
    rfl
  obtain ⟨e, k1, k2⟩ := made_alone (s := 3) (S := downS 3) f4 (by rw [g2]; exact hsst)
  obtain ⟨m1, m2, m3⟩ := made_era (s := 3) (S := downS 3) f4
  refine ⟨f1, f3, hst4, _, _, k1, k2, rfl, rfl, ?_, m2.trans (g4.trans h.era), by rw [m3, hst4]; rfl⟩
  unfold refV
  rw [if_pos rfl]
  show (.agg #[.int .i64 3, .int .u32 (gW ((freedM M 3).V (adH 3))), .bool false] : Value) = _
  rw [← ma_hdr (V := (freedM M 3).V) hs, hh, hg1]
/-- Two refs of the law's own, and the memory behind i Allocs. -/
structure LvW (W : World) (p b g i : Nat) (v : Value) (w : World) : Prop where
  mem : ∃ M, Liv i M ∧ VX p b M w
  k1 : ∃ u, v = .int .i64 u ∧ Bq g 62 [.int .i64 u, .int .u32 0, .bool false] w
  k2 : Bq (g + 1) 62 [.int .i64 0, .int .u32 0, .bool false] w
  low : Below W.heap.size W w
  gW : W.heap.size ≤ g
set_option maxRecDepth 100000 in
set_option maxHeartbeats 8000000 in
theorem lives_any (W : World) (hL : Lay W) (hM : LayM W) : Calls Tryz.prog 4 #[] W fun e w' => e = .returned (.bool true) ∧ Below W.heap.size W w' := by
  have h1W : 1 < W.heap.size := by have := hM.1; have := hL.1; omega
  have hbeg : Calls Tryz.prog 16 #[.int .i64 1] W (BegP 1 W) := begin8_any 1 (by decide) W hL hM
  clear hL hM
  go_enter Tryz.func4, Tryz.ntmps4
  go_wp2_with fail
  ((with_reducible refine hbeg.mono ?_); rintro e w1 ⟨p, b, M, rfl, hB, F, hlow, hp, hb⟩)
  have HB := Lib.hid hB
  have HF := Lib.hid F
  have HLOW := Lib.hid hlow
  have hst : M.s.st < 1000000 := by rw [hB.st]; decide
  clear hbeg hB F hlow
  go_wp2_with fail
  ((with_reducible refine (vx_storeE HF.out hst).mono ?_); rintro e w2 ⟨rfl, F2, h2⟩)
  have HF2 := Lib.hid F2
  have HLOW2 := Lib.hid (HLOW.out.trans ((Only3.of_only (q := p) h2).below (B := W.heap.size) hp hb hp HLOW.out.size))
  have HV := Lib.hid (liv0 HB.out)
  clear F2 h2 HF HLOW HB hst
  have hX : Below w2.heap.size w2 ((w2.alloc (.cells #[.int .i64 0, .int .u32 0, .bool false] 62)).alloc (.cells #[.int .i64 0, .int .u32 0, .bool false] 62)) := ((Below.refl _ _).alloc (Nat.le_refl _) _).alloc (by simp) _
  have k1 : Bq w2.heap.size 62 [.int .i64 0, .int .u32 0, .bool false] ((w2.alloc (.cells #[.int .i64 0, .int .u32 0, .bool false] 62)).alloc (.cells #[.int .i64 0, .int .u32 0, .bool false] 62)) := (Bq.new w2 [.int .i64 0, .int .u32 0, .bool false] _).below ((Below.refl _ _).alloc (Nat.le_refl _) _)
  have k2 : Bq (w2.heap.size + 1) 62 [.int .i64 0, .int .u32 0, .bool false] ((w2.alloc (.cells #[.int .i64 0, .int .u32 0, .bool false] 62)).alloc (.cells #[.int .i64 0, .int .u32 0, .bool false] 62)) := by
    have := Bq.new (w2.alloc (.cells #[.int .i64 0, .int .u32 0, .bool false] 62)) [.int .i64 0, .int .u32 0, .bool false] 62
    simpa using this
  have HX := Lib.hid hX
  have HK := Lib.hid (show LvW W p b w2.heap.size 0 (.int .i64 0) _ from ⟨⟨_, HV.out, HF2.out.below hX⟩, ⟨0, rfl, k1⟩, k2, HLOW2.out.trans (hX.mono HLOW2.out.size), HLOW2.out.size⟩)
  have HM2 := Lib.hid (HF2.out.below hX)
  have hst2 : (stM M adEr 5).s.st = 26 := by rw [HV.out.st]; rfl
  clear hX k1 k2 HF2 HLOW2
  go_wp2_with fail
  revert HX HK HM2
  generalize (w2.alloc (.cells #[.int .i64 0, .int .u32 0, .bool false] 62)).alloc (.cells #[.int .i64 0, .int .u32 0, .bool false] 62) = w3
  intro HX HK HM2
  clear HX
  generalize w2.heap.size = g at *
  have hsteps := HM2.out.steps
  rw [hst2] at hsteps
  clear hst2 HV HM2 M
  ((with_reducible refine hsteps.mono ?_); rintro e w4 ⟨rfl, rfl⟩)
  clear hsteps
  go_wp2_with fail
  go_loopw [6] (fun j wr => ∃ i : Nat, i ≤ 5 ∧ j = .int .i64 (i : Int) ∧ Hid (∃ v, LvW W p b g i v wr ∧ (1 ≤ i → v = .int .i64 (8 - i)))) (fun j _ => 5 - (intOf j).toNat)
  case atStart => exact ⟨0, Nat.zero_le _, rfl, Lib.hid ⟨_, HK.out, fun h => by omega⟩⟩
  case round =>
    clear HK
    obtain ⟨i, hi, rfl, hr⟩ := hrel
    have hge : (0 : Int) ≤ (i : Int) := by omega
    obtain ⟨v, ⟨⟨M, hV, F⟩, ⟨u, rfl, hk1⟩, hk2, hlow, hgW⟩, hv⟩ := hr.out
    by_cases hlt : i < 5
    · have hlt' : (i : Int) < 5 := by omega
      obtain ⟨o, n1, n2, n3, n4, n5, n6, _⟩ := liv_next hV hlt
      have hms : M.s.st < 900000 := by rw [hV.st]; omega
      have hne1 := F.ne (by decide) hk1
      have hne2 := F.ne (by decide) hk2
      have hmade := made_to F hms n1 n2 n3 n4 n5
      have HK1 := Lib.hid hk1
      have HK2 := Lib.hid hk2
      have HLOW := Lib.hid hlow
      have HN6 := Lib.hid n6
      clear hV F hk1 hk2 hlow n1 n2 n3 n4 n5 n6 hms hr hv
      go_wp2_with fail
      ((with_reducible refine hmade.mono ?_); rintro e w5 ⟨rfl, F5, h5⟩)
      have hk1 := HK1.out.onl h5 hne1.1 hne1.2 (by simp)
      have HK25 := Lib.hid (HK2.out.onl h5 hne2.1 hne2.2 (by simp))
      obtain ⟨b0, b1, b2, z0, z1, z2⟩ := Bq.s3 hk1
      have HKF := Lib.hid (hk1.fill3 (d0 := .int .i64 (7 - (i : Int))) (d1 := .int .u32 0) (d2 := .bool false))
      have HK2F := Lib.hid (show Bq (g + 1) 62 [.int .i64 0, .int .u32 0, .bool false] (fill3 g (.int .i64 (7 - (i : Int))) (.int .u32 0) (.bool false) w5) from ((HK25.out.setO (by omega) 0 _).setO (by omega) 1 _).setO (by omega) 2 _)
      have HF5 := Lib.hid (vx_fill3 (d0 := .int .i64 (7 - (i : Int))) (d1 := .int .u32 0) (d2 := .bool false) F5 hne1.1 hne1.2 (by omega))
      have HLO := Lib.hid (HLOW.out.trans (((h5.more (E' := [g]) (by simp)).trans (onl_fill3' (d0 := .int .i64 (7 - (i : Int))) (d1 := .int .u32 0) (d2 := .bool false) w5)).below (B := W.heap.size) hp hb (fun x hx => by simp only [List.mem_cons, List.not_mem_nil, or_false] at hx; omega) HLOW.out.size))
      clear hk1 F5 h5 HK1 HK2 HLOW HK25 hmade
      go_wp2_with fail
      go_roundw
      case rel => exact ⟨i + 1, by omega, by go_num, Lib.hid ⟨.int .i64 (7 - (i : Int)), ⟨⟨_, HN6.out, HF5.out⟩, ⟨_, rfl, HKF.out⟩, HK2F.out, HLO.out, hgW⟩, fun _ => by rw [show (8 : Int) - ((i + 1 : Nat) : Int) = 7 - (i : Int) by omega]⟩⟩
      case measure => simp [intOf]; omega
    · have hi5 : i = 5 := by omega
      have hge5 : (5 : Int) ≤ (i : Int) := by omega
      rw [hi5] at hV hv
      obtain rfl : u = 3 := by
        have := hv (by decide)
        simpa using this
      have hsteps := F.steps
      have hst : M.s.st = 66 := by rw [hV.st]; rfl
      rw [hst] at hsteps
      obtain ⟨x1, x2, x3, o, M', y1, y2, y3, y4, y5, y6, y7⟩ := liv_then hV
      have X1 := Lib.hid x1
      have X2 := Lib.hid x2
      have c0 : wr.cell? ⟨g, 0, none⟩ = some (.int .i64 3) := hk1.cell 0
      have hgp := F.ne (by decide) hk1
      have hgp2 := F.ne (by decide) hk2
      have hgl := hk2.lt
      have HF := Lib.hid F
      have HK1 := Lib.hid hk1
      have HK2 := Lib.hid hk2
      have HLOW := Lib.hid hlow
      have Y1 := Lib.hid y1
      have Y2 := Lib.hid y2
      have Y3 := Lib.hid y3
      have Y4 := Lib.hid y4
      have Y5 := Lib.hid y5
      have Y6 := Lib.hid y6
      clear hr hv hV F hk1 hk2 hlow x1 x2 y1 y2 y3 y4 y5 y6 hi5 hlt hi
      go_wp2_with fail
      ((with_reducible refine hsteps.mono ?_); rintro e w4 ⟨rfl, rfl⟩)
      clear hsteps
      go_wp2_with fail
      ((with_reducible refine (newFree_yes 9 (s := 3) (by decide) (by decide) _).mono ?_); rintro e w5 ⟨q, r, rfl, hr, hq, kq, kr, hb5⟩)
      have HS := Lib.hid (show SoleF wr p b q (iterF 3 9 M 0).1 (iterF 3 9 M 0).2 w5 from SoleF.begin (by decide) (by decide) (by decide) HF.out hr hq kq kr hb5)
      have h1r : 1 < wr.heap.size := by have := HLOW.out.size; omega
      clear hr hq kq kr hb5 c0 HF
      rename World => wA
      go_wp2_with fail
      go_loopw [9] (fun j wq => ∃ k : Nat, k ≤ 6 ∧ j = .int .i64 (k : Int) ∧ Hid (SoleF wr p b q (iterF 3 9 M k).1 (iterF 3 9 M k).2 wq)) (fun j _ => 6 - (intOf j).toNat)
      case atStart => exact ⟨0, Nat.zero_le _, rfl, HS⟩
      case round =>
        clear HS
        obtain ⟨k, hk, rfl, hr⟩ := hrel
        rename World => wA
        have hkg : (0 : Int) ≤ (k : Int) := by omega
        by_cases hk6 : k < 6
        · have hk6' : (k : Int) < 6 := by omega
          have hst2 : (iterF 3 9 M k).2.s.st < 1000000 := by have := iterF_st 3 9 M k; omega
          go_wp2_with fail
          ((with_reducible refine (hr.out.step h1r hst2).mono ?_); rintro e w6 ⟨rfl, h6⟩)
          have HS := Lib.hid (show SoleF wr p b q (iterF 3 9 M (k + 1)).1 (iterF 3 9 M (k + 1)).2 w6 from h6)
          clear h6 hr hst2
          generalize ((frX (iterF 3 9 M k).1 (iterF 3 9 M k).2).1.o.ln == 0) = bb
          go_wp2_with fail
          go_roundw
          case rel => exact ⟨k + 1, by omega, by go_num, HS⟩
          case measure => simp [intOf]; omega
        · have hk6' : (6 : Int) ≤ (k : Int) := by omega
          have hkk : k = 6 := by omega
          have hr2 := hr.out
          rw [hkk] at hr2
          have hov := hr2.over
          rw [X1.out] at hov
          have hfm := hr2.mem
          rw [X2.out] at hfm
          have hmade := fun (X : World) (hb : Below wA.heap.size wA X) => made_to (hfm.below hb) (by rw [x3]; decide) Y1.out Y2.out Y3.out Y4.out Y5.out
          have HK1A := Lib.hid (HK1.out.onl hr2.low hgp.1 hgp.2 (by simp))
          have HK2A := Lib.hid (HK2.out.onl hr2.low hgp2.1 hgp2.2 (by simp))
          have HLOWA := Lib.hid (HLOW.out.trans (hr2.low.below (B := W.heap.size) hp hb (fun x hx => by cases hx) HLOW.out.size))
          have hma := hmade wA (Below.refl _ _)
          clear hr hr2 hkk hfm hmade HK1 HK2 HLOW
          go_wp2_with fail
          ((with_reducible refine hov.mono ?_); rintro e w6 ⟨rfl, rfl⟩)
          go_wp2_with fail
          ((with_reducible refine hma.mono ?_); rintro e w7 ⟨rfl, F7, h7⟩)
          have hk1 := HK1A.out.onl h7 hgp.1 hgp.2 (by simp)
          have hk2 := HK2A.out.onl h7 hgp2.1 hgp2.2 (by simp)
          obtain ⟨b0, b1, b2, z0, z1, z2⟩ := Bq.s3 hk2
          obtain ⟨d0, d1, d2, _, _, _⟩ := Bq.s3 hk1
          have HKF := Lib.hid (hk2.fill3 (d0 := .int .i64 3) (d1 := .int .u32 1) (d2 := .bool false))
          have HK1F := Lib.hid (show Bq g 62 [.int .i64 3, .int .u32 0, .bool false] (fill3 (g + 1) (.int .i64 3) (.int .u32 1) (.bool false) w7) from ((hk1.setO (by omega) 0 _).setO (by omega) 1 _).setO (by omega) 2 _)
          have HF7 := Lib.hid (vx_fill3 (d0 := .int .i64 3) (d1 := .int .u32 1) (d2 := .bool false) F7 hgp2.1 hgp2.2 (by omega))
          have HLO := Lib.hid (HLOWA.out.trans (((h7.more (E' := [g + 1]) (by simp)).trans (onl_fill3' (d0 := .int .i64 3) (d1 := .int .u32 1) (d2 := .bool false) w7)).below (B := W.heap.size) hp hb (fun x hx => by simp only [List.mem_cons, List.not_mem_nil, or_false] at hx; omega) HLOWA.out.size))
          have hld := vx_loadB3 HF7.out (by rw [y7]; decide)
          rw [Y6.out] at hld
          obtain ⟨e0, e1, e2, _, _, _⟩ := Bq.s3 HKF.out
          obtain ⟨f0, f1, f2, _, _, _⟩ := Bq.s3 HK1F.out
          have q1 := eq_ref3 0
          have q2 := eq_ref3 1
          clear hk1 hk2 F7 h7 HK1A HK2A HLOWA hma hov HKF HK1F HF7
          unfold fill3 at hld e0 e1 e2 f0 f1 f2
          go_wp2_with fail
          ((with_reducible refine hld.mono ?_); rintro e w8 ⟨rfl, F8, h8⟩)
          have HL8 := Lib.hid (HLO.out.trans ((Only3.of_only (q := p) h8).below (B := W.heap.size) hp hb hp HLO.out.size))
          clear h8 F8 hld
          go_wp2_with fail
          go_ret
          exact ⟨rfl, HL8.out⟩
end Go.Proofs.YtlcbinckbkdgdaaGreatDoor
