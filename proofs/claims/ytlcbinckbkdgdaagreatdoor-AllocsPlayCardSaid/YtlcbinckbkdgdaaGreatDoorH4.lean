/-
  Threads over the list of free slots, in plain words: what each has and what is under way, a step of one; no slot is with two, whoever is alone is over in five steps; no condition.
  Threads over the list of free slots, in plain words: a step of one keeps what holds, and brings its operation nearer to its end; no condition.
-/
import Derived.Test.YtlcbinckbkdgdaaGreatDoorH1
namespace Go.Proofs.YtlcbinckbkdgdaaGreatDoor
open Go.RowKit Go.Maps

/-- What is under way. -/
inductive TO where
  | no
  | pop (o : OS)
  | push (o : OS)
/-- A thread: what it has, and what is under way. -/
structure Th where
  held : List Int
  op : TO
def beginF (t : Th) (b : Bool) : Th :=
  match t.op with
  | .no => if b = true ∧ t.held ≠ [] then ⟨t.held.tail, .push ⟨1, 0, t.held.headD 0⟩⟩ else ⟨t.held, .pop ⟨1, 0, 0⟩⟩
  | _ => t
def goF (t : Th) (M : MS) : Th × MS :=
  match t.op with
  | .no => (t, M)
  | .pop o => (if (popF o M).1.nx = 0 then ⟨if wSlot (popF o M).1.h < 0 then t.held else t.held ++ [wSlot (popF o M).1.h], .no⟩ else ⟨t.held, .pop (popF o M).1⟩, (popF o M).2)
  | .push o => (if (pushF o M).1.nx = 0 then ⟨t.held, .no⟩ else ⟨t.held, .push (pushF o M).1⟩, (pushF o M).2)

def pend : TO → List Int
  | .push o => [o.to]
  | _ => []
def ownT (t : Th) : List Int := t.held ++ pend t.op
/-- A head that was read: it stands, or an older one. -/
def Fresh (M : MS) (T h : Int) : Prop := h = M.hd ∨ fld h 16 48 < T
def OpOk (n : Int) (M : MS) (S : List Int) (T : Int) : TO → Prop
  | .no => True
  | .pop o => U64 o.h ∧ (o.nx = 1 ∨ (o.nx = 2 ∧ 0 ≤ wSlot o.h ∧ Fresh M T o.h) ∨ (o.nx = 3 ∧ 0 ≤ wSlot o.h ∧ Fresh M T o.h ∧ (o.h = M.hd → o.to = topOf S.tail)))
  | .push o => U64 o.h ∧ (0 ≤ o.to ∧ o.to < n) ∧ (o.nx = 1 ∨ (o.nx = 2 ∧ Fresh M T o.h) ∨ (o.nx = 3 ∧ Fresh M T o.h ∧ (o.h = M.hd → wSlot (M.lk o.to) = topOf S)))
def remF (M : MS) : TO → Nat
  | .no => 0
  | .pop o | .push o => if o.nx = 1 then 3 else if o.nx = 2 then (if o.h = M.hd then 2 else 5) else (if o.h = M.hd then 1 else 4)

def sum6 (f : Nat → Nat) : Nat := f 0 + f 1 + f 2 + f 3 + f 4 + f 5
def updT (th : Nat → Th) (k : Nat) (t : Th) : Nat → Th := fun j => if j = k then t else th j
theorem updT_same (th : Nat → Th) (k : Nat) (t : Th) : updT th k t k = t := by simp [updT]
theorem updT_ne (th : Nat → Th) {j k : Nat} (t : Th) (h : j ≠ k) : updT th k t j = th j := by simp [updT, h]
theorem sum6_upd (f : Nat → Nat) (g : Nat → Nat) {k : Nat} (hk : k < 6) (h : ∀ j, j ≠ k → g j = f j) : sum6 g + f k = sum6 f + g k := by
  unfold sum6
  have a := h 0; have b := h 1; have c := h 2; have d := h 3; have e := h 4; have i := h 5
  obtain rfl | rfl | rfl | rfl | rfl | rfl : k = 0 ∨ k = 1 ∨ k = 2 ∨ k = 3 ∨ k = 4 ∨ k = 5 := by omega
  all_goals simp at a b c d e i; omega
theorem sum6_ge (f : Nat → Nat) {k : Nat} (hk : k < 6) : f k ≤ sum6 f := by
  unfold sum6
  obtain rfl | rfl | rfl | rfl | rfl | rfl : k = 0 ∨ k = 1 ∨ k = 2 ∨ k = 3 ∨ k = 4 ∨ k = 5 := by omega
  all_goals omega
theorem sum6_ge2 (f : Nat → Nat) {j k : Nat} (hj : j < 6) (hk : k < 6) (h : j ≠ k) : f j + f k ≤ sum6 f := by
  have a := sum6_upd f (fun i => if i = k then 0 else f i) hk (fun i hi => by simp [hi])
  have b := sum6_ge (fun i => if i = k then 0 else f i) hj
  simp [h] at a b
  omega
/-- How often a slot is there. -/
def cntT (S : List Int) (th : Nat → Th) (z : Int) : Nat := S.count z + sum6 fun k => (ownT (th k)).count z
/-- What holds between two steps. -/
structure Inv (n : Nat) (th : Nat → Th) (S : List Int) (T : Int) (M : MS) : Prop where
  stk : Stk M S T
  ops : ∀ k, k < 6 → OpOk n M S T (th k).op
  cnt : ∀ z, cntT S th z = if 0 ≤ z ∧ z < n then 1 else 0
section
variable {n : Nat} {th : Nat → Th} {S : List Int} {T : Int} {M : MS}
theorem Stk.tag (h : Stk M S T) : fld M.hd 16 48 = T := by rw [h.hd]; exact tag_small _ _ h.t0 h.t1
theorem Stk.slotM (h : Stk M S T) : wSlot M.hd = topOf S := by rw [h.hd]; exact h.slot
theorem Stk.u64 (h : Stk M S T) : U64 M.hd := by rw [h.hd]; exact head_u64 _ _
theorem Fresh.eq_iff (h : Stk M S T) {x : Int} (f : Fresh M T x) : x = M.hd ↔ fld x 16 48 = T := by
  constructor
  · rintro rfl; exact h.tag
  · intro e
    rcases f with f | f
    · exact f
    · omega
theorem Fresh.up (h : Stk M S T) {M' : MS} {x : Int} (f : Fresh M T x) : Fresh M' (T + 1) x := by
  right
  rcases f with f | f
  · rw [f, h.tag]; omega
  · omega
theorem Fresh.ne (h : Stk M S T) {x h' : Int} (f : Fresh M T x) (hh : fld h' 16 48 = T + 1) : x ≠ h' := by
  rintro rfl
  rcases f with f | f
  · rw [f, h.tag] at hh; omega
  · omega
theorem Inv.mem (I : Inv n th S T M) {z : Int} (h : 0 < cntT S th z) : 0 ≤ z ∧ z < n := by
  have := I.cnt z
  split at this
  · assumption
  · omega
theorem Inv.owned (I : Inv n th S T M) {k : Nat} (hk : k < 6) {z : Int} (h : z ∈ ownT (th k)) : 0 ≤ z ∧ z < n := by
  refine I.mem ?_
  have := List.count_pos_iff.2 h
  have := sum6_ge (fun k => (ownT (th k)).count z) hk
  unfold cntT
  omega
theorem Inv.notin (I : Inv n th S T M) {k : Nat} (hk : k < 6) {z : Int} (h : z ∈ ownT (th k)) : z ∉ S := by
  intro hs
  have h1 := List.count_pos_iff.2 h
  have h2 := sum6_ge (fun k => (ownT (th k)).count z) hk
  have h3 := List.count_pos_iff.2 hs
  have := I.cnt z
  unfold cntT at this
  split at this <;> omega
theorem Inv.notin2 (I : Inv n th S T M) {j k : Nat} (hj : j < 6) (hk : k < 6) (hne : j ≠ k) {z : Int} (h : z ∈ ownT (th j)) : z ∉ ownT (th k) := by
  intro hs
  have h1 := List.count_pos_iff.2 h
  have h2 := sum6_ge2 (fun k => (ownT (th k)).count z) hj hk hne
  have h3 := List.count_pos_iff.2 hs
  have := I.cnt z
  unfold cntT at this
  split at this <;> omega

/-- Another head: what others have under way is older. -/
theorem OpOk.up (h : Stk M S T) {M' : MS} {S' : List Int} (hM : fld M'.hd 16 48 = T + 1) {o : TO} (k : OpOk n M S T o) : OpOk n M' S' (T + 1) o := by
  cases o with
  | no => trivial
  | pop o =>
    obtain ⟨hu, k⟩ := k
    refine ⟨hu, ?_⟩
    rcases k with k | ⟨k1, k2, k3⟩ | ⟨k1, k2, k3, k4⟩
    · exact .inl k
    · exact .inr (.inl ⟨k1, k2, k3.up h⟩)
    · exact .inr (.inr ⟨k1, k2, k3.up h, fun e => absurd e (k3.ne h hM)⟩)
  | push o =>
    obtain ⟨hu, hn, k⟩ := k
    refine ⟨hu, hn, ?_⟩
    rcases k with k | ⟨k1, k3⟩ | ⟨k1, k3, k4⟩
    · exact .inl k
    · exact .inr (.inl ⟨k1, k3.up h⟩)
    · exact .inr (.inr ⟨k1, k3.up h, fun e => absurd e (k3.ne h hM)⟩)
/-- A link of a slot that is not this one's. -/
theorem OpOk.link {x v : Int} {o : TO} (hx : ∀ y ∈ pend o, y ≠ x) (k : OpOk n M S T o) : OpOk n (M.link x v) S T o := by
  cases o with
  | no => trivial
  | pop o => exact k
  | push o =>
    obtain ⟨hu, hn, k⟩ := k
    refine ⟨hu, hn, ?_⟩
    rcases k with k | k | ⟨k1, k3, k4⟩
    · exact .inl k
    · exact .inr (.inl k)
    · exact .inr (.inr ⟨k1, k3, fun e => by
        simp only [MS.link, if_neg (hx o.to (by simp [pend]))]
        exact k4 e⟩)
theorem Inv.begin (I : Inv n th S T M) {k : Nat} (hk : k < 6) (b : Bool) : Inv n (updT th k (beginF (th k) b)) S T M := by
  have hop := I.ops k hk
  refine ⟨I.stk, fun j hj => ?_, fun z => ?_⟩
  · by_cases hjk : j = k
    · subst hjk
      rw [updT_same]
      unfold beginF
      split
      · split
        · rename_i h
          cases hh : (th j).held with
          | nil => exact absurd hh h.2
          | cons x r =>
            exact ⟨u64_0, I.owned hj (by unfold ownT; simp [hh]), .inl rfl⟩
        · exact ⟨u64_0, .inl rfl⟩
      · exact hop
    · rw [updT_ne _ _ hjk]; exact I.ops j hj
  · have h := sum6_upd (fun j => (ownT (th j)).count z) (fun j => (ownT (updT th k (beginF (th k) b) j)).count z) hk (fun j hj => by rw [updT_ne _ _ hj])
    have e : (ownT (beginF (th k) b)).count z = (ownT (th k)).count z := by
      unfold beginF
      split
      · rename_i ho
        split
        · rename_i h
          cases hh : (th k).held with
          | nil => exact absurd hh h.2
          | cons x r =>
            simp [ownT, pend, ho, hh, List.count_append, List.count_cons]
        · simp [ownT, pend, ho]
      · rfl
    rw [updT_same, e] at h
    have := I.cnt z
    unfold cntT at this ⊢
    omega
end
end Go.Proofs.YtlcbinckbkdgdaaGreatDoor
namespace Go.Proofs.YtlcbinckbkdgdaaGreatDoor
open Go.RowKit Go.Maps

section
variable {n : Nat} {th : Nat → Th} {S : List Int} {T : Int} {M : MS}
/-- The parts of a step: thread k's new state, the list's. -/
theorem Inv.put (I : Inv n th S T M) {k : Nat} (hk : k < 6) {t : Th} {S' : List Int} {T' : Int} {M' : MS} (stk : Stk M' S' T') (hop : OpOk n M' S' T' t.op) (hoth : ∀ j, j < 6 → j ≠ k → OpOk n M' S' T' (th j).op)
    (hc : ∀ z, S'.count z + (ownT t).count z = S.count z + (ownT (th k)).count z) : Inv n (updT th k t) S' T' M' := by
  refine ⟨stk, fun j hj => ?_, fun z => ?_⟩
  · by_cases hjk : j = k
    · subst hjk; rw [updT_same]; exact hop
    · rw [updT_ne _ _ hjk]; exact hoth j hj hjk
  · have h := sum6_upd (fun j => (ownT (th j)).count z) (fun j => (ownT (updT th k t j)).count z) hk (fun j hj => by rw [updT_ne _ _ hj])
    rw [updT_same] at h
    have := I.cnt z
    have := hc z
    unfold cntT at *
    omega
theorem topOf_cons {S : List Int} {x : Int} (h : topOf S = x) (hx : 0 ≤ x) : S = x :: S.tail := by
  cases S with
  | nil => simp [topOf] at h; omega
  | cons y r => simp only [topOf] at h; rw [h]; rfl

theorem Inv.go (I : Inv n th S T M) (hn : n ≤ 60) (hT : T + 1 < 1000000) {k : Nat} (hk : k < 6) (hop : (th k).op ≠ .no) :
    ∃ S' T', Inv n (updT th k (goF (th k) M).1) S' T' (goF (th k) M).2 ∧ T ≤ T' ∧ T' ≤ T + 1 ∧ ((goF (th k) M).1.op = .no ∨ remF (goF (th k) M).2 (goF (th k) M).1.op + 1 ≤ remF M (th k).op) := by
  have ho := I.ops k hk
  have hown : ∀ z ∈ ownT (th k), 0 ≤ z ∧ z < n := fun z hz => I.owned hk hz
  have hnot : ∀ z ∈ ownT (th k), z ∉ S := fun z hz => I.notin hk hz
  have hslot := I.stk.slotM
  have htag := I.stk.tag
  have hoth : ∀ j, j < 6 → j ≠ k → OpOk n M S T (th j).op := fun j hj _ => I.ops j hj
  obtain ⟨o, e⟩ | ⟨o, e⟩ : (∃ o, (th k).op = .pop o) ∨ ∃ o, (th k).op = .push o := by
    cases h : (th k).op with
    | no => exact absurd h hop
    | pop o => exact .inl ⟨o, rfl⟩
    | push o => exact .inr ⟨o, rfl⟩
  · -- a Pop
    have ew : ownT (th k) = (th k).held := by simp [ownT, e, pend]
    rw [e] at ho
    obtain ⟨hu, h1 | ⟨h1, h2, h3⟩ | ⟨h1, h2, h3, h4⟩⟩ := ho
    · -- its first line
      by_cases hs : wSlot M.hd < 0
      · have eg : goF (th k) M = (⟨(th k).held, .no⟩, M) := by simp [goF, e, popF, h1, hs]
        rw [eg]
        refine ⟨S, T, I.put hk I.stk trivial hoth (fun z => by rw [ew]; simp [ownT, pend]), Int.le_refl _, by omega, .inl rfl⟩
      · have eg : goF (th k) M = (⟨(th k).held, .pop ⟨2, M.hd, o.to⟩⟩, M) := by simp [goF, e, popF, h1, hs]
        rw [eg]
        refine ⟨S, T, I.put hk I.stk ⟨I.stk.u64, .inr (.inl ⟨rfl, Int.not_lt.1 hs, .inl rfl⟩)⟩ hoth (fun z => by rw [ew]; simp [ownT, pend]), Int.le_refl _, by omega, .inr ?_⟩
        rw [e]
        simp [remF, h1]
    · have eg : goF (th k) M = (⟨(th k).held, .pop ⟨3, o.h, wSlot (M.lk (wSlot o.h))⟩⟩, M) := by simp [goF, e, popF, h1]
      rw [eg]
      refine ⟨S, T, I.put hk I.stk ⟨hu, .inr (.inr ⟨rfl, h2, h3, fun eh => ?_⟩)⟩ hoth (fun z => by rw [ew]; simp [ownT, pend]), Int.le_refl _, by omega, .inr ?_⟩
      · have ec := topOf_cons (S := S) (x := wSlot o.h) (by rw [eh, hslot]) h2
        have hc := I.stk.ch
        rw [ec] at hc
        exact hc.1.2.2
      · rw [e]
        simp only [remF, h1]
        by_cases hh : o.h = M.hd <;> simp [hh]
    · by_cases hh : M.hd = o.h
      · have ec := topOf_cons (S := S) (x := wSlot o.h) (by rw [← hh, hslot]) h2
        have et : o.to = topOf S.tail := h4 hh.symm
        have etg : fld o.h 16 48 = T := by rw [← hh]; exact htag
        have eg : goF (th k) M = (⟨(th k).held ++ [wSlot o.h], .no⟩, ⟨headW (topOf S.tail) (T + 1), M.lk⟩) := by
          have hw : ¬ wSlot o.h < 0 := by omega
          simp [goF, e, popF, swapF, h1, hh, nextW, hw, et, etg]
        rw [eg]
        have hst := I.stk
        rw [ec] at hst
        have hst' := hst.popped hT
        have e2 : fld (MS.mk (headW (topOf S.tail) (T + 1)) M.lk).hd 16 48 = T + 1 := hst'.tag
        refine ⟨S.tail, T + 1, I.put hk hst' trivial (fun j hj hjk => (I.ops j hj).up I.stk e2) (fun z => ?_), by omega, by omega, .inl rfl⟩
        rw [ew]
        conv => rhs; rw [ec]
        simp only [ownT, pend, List.count_append, List.count_cons, List.count_nil]
        simp
        omega
      · have eg : goF (th k) M = (⟨(th k).held, .pop ⟨1, o.h, o.to⟩⟩, M) := by simp [goF, e, popF, swapF, h1, hh]
        rw [eg]
        refine ⟨S, T, I.put hk I.stk ⟨hu, .inl rfl⟩ hoth (fun z => by rw [ew]; simp [ownT, pend]), Int.le_refl _, by omega, .inr ?_⟩
        rw [e]
        have : ¬ o.h = M.hd := fun h => hh h.symm
        simp [remF, h1, this]
  · -- a Push
    have ew : ownT (th k) = (th k).held ++ [o.to] := by simp [ownT, e, pend]
    have hto := hown o.to (by rw [ew]; simp)
    have hnS := hnot o.to (by rw [ew]; simp)
    rw [e] at ho
    obtain ⟨hu, hin, h1 | ⟨h1, h3⟩ | ⟨h1, h3, h4⟩⟩ := ho
    · have eg : goF (th k) M = (⟨(th k).held, .push ⟨2, M.hd, o.to⟩⟩, M) := by simp [goF, e, pushF, h1]
      rw [eg]
      refine ⟨S, T, I.put hk I.stk ⟨I.stk.u64, hin, .inr (.inl ⟨rfl, .inl rfl⟩)⟩ hoth (fun z => by rw [ew]; simp [ownT, pend]), Int.le_refl _, by omega, .inr ?_⟩
      rw [e]
      simp [remF, h1]
    · have eg : goF (th k) M = (⟨(th k).held, .push ⟨3, o.h, o.to⟩⟩, M.link o.to (headW (wSlot o.h) 0)) := by simp [goF, e, pushF, h1]
      rw [eg]
      have hst : Stk (M.link o.to (headW (wSlot o.h) 0)) S T := ⟨I.stk.hd, I.stk.ch.upd hnS _, I.stk.nd, I.stk.t0, I.stk.t1⟩
      refine ⟨S, T, I.put hk hst ⟨hu, hin, .inr (.inr ⟨rfl, h3, fun eh => ?_⟩)⟩ (fun j hj hjk => (I.ops j hj).link (fun y hy => ?_)) (fun z => by rw [ew]; simp [ownT, pend]), Int.le_refl _, by omega, .inr ?_⟩
      · have hin2 := slot_in o.h
        simp only [MS.link, if_true]
        rw [slot_head _ _ hin2.1 (by omega)]
        have : M.hd = o.h := eh.symm
        rw [← this]
        exact hslot
      · intro ey
        exact I.notin2 hj hk hjk (z := y) (by unfold ownT; exact List.mem_append_right _ hy) (by rw [ew, ey]; simp)
      · rw [e]
        simp only [remF, h1, MS.link]
        by_cases hh : o.h = M.hd <;> simp [hh]
    · by_cases hh : M.hd = o.h
      · have etg : fld o.h 16 48 = T := by rw [← hh]; exact htag
        have eg : goF (th k) M = (⟨(th k).held, .no⟩, ⟨headW o.to (T + 1), M.lk⟩) := by
          simp [goF, e, pushF, swapF, h1, hh, nextW, etg]
        rw [eg]
        have hst' := I.stk.pushed (h4 hh.symm) hnS hto.1 (by omega) hT
        have e2 : fld (MS.mk (headW o.to (T + 1)) M.lk).hd 16 48 = T + 1 := hst'.tag
        refine ⟨o.to :: S, T + 1, I.put hk hst' trivial (fun j hj hjk => (I.ops j hj).up I.stk e2) (fun z => ?_), by omega, by omega, .inl rfl⟩
        rw [ew]
        simp only [ownT, pend, List.count_append, List.count_cons, List.count_nil]
        simp
        omega
      · have eg : goF (th k) M = (⟨(th k).held, .push ⟨1, o.h, o.to⟩⟩, M) := by simp [goF, e, pushF, swapF, h1, hh]
        rw [eg]
        refine ⟨S, T, I.put hk I.stk ⟨hu, hin, .inl rfl⟩ hoth (fun z => by rw [ew]; simp [ownT, pend]), Int.le_refl _, by omega, .inr ?_⟩
        rw [e]
        have : ¬ o.h = M.hd := fun h => hh h.symm
        simp [remF, h1, this]
end
end Go.Proofs.YtlcbinckbkdgdaaGreatDoor
