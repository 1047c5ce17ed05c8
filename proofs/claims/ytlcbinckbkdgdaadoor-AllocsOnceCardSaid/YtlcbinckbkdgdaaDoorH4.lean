/-
  Threads over the list of free slots, in plain words: what each has and what is under way, a step of one; no slot is with two, whoever is alone is over in five steps; no condition.
-/
import Derived.Test.YtlcbinckbkdgdaaDoorH2
namespace Go.Proofs.YtlcbinckbkdgdaaDoor
open Go.RowKit Go.Maps

/-- What is under way. -/
inductive TO where
  | no
  | pop (o : OS)
  | push (o : OS)
/-- A thread: what it has, and what is under way. -/
structure Th where
  held : List Int
  op : TO
def beginF (t : Th) (b : Bool) : Th :=
  match t.op with
  | .no => if b = true ∧ t.held ≠ [] then ⟨t.held.tail, .push ⟨1, 0, t.held.headD 0⟩⟩ else ⟨t.held, .pop ⟨1, 0, 0⟩⟩
  | _ => t
def goF (t : Th) (M : MS) : Th × MS :=
  match t.op with
  | .no => (t, M)
  | .pop o => (if (popF o M).1.nx = 0 then ⟨if wSlot (popF o M).1.h < 0 then t.held else t.held ++ [wSlot (popF o M).1.h], .no⟩ else ⟨t.held, .pop (popF o M).1⟩, (popF o M).2)
  | .push o => (if (pushF o M).1.nx = 0 then ⟨t.held, .no⟩ else ⟨t.held, .push (pushF o M).1⟩, (pushF o M).2)

def pend : TO → List Int
  | .push o => [o.to]
  | _ => []
def ownT (t : Th) : List Int := t.held ++ pend t.op
/-- A head that was read: it stands, or an older one. -/
def Fresh (M : MS) (T h : Int) : Prop := h = M.hd ∨ fld h 16 48 < T
def OpOk (n : Int) (M : MS) (S : List Int) (T : Int) : TO → Prop
  | .no => True
  | .pop o => U64 o.h ∧ (o.nx = 1 ∨ (o.nx = 2 ∧ 0 ≤ wSlot o.h ∧ Fresh M T o.h) ∨ (o.nx = 3 ∧ 0 ≤ wSlot o.h ∧ Fresh M T o.h ∧ (o.h = M.hd → o.to = topOf S.tail)))
  | .push o => U64 o.h ∧ (0 ≤ o.to ∧ o.to < n) ∧ (o.nx = 1 ∨ (o.nx = 2 ∧ Fresh M T o.h) ∨ (o.nx = 3 ∧ Fresh M T o.h ∧ (o.h = M.hd → wSlot (M.lk o.to) = topOf S)))
def remF (M : MS) : TO → Nat
  | .no => 0
  | .pop o | .push o => if o.nx = 1 then 3 else if o.nx = 2 then (if o.h = M.hd then 2 else 5) else (if o.h = M.hd then 1 else 4)

def sum6 (f : Nat → Nat) : Nat := f 0 + f 1 + f 2 + f 3 + f 4 + f 5
def updT (th : Nat → Th) (k : Nat) (t : Th) : Nat → Th := fun j => if j = k then t else th j
theorem updT_same (th : Nat → Th) (k : Nat) (t : Th) : updT th k t k = t := by simp [updT]
theorem updT_ne (th : Nat → Th) {j k : Nat} (t : Th) (h : j ≠ k) : updT th k t j = th j := by simp [updT, h]
theorem sum6_upd (f : Nat → Nat) (g : Nat → Nat) {k : Nat} (hk : k < 6) (h : ∀ j, j ≠ k → g j = f j) : sum6 g + f k = sum6 f + g k := by
  unfold sum6
  have a := h 0; have b := h 1; have c := h 2; have d := h 3; have e := h 4; have i := h 5
  obtain rfl | rfl | rfl | rfl | rfl | rfl : k = 0 ∨ k = 1 ∨ k = 2 ∨ k = 3 ∨ k = 4 ∨ k = 5 := by omega
  all_goals simp at a b c d e i; omega
theorem sum6_ge (f : Nat → Nat) {k : Nat} (hk : k < 6) : f k ≤ sum6 f := by
  unfold sum6
  obtain rfl | rfl | rfl | rfl | rfl | rfl : k = 0 ∨ k = 1 ∨ k = 2 ∨ k = 3 ∨ k = 4 ∨ k = 5 := by omega
  all_goals omega
theorem sum6_ge2 (f : Nat → Nat) {j k : Nat} (hj : j < 6) (hk : k < 6) (h : j ≠ k) : f j + f k ≤ sum6 f := by
  have a := sum6_upd f (fun i => if i = k then 0 else f i) hk (fun i hi => by simp [hi])
  have b := sum6_ge (fun i => if i = k then 0 else f i) hj
  simp [h] at a b
  omega
/-- How often a slot is there. -/
def cntT (S : List Int) (th : Nat → Th) (z : Int) : Nat := S.count z + sum6 fun k => (ownT (th k)).count z
/-- What holds between two steps. -/
structure Inv (n : Nat) (th : Nat → Th) (S : List Int) (T : Int) (M : MS) : Prop where
  stk : Stk M S T
  ops : ∀ k, k < 6 → OpOk n M S T (th k).op
  cnt : ∀ z, cntT S th z = if 0 ≤ z ∧ z < n then 1 else 0
section
variable {n : Nat} {th : Nat → Th} {S : List Int} {T : Int} {M : MS}
theorem Stk.tag (h : Stk M S T) : fld M.hd 16 48 = T := by rw [h.hd]; exact tag_small _ _ h.t0 h.t1
theorem Stk.slotM (h : Stk M S T) : wSlot M.hd = topOf S := by rw [h.hd]; exact h.slot
theorem Stk.u64 (h : Stk M S T) : U64 M.hd := by rw [h.hd]; exact head_u64 _ _
theorem Fresh.eq_iff (h : Stk M S T) {x : Int} (f : Fresh M T x) : x = M.hd ↔ fld x 16 48 = T := by
  constructor
  · rintro rfl; exact h.tag
  · intro e
    rcases f with f | f
    · exact f
    · omega
theorem Fresh.up (h : Stk M S T) {M' : MS} {x : Int} (f : Fresh M T x) : Fresh M' (T + 1) x := by
  right
  rcases f with f | f
  · rw [f, h.tag]; omega
  · omega
theorem Fresh.ne (h : Stk M S T) {x h' : Int} (f : Fresh M T x) (hh : fld h' 16 48 = T + 1) : x ≠ h' := by
  rintro rfl
  rcases f with f | f
  · rw [f, h.tag] at hh; omega
  · omega
theorem Inv.mem (I : Inv n th S T M) {z : Int} (h : 0 < cntT S th z) : 0 ≤ z ∧ z < n := by
  have := I.cnt z
  split at this
  · assumption
  · omega
theorem Inv.owned (I : Inv n th S T M) {k : Nat} (hk : k < 6) {z : Int} (h : z ∈ ownT (th k)) : 0 ≤ z ∧ z < n := by
  refine I.mem ?_
  have := List.count_pos_iff.2 h
  have := sum6_ge (fun k => (ownT (th k)).count z) hk
  unfold cntT
  omega
theorem Inv.notin (I : Inv n th S T M) {k : Nat} (hk : k < 6) {z : Int} (h : z ∈ ownT (th k)) : z ∉ S := by
  intro hs
  have h1 := List.count_pos_iff.2 h
  have h2 := sum6_ge (fun k => (ownT (th k)).count z) hk
  have h3 := List.count_pos_iff.2 hs
  have := I.cnt z
  unfold cntT at this
  split at this <;> omega
theorem Inv.notin2 (I : Inv n th S T M) {j k : Nat} (hj : j < 6) (hk : k < 6) (hne : j ≠ k) {z : Int} (h : z ∈ ownT (th j)) : z ∉ ownT (th k) := by
  intro hs
  have h1 := List.count_pos_iff.2 h
  have h2 := sum6_ge2 (fun k => (ownT (th k)).count z) hj hk hne
  have h3 := List.count_pos_iff.2 hs
  have := I.cnt z
  unfold cntT at this
  split at this <;> omega

/-- Another head: what others have under way is older. -/
theorem OpOk.up (h : Stk M S T) {M' : MS} {S' : List Int} (hM : fld M'.hd 16 48 = T + 1) {o : TO} (k : OpOk n M S T o) : OpOk n M' S' (T + 1) o := by
  cases o with
  | no => trivial
  | pop o =>
    obtain ⟨hu, k⟩ := k
    refine ⟨hu, ?_⟩
    rcases k with k | ⟨k1, k2, k3⟩ | ⟨k1, k2, k3, k4⟩
    · exact .inl k
    · exact .inr (.inl ⟨k1, k2, k3.up h⟩)
    · exact .inr (.inr ⟨k1, k2, k3.up h, fun e => absurd e (k3.ne h hM)⟩)
  | push o =>
    obtain ⟨hu, hn, k⟩ := k
    refine ⟨hu, hn, ?_⟩
    rcases k with k | ⟨k1, k3⟩ | ⟨k1, k3, k4⟩
    · exact .inl k
    · exact .inr (.inl ⟨k1, k3.up h⟩)
    · exact .inr (.inr ⟨k1, k3.up h, fun e => absurd e (k3.ne h hM)⟩)
/-- A link of a slot that is not this one's. -/
theorem OpOk.link {x v : Int} {o : TO} (hx : ∀ y ∈ pend o, y ≠ x) (k : OpOk n M S T o) : OpOk n (M.link x v) S T o := by
  cases o with
  | no => trivial
  | pop o => exact k
  | push o =>
    obtain ⟨hu, hn, k⟩ := k
    refine ⟨hu, hn, ?_⟩
    rcases k with k | k | ⟨k1, k3, k4⟩
    · exact .inl k
    · exact .inr (.inl k)
    · exact .inr (.inr ⟨k1, k3, fun e => by
        simp only [MS.link, if_neg (hx o.to (by simp [pend]))]
        exact k4 e⟩)
theorem Inv.begin (I : Inv n th S T M) {k : Nat} (hk : k < 6) (b : Bool) : Inv n (updT th k (beginF (th k) b)) S T M := by
  have hop := I.ops k hk
  refine ⟨I.stk, fun j hj => ?_, fun z => ?_⟩
  · by_cases hjk : j = k
    · subst hjk
      rw [updT_same]
      unfold beginF
      split
      · split
        · rename_i h
          cases hh : (th j).held with
          | nil => exact absurd hh h.2
          | cons x r =>
            exact ⟨u64_0, I.owned hj (by unfold ownT; simp [hh]), .inl rfl⟩
        · exact ⟨u64_0, .inl rfl⟩
      · exact hop
    · rw [updT_ne _ _ hjk]; exact I.ops j hj
  · have h := sum6_upd (fun j => (ownT (th j)).count z) (fun j => (ownT (updT th k (beginF (th k) b) j)).count z) hk (fun j hj => by rw [updT_ne _ _ hj])
    have e : (ownT (beginF (th k) b)).count z = (ownT (th k)).count z := by
      unfold beginF
      split
      · rename_i ho
        split
        · rename_i h
          cases hh : (th k).held with
          | nil => exact absurd hh h.2
          | cons x r =>
            simp [ownT, pend, ho, hh, List.count_append, List.count_cons]
        · simp [ownT, pend, ho]
      · rfl
    rw [updT_same, e] at h
    have := I.cnt z
    unfold cntT at this ⊢
    omega
end
end Go.Proofs.YtlcbinckbkdgdaaDoor
