/-
  Threads over the list of free slots, in plain words: what each has and what is under way, a step of one; no slot is with two, whoever is alone is over in five steps; no condition.
  Alloc, Free and Park in plain words: what of the memory they read, each one's step, a thread's; no condition.
-/
import Derived.Test.YtmjcbjcnmgleaaaGreatDoorH1
namespace Go.Proofs.YtmjcbjcnmgleaaaGreatDoor
open Go.RowKit Go.Maps

/-- What is under way. -/
inductive TO where
  | no
  | pop (o : OS)
  | push (o : OS)
/-- A thread: what it has, and what is under way. -/
structure Th where
  held : List Int
  op : TO
def beginF (t : Th) (b : Bool) : Th :=
  match t.op with
  | .no => if b = true ∧ t.held ≠ [] then ⟨t.held.tail, .push ⟨1, 0, t.held.headD 0⟩⟩ else ⟨t.held, .pop ⟨1, 0, 0⟩⟩
  | _ => t
def goF (t : Th) (M : MS) : Th × MS :=
  match t.op with
  | .no => (t, M)
  | .pop o => (if (popF o M).1.nx = 0 then ⟨if wSlot (popF o M).1.h < 0 then t.held else t.held ++ [wSlot (popF o M).1.h], .no⟩ else ⟨t.held, .pop (popF o M).1⟩, (popF o M).2)
  | .push o => (if (pushF o M).1.nx = 0 then ⟨t.held, .no⟩ else ⟨t.held, .push (pushF o M).1⟩, (pushF o M).2)

def pend : TO → List Int
  | .push o => [o.to]
  | _ => []
def ownT (t : Th) : List Int := t.held ++ pend t.op
/-- A head that was read: it stands, or an older one. -/
def Fresh (M : MS) (T h : Int) : Prop := h = M.hd ∨ fld h 16 48 < T
def OpOk (n : Int) (M : MS) (S : List Int) (T : Int) : TO → Prop
  | .no => True
  | .pop o => U64 o.h ∧ (o.nx = 1 ∨ (o.nx = 2 ∧ 0 ≤ wSlot o.h ∧ Fresh M T o.h) ∨ (o.nx = 3 ∧ 0 ≤ wSlot o.h ∧ Fresh M T o.h ∧ (o.h = M.hd → o.to = topOf S.tail)))
  | .push o => U64 o.h ∧ (0 ≤ o.to ∧ o.to < n) ∧ (o.nx = 1 ∨ (o.nx = 2 ∧ Fresh M T o.h) ∨ (o.nx = 3 ∧ Fresh M T o.h ∧ (o.h = M.hd → wSlot (M.lk o.to) = topOf S)))
def remF (M : MS) : TO → Nat
  | .no => 0
  | .pop o | .push o => if o.nx = 1 then 3 else if o.nx = 2 then (if o.h = M.hd then 2 else 5) else (if o.h = M.hd then 1 else 4)

def sum6 (f : Nat → Nat) : Nat := f 0 + f 1 + f 2 + f 3 + f 4 + f 5
def updT (th : Nat → Th) (k : Nat) (t : Th) : Nat → Th := fun j => if j = k then t else th j
theorem updT_same (th : Nat → Th) (k : Nat) (t : Th) : updT th k t k = t := by simp [updT]
theorem updT_ne (th : Nat → Th) {j k : Nat} (t : Th) (h : j ≠ k) : updT th k t j = th j := by simp [updT, h]
theorem sum6_upd (f : Nat → Nat) (g : Nat → Nat) {k : Nat} (hk : k < 6) (h : ∀ j, j ≠ k → g j = f j) : sum6 g + f k = sum6 f + g k := by
  unfold sum6
  have a := h 0; have b := h 1; have c := h 2; have d := h 3; have e := h 4; have i := h 5
  obtain rfl | rfl | rfl | rfl | rfl | rfl : k = 0 ∨ k = 1 ∨ k = 2 ∨ k = 3 ∨ k = 4 ∨ k = 5 := by omega
  all_goals simp at a b c d e i; omega
theorem sum6_ge (f : Nat → Nat) {k : Nat} (hk : k < 6) : f k ≤ sum6 f := by
  unfold sum6
  obtain rfl | rfl | rfl | rfl | rfl | rfl : k = 0 ∨ k = 1 ∨ k = 2 ∨ k = 3 ∨ k = 4 ∨ k = 5 := by omega
  all_goals omega
theorem sum6_ge2 (f : Nat → Nat) {j k : Nat} (hj : j < 6) (hk : k < 6) (h : j ≠ k) : f j + f k ≤ sum6 f := by
  have a := sum6_upd f (fun i => if i = k then 0 else f i) hk (fun i hi => by simp [hi])
  have b := sum6_ge (fun i => if i = k then 0 else f i) hj
  simp [h] at a b
  omega
/-- How often a slot is there. -/
def cntT (S : List Int) (th : Nat → Th) (z : Int) : Nat := S.count z + sum6 fun k => (ownT (th k)).count z
/-- What holds between two steps. -/
structure Inv (n : Nat) (th : Nat → Th) (S : List Int) (T : Int) (M : MS) : Prop where
  stk : Stk M S T
  ops : ∀ k, k < 6 → OpOk n M S T (th k).op
  cnt : ∀ z, cntT S th z = if 0 ≤ z ∧ z < n then 1 else 0
section
variable {n : Nat} {th : Nat → Th} {S : List Int} {T : Int} {M : MS}
theorem Stk.tag (h : Stk M S T) : fld M.hd 16 48 = T := by rw [h.hd]; exact tag_small _ _ h.t0 h.t1
theorem Stk.slotM (h : Stk M S T) : wSlot M.hd = topOf S := by rw [h.hd]; exact h.slot
theorem Stk.u64 (h : Stk M S T) : U64 M.hd := by rw [h.hd]; exact head_u64 _ _
theorem Fresh.eq_iff (h : Stk M S T) {x : Int} (f : Fresh M T x) : x = M.hd ↔ fld x 16 48 = T := by
  constructor
  · rintro rfl; exact h.tag
  · intro e
    rcases f with f | f
    · exact f
    · omega
theorem Fresh.up (h : Stk M S T) {M' : MS} {x : Int} (f : Fresh M T x) : Fresh M' (T + 1) x := by
  right
  rcases f with f | f
  · rw [f, h.tag]; omega
  · omega
theorem Fresh.ne (h : Stk M S T) {x h' : Int} (f : Fresh M T x) (hh : fld h' 16 48 = T + 1) : x ≠ h' := by
  rintro rfl
  rcases f with f | f
  · rw [f, h.tag] at hh; omega
  · omega
theorem Inv.mem (I : Inv n th S T M) {z : Int} (h : 0 < cntT S th z) : 0 ≤ z ∧ z < n := by
  have := I.cnt z
  split at this
  · assumption
  · omega
theorem Inv.owned (I : Inv n th S T M) {k : Nat} (hk : k < 6) {z : Int} (h : z ∈ ownT (th k)) : 0 ≤ z ∧ z < n := by
  refine I.mem ?_
  have := List.count_pos_iff.2 h
  have := sum6_ge (fun k => (ownT (th k)).count z) hk
  unfold cntT
  omega
theorem Inv.notin (I : Inv n th S T M) {k : Nat} (hk : k < 6) {z : Int} (h : z ∈ ownT (th k)) : z ∉ S := by
  intro hs
  have h1 := List.count_pos_iff.2 h
  have h2 := sum6_ge (fun k => (ownT (th k)).count z) hk
  have h3 := List.count_pos_iff.2 hs
  have := I.cnt z
  unfold cntT at this
  split at this <;> omega
theorem Inv.notin2 (I : Inv n th S T M) {j k : Nat} (hj : j < 6) (hk : k < 6) (hne : j ≠ k) {z : Int} (h : z ∈ ownT (th j)) : z ∉ ownT (th k) := by
  intro hs
  have h1 := List.count_pos_iff.2 h
  have h2 := sum6_ge2 (fun k => (ownT (th k)).count z) hj hk hne
  have h3 := List.count_pos_iff.2 hs
  have := I.cnt z
  unfold cntT at this
  split at this <;> omega

/-- Another head: what others have under way is older. -/
theorem OpOk.up (h : Stk M S T) {M' : MS} {S' : List Int} (hM : fld M'.hd 16 48 = T + 1) {o : TO} (k : OpOk n M S T o) : OpOk n M' S' (T + 1) o := by
  cases o with
  | no => trivial
  | pop o =>
    obtain ⟨hu, k⟩ := k
    refine ⟨hu, ?_⟩
    rcases k with k | ⟨k1, k2, k3⟩ | ⟨k1, k2, k3, k4⟩
    · exact .inl k
    · exact .inr (.inl ⟨k1, k2, k3.up h⟩)
    · exact .inr (.inr ⟨k1, k2, k3.up h, fun e => absurd e (k3.ne h hM)⟩)
  | push o =>
    obtain ⟨hu, hn, k⟩ := k
    refine ⟨hu, hn, ?_⟩
    rcases k with k | ⟨k1, k3⟩ | ⟨k1, k3, k4⟩
    · exact .inl k
    · exact .inr (.inl ⟨k1, k3.up h⟩)
    · exact .inr (.inr ⟨k1, k3.up h, fun e => absurd e (k3.ne h hM)⟩)
/-- A link of a slot that is not this one's. -/
theorem OpOk.link {x v : Int} {o : TO} (hx : ∀ y ∈ pend o, y ≠ x) (k : OpOk n M S T o) : OpOk n (M.link x v) S T o := by
  cases o with
  | no => trivial
  | pop o => exact k
  | push o =>
    obtain ⟨hu, hn, k⟩ := k
    refine ⟨hu, hn, ?_⟩
    rcases k with k | k | ⟨k1, k3, k4⟩
    · exact .inl k
    · exact .inr (.inl k)
    · exact .inr (.inr ⟨k1, k3, fun e => by
        simp only [MS.link, if_neg (hx o.to (by simp [pend]))]
        exact k4 e⟩)
theorem Inv.begin (I : Inv n th S T M) {k : Nat} (hk : k < 6) (b : Bool) : Inv n (updT th k (beginF (th k) b)) S T M := by
  have hop := I.ops k hk
  refine ⟨I.stk, fun j hj => ?_, fun z => ?_⟩
  · by_cases hjk : j = k
    · subst hjk
      rw [updT_same]
      unfold beginF
      split
      · split
        · rename_i h
          cases hh : (th j).held with
          | nil => exact absurd hh h.2
          | cons x r =>
            exact ⟨u64_0, I.owned hj (by unfold ownT; simp [hh]), .inl rfl⟩
        · exact ⟨u64_0, .inl rfl⟩
      · exact hop
    · rw [updT_ne _ _ hjk]; exact I.ops j hj
  · have h := sum6_upd (fun j => (ownT (th j)).count z) (fun j => (ownT (updT th k (beginF (th k) b) j)).count z) hk (fun j hj => by rw [updT_ne _ _ hj])
    have e : (ownT (beginF (th k) b)).count z = (ownT (th k)).count z := by
      unfold beginF
      split
      · rename_i ho
        split
        · rename_i h
          cases hh : (th k).held with
          | nil => exact absurd hh h.2
          | cons x r =>
            simp [ownT, pend, ho, hh, List.count_append, List.count_cons]
        · simp [ownT, pend, ho]
      · rfl
    rw [updT_same, e] at h
    have := I.cnt z
    unfold cntT at this ⊢
    omega
end
end Go.Proofs.YtmjcbjcnmgleaaaGreatDoor
namespace Go.Proofs.YtmjcbjcnmgleaaaGreatDoor
open Go.RowKit Go.Maps

/-- The words that allocs turns: the list's, each slot's header, each segment's state and how many it has put aside. -/
structure MA where
  ms : MS
  hdr : Int → Int
  sst : Int → Int
  spk : Int → Int
def MA.setH (m : MA) (s v : Int) : MA := { m with hdr := fun k => if k = s then v else m.hdr k }
def MA.setP (m : MA) (g v : Int) : MA := { m with spk := fun k => if k = g then v else m.spk k }
def MA.setD (m : MA) (g v : Int) : MA := { m with sst := fun k => if k = g then v else m.sst k }
def gW (w : Int) : Int := fld w 3 32
def stW (w : Int) : Int := fld w 0 3
def segF (s : Int) : Int := s / 8
def up64 (n : Int) : Int := (n + 1) % 18446744073709551616
def down64 (n : Int) : Int := (n - 1) % 18446744073709551616
/-- A Park: its line (0: over), its slot, the header and the number that it read, its Push, did it stay. -/
structure PO where
  ln : Int
  sl : Int
  w : Int
  n : Int
  psh : OS
  st : Bool
def parkF (o : PO) (m : MA) : PO × MA :=
  if o.ln = 1 then ({ o with ln := 2, w := m.hdr o.sl }, m)
  else if o.ln = 2 then ({ o with ln := 3 }, m.setH o.sl (headerW 3 (gW o.w)))
  else if o.ln = 3 then ({ o with ln := 4, n := m.spk (segF o.sl) }, m)
  else if o.ln = 4 then (if m.spk (segF o.sl) = o.n then ({ o with ln := 5 }, m.setP (segF o.sl) (up64 o.n)) else ({ o with ln := 3 }, m))
  else if o.ln = 5 then (if m.sst (segF o.sl) = 1 then { o with ln := 6 } else { o with ln := 0, st := true }, m)
  else if o.ln = 6 then ({ o with ln := 7, n := m.spk (segF o.sl) }, m)
  else if o.ln = 7 then (if m.spk (segF o.sl) = o.n then ({ o with ln := 8 }, m.setP (segF o.sl) (down64 o.n)) else ({ o with ln := 6 }, m))
  else if o.ln = 8 then (if m.sst (segF o.sl) = 1 then { o with ln := 9 } else { o with ln := 3 }, m)
  else if o.ln = 9 then (if m.hdr o.sl = headerW 3 (gW o.w) then ({ o with ln := 10 }, m.setH o.sl (headerW 0 (gW o.w))) else ({ o with ln := 11 }, m))
  else if o.ln = 10 then ({ o with ln := if (pushF o.psh m.ms).1.nx = 0 then 0 else 10, psh := (pushF o.psh m.ms).1 }, { m with ms := (pushF o.psh m.ms).2 })
  else if o.ln = 11 then ({ o with ln := 12, n := m.spk (segF o.sl) }, m)
  else if o.ln = 12 then (if m.spk (segF o.sl) = o.n then ({ o with ln := 0 }, m.setP (segF o.sl) (up64 o.n)) else ({ o with ln := 11 }, m))
  else (o, m)
def newPark (s : Int) : PO := ⟨1, s, 0, 0, ⟨1, 0, s⟩, false⟩
/-- An Alloc: its line, its Pop, its slot, the header that it read, its Park; the generation that it got. -/
structure AlO where
  ln : Int
  pop : OS
  sl : Int
  w : Int
  pk : PO
  got : Bool
def newAl : AlO := ⟨1, ⟨1, 0, 0⟩, -1, 0, newPark (-1), false⟩
def alF (o : AlO) (m : MA) : AlO × MA :=
  if o.ln = 1 then
    (if (popF o.pop m.ms).1.nx = 0 then (if wSlot (popF o.pop m.ms).1.h < 0 then { o with ln := 0, pop := (popF o.pop m.ms).1 } else { o with ln := 2, pop := (popF o.pop m.ms).1, sl := wSlot (popF o.pop m.ms).1.h })
     else { o with pop := (popF o.pop m.ms).1 }, { m with ms := (popF o.pop m.ms).2 })
  else if o.ln = 2 then (if m.sst (segF o.sl) = 2 then { o with ln := 3, pk := newPark o.sl } else { o with ln := 4 }, m)
  else if o.ln = 3 then (if (parkF o.pk m).1.ln = 0 then { o with ln := 1, pop := ⟨1, 0, 0⟩, pk := (parkF o.pk m).1 } else { o with pk := (parkF o.pk m).1 }, (parkF o.pk m).2)
  else if o.ln = 4 then ({ o with ln := 5 }, m)
  else if o.ln = 5 then ({ o with ln := 6 }, m)
  else if o.ln = 6 then ({ o with ln := 7, w := m.hdr o.sl }, m)
  else if o.ln = 7 then ({ o with ln := 0, got := true }, m.setH o.sl (headerW 1 (gW o.w)))
  else (o, m)
/-- A Free: its line, its slot, the last generation, the header and the number that it read, its Park, its Push. -/
structure FrO where
  ln : Int
  sl : Int
  mo : Int
  w : Int
  n : Int
  pk : PO
  psh : OS
def newFr (s mo : Int) : FrO := ⟨1, s, mo, 0, 0, newPark s, ⟨1, 0, s⟩⟩
def frF (o : FrO) (m : MA) : FrO × MA :=
  if o.ln = 1 then ({ o with ln := 2, w := m.hdr o.sl }, m)
  else if o.ln = 2 then (if o.mo ≤ gW o.w then ({ o with ln := 3 }, m.setH o.sl (headerW 4 (gW o.w))) else ({ o with ln := 5 }, m.setH o.sl (headerW 0 (gW o.w + 1))))
  else if o.ln = 3 then ({ o with ln := 4, n := m.spk (segF o.sl) }, m)
  else if o.ln = 4 then (if m.spk (segF o.sl) = o.n then ({ o with ln := 0 }, m.setP (segF o.sl) (up64 o.n)) else ({ o with ln := 3 }, m))
  else if o.ln = 5 then (if m.sst (segF o.sl) = 2 then { o with ln := 6, pk := newPark o.sl } else { o with ln := 7, psh := ⟨1, 0, o.sl⟩ }, m)
  else if o.ln = 6 then ({ o with ln := if (parkF o.pk m).1.ln = 0 then 0 else 6, pk := (parkF o.pk m).1 }, (parkF o.pk m).2)
  else if o.ln = 7 then ({ o with ln := if (pushF o.psh m.ms).1.nx = 0 then 0 else 7, psh := (pushF o.psh m.ms).1 }, { m with ms := (pushF o.psh m.ms).2 })
  else (o, m)
/-- What is under way. -/
inductive AO where
  | no
  | al (o : AlO)
  | fr (o : FrO)
/-- A thread: the slots that it has, with their generations, and what is under way. -/
structure TA where
  held : List (Int × Int)
  op : AO
def beginA (t : TA) (b : Bool) (mo : Int) : TA :=
  match t.op with
  | .no => if b = true ∧ t.held ≠ [] then ⟨t.held.tail, .fr (newFr (t.held.headD (0, 0)).1 mo)⟩ else ⟨t.held, .al newAl⟩
  | _ => t
def goA (t : TA) (m : MA) : TA × MA :=
  match t.op with
  | .no => (t, m)
  | .al o => (if (alF o m).1.ln = 0 then ⟨if (alF o m).1.got then t.held ++ [((alF o m).1.sl, gW (alF o m).1.w)] else t.held, .no⟩ else ⟨t.held, .al (alF o m).1⟩, (alF o m).2)
  | .fr o => (if (frF o m).1.ln = 0 then ⟨t.held, .no⟩ else ⟨t.held, .fr (frF o m).1⟩, (frF o m).2)
def drainA (m : MA) (g : Int) (b : Bool) : MA := if b then (if m.sst g = 1 then m.setD g 2 else m) else (if m.sst g = 2 then m.setD g 1 else m)

/-- The slot of what is under way. -/
def pendA : AO → List Int
  | .no => []
  | .al o => if o.ln = 1 then [] else [o.sl]
  | .fr o => [o.sl]
/-- Has this Park told itself put aside? -/
def tlP (o : PO) : Nat := if o.ln = 5 ∨ o.ln = 6 ∨ o.ln = 7 then 1 else 0
def tellN : AO → Int → Nat
  | .no, _ => 0
  | .al o, g => if o.ln = 3 ∧ segF o.sl = g then tlP o.pk else 0
  | .fr o, g => if o.ln = 6 ∧ segF o.sl = g then tlP o.pk else 0
def ownA (t : TA) : List Int := t.held.map (·.1) ++ pendA t.op
/-- The state of the header that a Park has to do with. -/
def stP (o : PO) : Int := if 3 ≤ o.ln ∧ o.ln ≤ 9 then 3 else 0
def stA : AO → Int
  | .no => 0
  | .al o => if o.ln = 3 then stP o.pk else 0
  | .fr o => if o.ln ≤ 2 then 1 else if o.ln ≤ 4 then 4 else if o.ln = 6 then stP o.pk else 0
end Go.Proofs.YtmjcbjcnmgleaaaGreatDoor
