/-
  Threads over the list of free slots, in plain words; conditions as each theorem says.
-/
import Derived.Test.YtmjcbjcnmgleaaaGreatDoorXP14
namespace Go.Proofs.YtmjcbjcnmgleaaaGreatDoor
open Go.RowKit Go.Maps
inductive TO where
  | no
  | pop (o : OS)
  | push (o : OS)
structure Th where
  held : List Int
  op : TO
def pend : TO → List Int
  | .push o => [o.to]
  | _ => []
def Fresh (M : MS) (T h : Int) : Prop := h = M.hd ∨ fld h 16 48 < T
def OpOk (n : Int) (M : MS) (S : List Int) (T : Int) : TO → Prop
  | .no => True
  | .pop o => U64 o.h ∧ (o.nx = 1 ∨ (o.nx = 2 ∧ 0 ≤ wSlot o.h ∧ Fresh M T o.h) ∨ (o.nx = 3 ∧ 0 ≤ wSlot o.h ∧ Fresh M T o.h ∧ (o.h = M.hd → o.to = topOf S.tail)))
  | .push o => U64 o.h ∧ (0 ≤ o.to ∧ o.to < n) ∧ (o.nx = 1 ∨ (o.nx = 2 ∧ Fresh M T o.h) ∨ (o.nx = 3 ∧ Fresh M T o.h ∧ (o.h = M.hd → wSlot (M.lk o.to) = topOf S)))
def remF (M : MS) : TO → Nat
  | .no => 0
  | .pop o | .push o => if o.nx = 1 then 3 else if o.nx = 2 then (if o.h = M.hd then 2 else 5) else (if o.h = M.hd then 1 else 4)
section
variable {n : Nat} {th : Nat → Th} {S : List Int} {T : Int} {M : MS}
theorem Stk.slotM (h : Stk M S T) : wSlot M.hd = topOf S := by rw [h.hd]; exact h.slot
end
end Go.Proofs.YtmjcbjcnmgleaaaGreatDoor
namespace Go.Proofs.YtmjcbjcnmgleaaaGreatDoor
open Go.RowKit Go.Maps
structure MA where
  ms : MS
  hdr : Int → Int
  sst : Int → Int
  spk : Int → Int
def MA.setH (m : MA) (s v : Int) : MA := { m with hdr := fun k => if k = s then v else m.hdr k }
def MA.setP (m : MA) (g v : Int) : MA := { m with spk := fun k => if k = g then v else m.spk k }
def MA.setD (m : MA) (g v : Int) : MA := { m with sst := fun k => if k = g then v else m.sst k }
def gW (w : Int) : Int := fld w 3 32
def stW (w : Int) : Int := fld w 0 3
def segF (s : Int) : Int := s / 8
def up64 (n : Int) : Int := (n + 1) % 18446744073709551616
def down64 (n : Int) : Int := (n - 1) % 18446744073709551616
structure PO where
  ln : Int
  sl : Int
  w : Int
  n : Int
  psh : OS
  st : Bool
def parkF (o : PO) (m : MA) : PO × MA :=
  if o.ln = 1 then ({ o with ln := 2, w := m.hdr o.sl }, m)
  else if o.ln = 2 then ({ o with ln := 3 }, m.setH o.sl (headerW 3 (gW o.w)))
  else if o.ln = 3 then ({ o with ln := 4, n := m.spk (segF o.sl) }, m)
  else if o.ln = 4 then (if m.spk (segF o.sl) = o.n then ({ o with ln := 5 }, m.setP (segF o.sl) (up64 o.n)) else ({ o with ln := 3 }, m))
  else if o.ln = 5 then (if m.sst (segF o.sl) = 1 then { o with ln := 6 } else { o with ln := 0, st := true }, m)
  else if o.ln = 6 then ({ o with ln := 7, n := m.spk (segF o.sl) }, m)
  else if o.ln = 7 then (if m.spk (segF o.sl) = o.n then ({ o with ln := 8 }, m.setP (segF o.sl) (down64 o.n)) else ({ o with ln := 6 }, m))
  else if o.ln = 8 then (if m.sst (segF o.sl) = 1 then { o with ln := 9 } else { o with ln := 3 }, m)
  else if o.ln = 9 then (if m.hdr o.sl = headerW 3 (gW o.w) then ({ o with ln := 10 }, m.setH o.sl (headerW 0 (gW o.w))) else ({ o with ln := 11 }, m))
  else if o.ln = 10 then ({ o with ln := if (pushF o.psh m.ms).1.nx = 0 then 0 else 10, psh := (pushF o.psh m.ms).1 }, { m with ms := (pushF o.psh m.ms).2 })
  else if o.ln = 11 then ({ o with ln := 12, n := m.spk (segF o.sl) }, m)
  else if o.ln = 12 then (if m.spk (segF o.sl) = o.n then ({ o with ln := 0 }, m.setP (segF o.sl) (up64 o.n)) else ({ o with ln := 11 }, m))
  else (o, m)
def newPark (s : Int) : PO := ⟨1, s, 0, 0, ⟨1, 0, s⟩, false⟩
structure AlO where
  ln : Int
  pop : OS
  sl : Int
  w : Int
  pk : PO
  got : Bool
def newAl : AlO := ⟨1, ⟨1, 0, 0⟩, -1, 0, newPark (-1), false⟩
def alF (o : AlO) (m : MA) : AlO × MA :=
  if o.ln = 1 then
    (if (popF o.pop m.ms).1.nx = 0 then (if wSlot (popF o.pop m.ms).1.h < 0 then { o with ln := 0, pop := (popF o.pop m.ms).1 } else { o with ln := 2, pop := (popF o.pop m.ms).1, sl := wSlot (popF o.pop m.ms).1.h })
     else { o with pop := (popF o.pop m.ms).1 }, { m with ms := (popF o.pop m.ms).2 })
  else if o.ln = 2 then (if m.sst (segF o.sl) = 2 then { o with ln := 3, pk := newPark o.sl } else { o with ln := 4 }, m)
  else if o.ln = 3 then (if (parkF o.pk m).1.ln = 0 then { o with ln := 1, pop := ⟨1, 0, 0⟩, pk := (parkF o.pk m).1 } else { o with pk := (parkF o.pk m).1 }, (parkF o.pk m).2)
  else if o.ln = 4 then ({ o with ln := 5 }, m)
  else if o.ln = 5 then ({ o with ln := 6 }, m)
  else if o.ln = 6 then ({ o with ln := 7, w := m.hdr o.sl }, m)
  else if o.ln = 7 then ({ o with ln := 0, got := true }, m.setH o.sl (headerW 1 (gW o.w)))
  else (o, m)
structure FrO where
  ln : Int
  sl : Int
  mo : Int
  w : Int
  n : Int
  pk : PO
  psh : OS
inductive AO where
  | no
  | al (o : AlO)
  | fr (o : FrO)
structure TA where
  held : List (Int × Int)
  op : AO
def pendA : AO → List Int
  | .no => []
  | .al o => if o.ln = 1 then [] else [o.sl]
  | .fr o => [o.sl]
def tlP (o : PO) : Nat := if o.ln = 5 ∨ o.ln = 6 ∨ o.ln = 7 then 1 else 0
def tellN : AO → Int → Nat
  | .no, _ => 0
  | .al o, g => if o.ln = 3 ∧ segF o.sl = g then tlP o.pk else 0
  | .fr o, g => if o.ln = 6 ∧ segF o.sl = g then tlP o.pk else 0
end Go.Proofs.YtmjcbjcnmgleaaaGreatDoor
