/-
  Alloc, Free and Park in plain words: what of the memory they read, each one's step, a thread's; no condition.
-/
import Derived.Test.YtlcbinckbkdgdaaGreatDoorH4
namespace Go.Proofs.YtlcbinckbkdgdaaGreatDoor
open Go.RowKit Go.Maps

/-- The words that allocs turns: the list's, each slot's header, each segment's state and how many it has put aside. -/
structure MA where
  ms : MS
  hdr : Int → Int
  sst : Int → Int
  spk : Int → Int
def MA.setH (m : MA) (s v : Int) : MA := { m with hdr := fun k => if k = s then v else m.hdr k }
def MA.setP (m : MA) (g v : Int) : MA := { m with spk := fun k => if k = g then v else m.spk k }
def MA.setD (m : MA) (g v : Int) : MA := { m with sst := fun k => if k = g then v else m.sst k }
def gW (w : Int) : Int := fld w 3 32
def stW (w : Int) : Int := fld w 0 3
def segF (s : Int) : Int := s / 8
def up64 (n : Int) : Int := (n + 1) % 18446744073709551616
def down64 (n : Int) : Int := (n - 1) % 18446744073709551616
/-- A Park: its line (0: over), its slot, the header and the number that it read, its Push, did it stay. -/
structure PO where
  ln : Int
  sl : Int
  w : Int
  n : Int
  psh : OS
  st : Bool
def parkF (o : PO) (m : MA) : PO × MA :=
  if o.ln = 1 then ({ o with ln := 2, w := m.hdr o.sl }, m)
  else if o.ln = 2 then ({ o with ln := 3 }, m.setH o.sl (headerW 3 (gW o.w)))
  else if o.ln = 3 then ({ o with ln := 4, n := m.spk (segF o.sl) }, m)
  else if o.ln = 4 then (if m.spk (segF o.sl) = o.n then ({ o with ln := 5 }, m.setP (segF o.sl) (up64 o.n)) else ({ o with ln := 3 }, m))
  else if o.ln = 5 then (if m.sst (segF o.sl) = 1 then { o with ln := 6 } else { o with ln := 0, st := true }, m)
  else if o.ln = 6 then ({ o with ln := 7, n := m.spk (segF o.sl) }, m)
  else if o.ln = 7 then (if m.spk (segF o.sl) = o.n then ({ o with ln := 8 }, m.setP (segF o.sl) (down64 o.n)) else ({ o with ln := 6 }, m))
  else if o.ln = 8 then (if m.sst (segF o.sl) = 1 then { o with ln := 9 } else { o with ln := 3 }, m)
  else if o.ln = 9 then (if m.hdr o.sl = headerW 3 (gW o.w) then ({ o with ln := 10 }, m.setH o.sl (headerW 0 (gW o.w))) else ({ o with ln := 11 }, m))
  else if o.ln = 10 then ({ o with ln := if (pushF o.psh m.ms).1.nx = 0 then 0 else 10, psh := (pushF o.psh m.ms).1 }, { m with ms := (pushF o.psh m.ms).2 })
  else if o.ln = 11 then ({ o with ln := 12, n := m.spk (segF o.sl) }, m)
  else if o.ln = 12 then (if m.spk (segF o.sl) = o.n then ({ o with ln := 0 }, m.setP (segF o.sl) (up64 o.n)) else ({ o with ln := 11 }, m))
  else (o, m)
def newPark (s : Int) : PO := ⟨1, s, 0, 0, ⟨1, 0, s⟩, false⟩
/-- An Alloc: its line, its Pop, its slot, the header that it read, its Park; the generation that it got. -/
structure AlO where
  ln : Int
  pop : OS
  sl : Int
  w : Int
  pk : PO
  got : Bool
def newAl : AlO := ⟨1, ⟨1, 0, 0⟩, -1, 0, newPark (-1), false⟩
def alF (o : AlO) (m : MA) : AlO × MA :=
  if o.ln = 1 then
    (if (popF o.pop m.ms).1.nx = 0 then (if wSlot (popF o.pop m.ms).1.h < 0 then { o with ln := 0, pop := (popF o.pop m.ms).1 } else { o with ln := 2, pop := (popF o.pop m.ms).1, sl := wSlot (popF o.pop m.ms).1.h })
     else { o with pop := (popF o.pop m.ms).1 }, { m with ms := (popF o.pop m.ms).2 })
  else if o.ln = 2 then (if m.sst (segF o.sl) = 2 then { o with ln := 3, pk := newPark o.sl } else { o with ln := 4 }, m)
  else if o.ln = 3 then (if (parkF o.pk m).1.ln = 0 then { o with ln := 1, pop := ⟨1, 0, 0⟩, pk := (parkF o.pk m).1 } else { o with pk := (parkF o.pk m).1 }, (parkF o.pk m).2)
  else if o.ln = 4 then ({ o with ln := 5 }, m)
  else if o.ln = 5 then ({ o with ln := 6 }, m)
  else if o.ln = 6 then ({ o with ln := 7, w := m.hdr o.sl }, m)
  else if o.ln = 7 then ({ o with ln := 0, got := true }, m.setH o.sl (headerW 1 (gW o.w)))
  else (o, m)
/-- A Free: its line, its slot, the last generation, the header and the number that it read, its Park, its Push. -/
structure FrO where
  ln : Int
  sl : Int
  mo : Int
  w : Int
  n : Int
  pk : PO
  psh : OS
def newFr (s mo : Int) : FrO := ⟨1, s, mo, 0, 0, newPark s, ⟨1, 0, s⟩⟩
def frF (o : FrO) (m : MA) : FrO × MA :=
  if o.ln = 1 then ({ o with ln := 2, w := m.hdr o.sl }, m)
  else if o.ln = 2 then (if o.mo ≤ gW o.w then ({ o with ln := 3 }, m.setH o.sl (headerW 4 (gW o.w))) else ({ o with ln := 5 }, m.setH o.sl (headerW 0 (gW o.w + 1))))
  else if o.ln = 3 then ({ o with ln := 4, n := m.spk (segF o.sl) }, m)
  else if o.ln = 4 then (if m.spk (segF o.sl) = o.n then ({ o with ln := 0 }, m.setP (segF o.sl) (up64 o.n)) else ({ o with ln := 3 }, m))
  else if o.ln = 5 then (if m.sst (segF o.sl) = 2 then { o with ln := 6, pk := newPark o.sl } else { o with ln := 7, psh := ⟨1, 0, o.sl⟩ }, m)
  else if o.ln = 6 then ({ o with ln := if (parkF o.pk m).1.ln = 0 then 0 else 6, pk := (parkF o.pk m).1 }, (parkF o.pk m).2)
  else if o.ln = 7 then ({ o with ln := if (pushF o.psh m.ms).1.nx = 0 then 0 else 7, psh := (pushF o.psh m.ms).1 }, { m with ms := (pushF o.psh m.ms).2 })
  else (o, m)
/-- What is under way. -/
inductive AO where
  | no
  | al (o : AlO)
  | fr (o : FrO)
/-- A thread: the slots that it has, with their generations, and what is under way. -/
structure TA where
  held : List (Int × Int)
  op : AO
def beginA (t : TA) (b : Bool) (mo : Int) : TA :=
  match t.op with
  | .no => if b = true ∧ t.held ≠ [] then ⟨t.held.tail, .fr (newFr (t.held.headD (0, 0)).1 mo)⟩ else ⟨t.held, .al newAl⟩
  | _ => t
def goA (t : TA) (m : MA) : TA × MA :=
  match t.op with
  | .no => (t, m)
  | .al o => (if (alF o m).1.ln = 0 then ⟨if (alF o m).1.got then t.held ++ [((alF o m).1.sl, gW (alF o m).1.w)] else t.held, .no⟩ else ⟨t.held, .al (alF o m).1⟩, (alF o m).2)
  | .fr o => (if (frF o m).1.ln = 0 then ⟨t.held, .no⟩ else ⟨t.held, .fr (frF o m).1⟩, (frF o m).2)
def drainA (m : MA) (g : Int) (b : Bool) : MA := if b then (if m.sst g = 1 then m.setD g 2 else m) else (if m.sst g = 2 then m.setD g 1 else m)

/-- The slot of what is under way. -/
def pendA : AO → List Int
  | .no => []
  | .al o => if o.ln = 1 then [] else [o.sl]
  | .fr o => [o.sl]
/-- Has this Park told itself put aside? -/
def tlP (o : PO) : Nat := if o.ln = 5 ∨ o.ln = 6 ∨ o.ln = 7 then 1 else 0
def tellN : AO → Int → Nat
  | .no, _ => 0
  | .al o, g => if o.ln = 3 ∧ segF o.sl = g then tlP o.pk else 0
  | .fr o, g => if o.ln = 6 ∧ segF o.sl = g then tlP o.pk else 0
def ownA (t : TA) : List Int := t.held.map (·.1) ++ pendA t.op
/-- The state of the header that a Park has to do with. -/
def stP (o : PO) : Int := if 3 ≤ o.ln ∧ o.ln ≤ 9 then 3 else 0
def stA : AO → Int
  | .no => 0
  | .al o => if o.ln = 3 then stP o.pk else 0
  | .fr o => if o.ln ≤ 2 then 1 else if o.ln ≤ 4 then 4 else if o.ln = 6 then stP o.pk else 0
end Go.Proofs.YtlcbinckbkdgdaaGreatDoor
