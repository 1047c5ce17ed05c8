/-
  One step of an Alloc and of a Free in plain words; One step of an Alloc and of a Free, in plain words, where an; The keeper of segments, in plain words; The keeper of segments, with nobody else about, in plain wor; conditions as each theorem says.
-/
import Derived.Test.YtmjcbjcnmgleaaaGreatDoorXP24
namespace Go.Proofs.YtmjcbjcnmgleaaaGreatDoor
open Go.RowKit Go.Maps
section
variable {n : Nat} {S : List Int} {T : Int} {M : MA} {mo : Int} {lst : Int → Int}
def AlOk (n : Nat) (M : MA) (S : List Int) (T mo : Int) (lst : Int → Int) (o : AlO) : Prop :=
  o.got = false ∧ ((o.ln = 1 ∧ OpOk n M.ms S T (.pop o.pop)) ∨ ((0 ≤ o.sl ∧ o.sl < n) ∧
    (((o.ln = 2 ∨ o.ln = 4 ∨ o.ln = 5 ∨ o.ln = 6) ∧ Hg M mo lst 0 o.sl) ∨ (o.ln = 3 ∧ o.pk.sl = o.sl ∧ PkOk n M S T mo lst o.pk) ∨ (o.ln = 7 ∧ M.hdr o.sl = headerW 0 (gW o.w) ∧ lst o.sl ≤ gW o.w ∧ 0 ≤ gW o.w ∧ gW o.w ≤ mo))))
def FrOk (n : Nat) (M : MA) (S : List Int) (T mo : Int) (lst : Int → Int) (o : FrO) : Prop :=
  (0 ≤ o.sl ∧ o.sl < n) ∧ o.mo = mo ∧
    ((o.ln = 1 ∧ ∃ g, M.hdr o.sl = headerW 1 g ∧ lst o.sl ≤ g + 1 ∧ 0 ≤ g ∧ g ≤ mo) ∨ (o.ln = 2 ∧ ∃ g, gW o.w = g ∧ lst o.sl ≤ g + 1 ∧ 0 ≤ g ∧ g ≤ mo) ∨ ((o.ln = 3 ∨ o.ln = 4) ∧ ∃ g, M.hdr o.sl = headerW 4 g ∧ 0 ≤ g ∧ g ≤ mo)
      ∨ (o.ln = 5 ∧ Hg M mo lst 0 o.sl) ∨ (o.ln = 6 ∧ o.pk.sl = o.sl ∧ PkOk n M S T mo lst o.pk) ∨ (o.ln = 7 ∧ Hg M mo lst 0 o.sl ∧ o.psh.to = o.sl ∧ OpOk n M.ms S T (.push o.psh)))
def AOk (n : Nat) (M : MA) (S : List Int) (T mo : Int) (lst : Int → Int) : AO → Prop
  | .no => True
  | .al o => AlOk n M S T mo lst o
  | .fr o => FrOk n M S T mo lst o
def remA (M : MA) (l : Nat) : AO → Nat
  | .no => 0
  | .al o => if o.ln = 1 then 40 * l + remF M.ms (.pop o.pop) else if o.ln = 2 then 40 * l + 30 else if o.ln = 3 then 40 * (l + wpP M o.pk) + 6 + remP M o.pk else if o.ln = 4 then 4 else if o.ln = 5 then 3 else if o.ln = 6 then 2 else 1
  | .fr o => if o.ln = 1 then 33 else if o.ln = 2 then 32 else if o.ln = 3 then 2 else if o.ln = 4 then (if M.spk (segF o.sl) = o.n then 1 else 3) else if o.ln = 5 then 31 else if o.ln = 6 then 6 + remP M o.pk else remF M.ms (.push o.psh)
structure G1 (n : Nat) (mo : Int) (lst : Int → Int) (M : MA) (S : List Int) (T : Int) (op : AO) (x : Int) (M' : MA) (S' : List Int) (T' : Int) (op' : AO) (gain : List (Int × Int)) (Rn : List Int) : Prop where
  lv : Lv n x M S T M' S' T'
  xin : x ∈ S ∨ x ∈ pendA op ∨ x < 0
  cnt : ∀ z, S'.count z + Rn.count z + (gain.map (·.1)).count z + (pendA op').count z = S.count z + (pendA op).count z
  rn : ∀ z ∈ Rn, Hg M' mo lst 3 z ∨ ∃ g, M'.hdr z = headerW 4 g ∧ 0 ≤ g ∧ g ≤ mo
  sn : ∀ z ∈ S', Hg M' mo lst 0 z
  gn : ∀ p ∈ gain, M'.hdr p.1 = headerW 1 p.2 ∧ lst p.1 ≤ p.2 ∧ 0 ≤ p.2 ∧ p.2 ≤ mo
  g1 : gain.length ≤ 1
  ok : AOk n M' S' T' mo lst op'
  tell : ∀ g, M'.spk g + tellN op g = M.spk g + tellN op' g + ((Rn.map segF).count g : Nat)
  rem : op' = .no ∨ remA M' S'.length op' + 1 ≤ remA M S.length op
end
end Go.Proofs.YtmjcbjcnmgleaaaGreatDoor
namespace Go.Proofs.YtmjcbjcnmgleaaaGreatDoor
open Go.RowKit Go.Maps
structure KO where
  sh : Bool
  ln : Int
  seg : Int
  looks : Int
  slot : Int
  w : Int
  psh : OS
  pk : PO
  kept : List Int
end Go.Proofs.YtmjcbjcnmgleaaaGreatDoor
namespace Go.Proofs.YtmjcbjcnmgleaaaGreatDoor
open Go.RowKit Go.Maps
def KO.next (o : KO) : KO := if o.slot + 1 = 8 * o.seg + 8 then { o with slot := o.slot + 1, ln := 0 } else { o with slot := o.slot + 1, ln := 11 }
def KO.turn (o : KO) : KO := { o with slot := 8 * o.seg, ln := 11 }
def KO.seven (o : KO) : KO := if o.kept = [] then { o with ln := 3 } else { o with ln := 7, psh := ⟨1, 0, o.kept.getLastD 0⟩ }
def turnF (o : KO) (m : MA) : KO × MA :=
  if o.ln = 11 then (if stW (m.hdr o.slot) = 3 then { o with ln := 12, w := m.hdr o.slot } else ({ o with w := m.hdr o.slot } : KO).next, m)
  else if o.ln = 12 then (if m.hdr o.slot = o.w then ({ o with ln := 13 }, m.setH o.slot (headerW 0 (gW o.w))) else (o.next, m))
  else if o.ln = 13 then ({ o with ln := 14, w := m.spk o.seg }, m)
  else if o.ln = 14 then (if m.spk o.seg = o.w then ({ o with ln := 15, psh := ⟨1, 0, o.slot⟩ }, m.setP o.seg (down64 o.w)) else ({ o with ln := 13 }, m))
  else if o.ln = 15 then (if (pushF o.psh m.ms).1.nx = 0 then ({ o with psh := (pushF o.psh m.ms).1 } : KO).next else { o with psh := (pushF o.psh m.ms).1 }, { m with ms := (pushF o.psh m.ms).2 })
  else (o, m)
def shrinkF (o : KO) (m : MA) : KO × MA :=
  if o.ln = 1 then (if m.sst o.seg = 1 then { o with ln := 2 } else { o with ln := 0 }, m)
  else if o.ln = 2 then (if m.sst o.seg = 1 then ({ o with ln := 3 }, m.setD o.seg 2) else ({ o with ln := 0 }, m))
  else if o.ln = 3 then (if m.spk o.seg = 8 then { o with ln := 4 } else if o.looks ≤ 0 then { o with ln := 8 } else { o with looks := o.looks - 1, ln := 5, psh := ⟨1, 0, 0⟩ }, m)
  else if o.ln = 4 then (if m.sst o.seg = 2 then ({ o with ln := 0 }, m.setD o.seg 0) else ({ o with ln := 0 }, m))
  else if o.ln = 5 then
    (if (popF o.psh m.ms).1.nx = 0 then
       (if wSlot (popF o.psh m.ms).1.h < 0 then ({ o with psh := (popF o.psh m.ms).1 } : KO).seven
        else if segF (wSlot (popF o.psh m.ms).1.h) = o.seg then { o with ln := 6, pk := newPark (wSlot (popF o.psh m.ms).1.h) }
        else { o with kept := o.kept ++ [wSlot (popF o.psh m.ms).1.h], psh := ⟨1, 0, 0⟩ })
     else { o with psh := (popF o.psh m.ms).1 }, { m with ms := (popF o.psh m.ms).2 })
  else if o.ln = 6 then (if (parkF o.pk m).1.ln = 0 then { o with ln := 5, psh := ⟨1, 0, 0⟩, pk := (parkF o.pk m).1 } else { o with pk := (parkF o.pk m).1 }, (parkF o.pk m).2)
  else if o.ln = 7 then (if (pushF o.psh m.ms).1.nx = 0 then ({ o with kept := o.kept.dropLast } : KO).seven else { o with psh := (pushF o.psh m.ms).1 }, { m with ms := (pushF o.psh m.ms).2 })
  else if o.ln = 8 then (if m.sst o.seg = 2 then (o.turn, m.setD o.seg 1) else ({ o with ln := 0 }, m))
  else (o, m)
def growF (o : KO) (m : MA) : KO × MA :=
  if o.ln = 1 then (if m.sst o.seg = 0 then { o with ln := 2 } else { o with ln := 0 }, m)
  else if o.ln = 2 then (if m.sst o.seg = 0 then (o.turn, m.setD o.seg 1) else ({ o with ln := 0 }, m))
  else (o, m)
def kF (o : KO) (m : MA) : KO × MA := if 11 ≤ o.ln then turnF o m else if o.sh = false then growF o m else shrinkF o m
end Go.Proofs.YtmjcbjcnmgleaaaGreatDoor
namespace Go.Proofs.YtmjcbjcnmgleaaaGreatDoor
open Go.RowKit Go.Maps
section
variable {S S' : List Int} {T T' : Int} {M M' : MA} {N mo : Int} {tR : Int → Int} {cR : Int → Nat} {PR : PO → Prop} {K K' : KO}
theorem last_of {l : List Int} (h : l ≠ []) : l.getLastD 0 ∈ l ∧ ∀ z, l.count z = l.dropLast.count z + if z = l.getLastD 0 then 1 else 0 := by
  obtain ⟨l', b, rfl⟩ : ∃ l' b, l = l' ++ [b] := ⟨l.dropLast, l.getLast h, (List.dropLast_concat_getLast h).symm⟩
  have e : (l' ++ [b]).getLastD 0 = b := by simp
  rw [e]
  refine ⟨by simp, fun z => ?_⟩
  rw [List.dropLast_concat, List.count_append]
  by_cases hz : z = b
  · subst hz; simp
  · simp [hz, Ne.symm hz]
end
end Go.Proofs.YtmjcbjcnmgleaaaGreatDoor
namespace Go.Proofs.YtmjcbjcnmgleaaaGreatDoor
open Go.RowKit Go.Maps
def errK (K : KO) (M : MA) : Int :=
  if 11 ≤ K.ln then (if K.sh = true then 9 else 0)
  else if K.sh = false then (if K.ln = 1 then (if M.sst K.seg = 1 then 8 else 7) else 7)
  else if K.ln = 1 then (if M.sst K.seg = 0 then 6 else 7) else if K.ln = 4 then (if M.sst K.seg = 2 then 0 else 7) else 7
end Go.Proofs.YtmjcbjcnmgleaaaGreatDoor
