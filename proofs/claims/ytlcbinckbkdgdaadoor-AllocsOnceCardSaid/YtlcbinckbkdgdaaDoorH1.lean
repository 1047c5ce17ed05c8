/-
  The list of free slots in plain words: heads, an operation, the two words of memory that it knows, what a step of a Pop and of a Push does; no condition.
-/
import Derived.Test.YtlcbinckbkdgdaaDoorF3
namespace Go.Proofs.YtlcbinckbkdgdaaDoor
open Go.RowKit Go.Maps

theorem p0 : (2 : Int) ^ 0 = 1 := by decide
theorem head_form (s t : Int) : headW s t = numS s + t % 281474976710656 * 65536 := by
  have h0 := numS_in s
  unfold headW pw
  rw [p48, p16, p0, Int.emod_eq_of_lt h0.1 (by omega)]
  omega
theorem slot_form (x : Int) : wSlot x = slotS (x % 65536) := by
  unfold wSlot fld
  rw [p16, p0, Int.ediv_one]
theorem tag_form (x : Int) : fld x 16 48 = x / 65536 % 281474976710656 := by
  unfold fld
  rw [p16, p48]
theorem slot_head (s t : Int) (h0 : -1 ≤ s) (h1 : s < 256) : wSlot (headW s t) = s := by
  rw [slot_form, head_form]
  have hs := numS_in s
  have : (numS s + t % 281474976710656 * 65536) % 65536 = numS s := by omega
  rw [this]
  unfold numS slotS
  split <;> split <;> omega
theorem tag_head (s t : Int) : fld (headW s t) 16 48 = t % 281474976710656 := by
  rw [tag_form, head_form]
  have hs := numS_in s
  omega
theorem slot_zero : wSlot 0 = -1 := by decide
theorem head_none (s : Int) (h : s < 0) : headW s 0 = 0 := by
  rw [head_form]
  unfold numS
  split <;> omega

/-- An operation: its line (0: over), the head that it read, its slot. -/
structure OS where
  nx : Int
  h : Int
  to : Int
/-- The list's head, and each slot's link. -/
structure MS where
  hd : Int
  lk : Int → Int
def MS.link (m : MS) (s v : Int) : MS := ⟨m.hd, fun k => if k = s then v else m.lk k⟩
def swapF (o : OS) (m : MS) : OS × MS := if m.hd = o.h then (⟨0, o.h, o.to⟩, ⟨nextW o.h o.to, m.lk⟩) else (⟨1, o.h, o.to⟩, m)
def popF (o : OS) (m : MS) : OS × MS :=
  if o.nx = 1 then (⟨if wSlot m.hd < 0 then 0 else 2, m.hd, o.to⟩, m)
  else if o.nx = 2 then (⟨3, o.h, wSlot (m.lk (wSlot o.h))⟩, m)
  else if o.nx = 3 then swapF o m
  else (o, m)
def pushF (o : OS) (m : MS) : OS × MS :=
  if o.nx = 1 then (⟨2, m.hd, o.to⟩, m)
  else if o.nx = 2 then (⟨3, o.h, o.to⟩, m.link o.to (headW (wSlot o.h) 0))
  else if o.nx = 3 then swapF o m
  else (o, m)
def cost (o : OS) : Nat := if o.nx = 0 then 0 else 1
theorem cost_le (o : OS) : cost o ≤ 1 := by unfold cost; split <;> omega
end Go.Proofs.YtlcbinckbkdgdaaDoor
