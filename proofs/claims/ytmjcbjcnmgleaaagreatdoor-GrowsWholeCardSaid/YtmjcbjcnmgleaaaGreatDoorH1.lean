/-
  The list of free slots in plain words: heads, an operation, the two words of memory that it knows, what a step of a Pop and of a Push does; no condition.
  The list of free slots as a stack, in plain words: its head says the first slot and how often it was changed, each link the next one; no condition.
-/
import Derived.Test.YtmjcbjcnmgleaaaGreatDoorF1
namespace Go.Proofs.YtmjcbjcnmgleaaaGreatDoor
open Go.RowKit Go.Maps

theorem p0 : (2 : Int) ^ 0 = 1 := by decide
theorem head_form (s t : Int) : headW s t = numS s + t % 281474976710656 * 65536 := by
  have h0 := numS_in s
  unfold headW pw
  rw [p48, p16, p0, Int.emod_eq_of_lt h0.1 (by omega)]
  omega
theorem slot_form (x : Int) : wSlot x = slotS (x % 65536) := by
  unfold wSlot fld
  rw [p16, p0, Int.ediv_one]
theorem tag_form (x : Int) : fld x 16 48 = x / 65536 % 281474976710656 := by
  unfold fld
  rw [p16, p48]
theorem slot_head (s t : Int) (h0 : -1 ≤ s) (h1 : s < 256) : wSlot (headW s t) = s := by
  rw [slot_form, head_form]
  have hs := numS_in s
  have : (numS s + t % 281474976710656 * 65536) % 65536 = numS s := by omega
  rw [this]
  unfold numS slotS
  split <;> split <;> omega
theorem tag_head (s t : Int) : fld (headW s t) 16 48 = t % 281474976710656 := by
  rw [tag_form, head_form]
  have hs := numS_in s
  omega
theorem slot_zero : wSlot 0 = -1 := by decide
theorem head_none (s : Int) (h : s < 0) : headW s 0 = 0 := by
  rw [head_form]
  unfold numS
  split <;> omega

/-- An operation: its line (0: over), the head that it read, its slot. -/
structure OS where
  nx : Int
  h : Int
  to : Int
/-- The list's head, and each slot's link. -/
structure MS where
  hd : Int
  lk : Int → Int
def MS.link (m : MS) (s v : Int) : MS := ⟨m.hd, fun k => if k = s then v else m.lk k⟩
def swapF (o : OS) (m : MS) : OS × MS := if m.hd = o.h then (⟨0, o.h, o.to⟩, ⟨nextW o.h o.to, m.lk⟩) else (⟨1, o.h, o.to⟩, m)
def popF (o : OS) (m : MS) : OS × MS :=
  if o.nx = 1 then (⟨if wSlot m.hd < 0 then 0 else 2, m.hd, o.to⟩, m)
  else if o.nx = 2 then (⟨3, o.h, wSlot (m.lk (wSlot o.h))⟩, m)
  else if o.nx = 3 then swapF o m
  else (o, m)
def pushF (o : OS) (m : MS) : OS × MS :=
  if o.nx = 1 then (⟨2, m.hd, o.to⟩, m)
  else if o.nx = 2 then (⟨3, o.h, o.to⟩, m.link o.to (headW (wSlot o.h) 0))
  else if o.nx = 3 then swapF o m
  else (o, m)
def cost (o : OS) : Nat := if o.nx = 0 then 0 else 1
theorem cost_le (o : OS) : cost o ≤ 1 := by unfold cost; split <;> omega
end Go.Proofs.YtmjcbjcnmgleaaaGreatDoor
namespace Go.Proofs.YtmjcbjcnmgleaaaGreatDoor
open Go.RowKit Go.Maps

def topOf : List Int → Int
  | [] => -1
  | s :: _ => s
/-- Each slot's link says the next one. -/
def Ch (lk : Int → Int) : List Int → Prop
  | [] => True
  | s :: r => (0 ≤ s ∧ s < 256 ∧ wSlot (lk s) = topOf r) ∧ Ch lk r
structure Stk (M : MS) (s : List Int) (T : Int) : Prop where
  hd : M.hd = headW (topOf s) T
  ch : Ch M.lk s
  nd : s.Nodup
  t0 : 0 ≤ T
  t1 : T < 1000000
theorem topOf_in {lk : Int → Int} {s : List Int} (h : Ch lk s) : -1 ≤ topOf s ∧ topOf s < 256 := by
  cases s with
  | nil => simp [topOf]
  | cons x r => have := h.1; simp only [topOf]; omega
theorem Ch.upd {lk : Int → Int} {s : List Int} (h : Ch lk s) {x : Int} (hx : x ∉ s) (v : Int) : Ch (fun k => if k = x then v else lk k) s := by
  induction s with
  | nil => trivial
  | cons y r ih =>
    have hy : y ≠ x := fun e => hx (by rw [e]; simp)
    refine ⟨?_, ih h.2 (fun hm => hx (List.mem_cons_of_mem _ hm))⟩
    simp only [if_neg hy]
    exact h.1
theorem Stk.slot {M : MS} {s : List Int} {T : Int} (h : Stk M s T) : wSlot (headW (topOf s) T) = topOf s := by
  have := topOf_in h.ch
  exact slot_head _ _ this.1 this.2
theorem tag_small (s T : Int) (h0 : 0 ≤ T) (h1 : T < 1000000) : fld (headW s T) 16 48 = T := by
  rw [tag_head]
  omega
theorem Stk.start : Stk ⟨0, fun _ => 0⟩ [] 0 := ⟨by decide, trivial, List.nodup_nil, by decide, by decide⟩
theorem head_ne {s s' T T' : Int} (h0 : 0 ≤ T) (h1 : T < 1000000) (h2 : 0 ≤ T') (h3 : T' < 1000000) (h : T ≠ T') : headW s T ≠ headW s' T' := fun e => by
  have a := tag_small s T h0 h1
  have b := tag_small s' T' h2 h3
  rw [e, b] at a
  exact h a.symm

section
variable {M : MS} {s r : List Int} {x T : Int}
theorem stk_pop_a (h : Stk M (x :: r) T) (to : Int) : popF ⟨1, 0, to⟩ M = (⟨2, headW x T, to⟩, M) := by
  have hs := h.slot
  have hc := h.ch.1.1
  simp only [topOf] at hs
  have e : ¬ wSlot M.hd < 0 := by rw [h.hd]; simp only [topOf]; rw [hs]; omega
  have e2 := h.hd
  simp only [topOf] at e2
  simp [popF, e2, hs, hc]
theorem stk_pop_b (h : Stk M (x :: r) T) (to : Int) : popF ⟨2, headW x T, to⟩ M = (⟨3, headW x T, topOf r⟩, M) := by
  have hs := h.slot
  simp only [topOf] at hs
  have hc := h.ch.1.2.2
  simp [popF, hs, hc]
theorem stk_pop_c (h : Stk M (x :: r) T) : popF ⟨3, headW x T, topOf r⟩ M = (⟨0, headW x T, topOf r⟩, ⟨headW (topOf r) (T + 1), M.lk⟩) := by
  have e2 := h.hd
  simp only [topOf] at e2
  simp [popF, swapF, e2, nextW, tag_small x T h.t0 h.t1]
theorem Stk.popped (h : Stk M (x :: r) T) (ht : T + 1 < 1000000) : Stk ⟨headW (topOf r) (T + 1), M.lk⟩ r (T + 1) :=
  ⟨rfl, h.ch.2, (List.nodup_cons.1 h.nd).2, by have := h.t0; omega, ht⟩
theorem stk_late (h : Stk M s T) {h' to : Int} (hne : headW (topOf s) T ≠ h') : popF ⟨3, h', to⟩ M = (⟨1, h', to⟩, M) := by
  have : ¬ M.hd = h' := by rw [h.hd]; exact hne
  simp [popF, swapF, this]
theorem stk_push_a (h : Stk M s T) : pushF ⟨1, 0, x⟩ M = (⟨2, headW (topOf s) T, x⟩, M) := by
  simp [pushF, h.hd]
theorem stk_push_b (h : Stk M s T) : pushF ⟨2, headW (topOf s) T, x⟩ M = (⟨3, headW (topOf s) T, x⟩, M.link x (headW (topOf s) 0)) := by
  simp [pushF, h.slot]
theorem Stk.linked (h : Stk M s T) (hx : x ∉ s) : Stk (M.link x (headW (topOf s) 0)) s T ∧ wSlot ((M.link x (headW (topOf s) 0)).lk x) = topOf s := by
  have := topOf_in h.ch
  exact ⟨⟨h.hd, h.ch.upd hx _, h.nd, h.t0, h.t1⟩, by simp only [MS.link, if_true]; exact slot_head _ _ this.1 this.2⟩
theorem stk_push_c (h : Stk M s T) : pushF ⟨3, headW (topOf s) T, x⟩ M = (⟨0, headW (topOf s) T, x⟩, ⟨headW x (T + 1), M.lk⟩) := by
  simp [pushF, swapF, h.hd, nextW, tag_small _ T h.t0 h.t1]
theorem Stk.pushed (h : Stk M s T) (hl : wSlot (M.lk x) = topOf s) (hx : x ∉ s) (h0 : 0 ≤ x) (h1 : x < 256) (ht : T + 1 < 1000000) : Stk ⟨headW x (T + 1), M.lk⟩ (x :: s) (T + 1) :=
  ⟨rfl, ⟨⟨h0, h1, hl⟩, h.ch⟩, List.nodup_cons.2 ⟨hx, h.nd⟩, by have := h.t0; omega, ht⟩
end
end Go.Proofs.YtmjcbjcnmgleaaaGreatDoor
