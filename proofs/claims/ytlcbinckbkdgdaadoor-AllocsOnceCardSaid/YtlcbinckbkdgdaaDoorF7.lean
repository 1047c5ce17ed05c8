/-
  The law's examples (lives); condition: the tables as laid.
-/
import Derived.Test.YtlcbinckbkdgdaaDoorF6
namespace Go.Proofs.YtlcbinckbkdgdaaDoor
open Go.RowKit Go.Maps

section
variable {p b q st st' : Nat} {nx h to nx' h' to' : Int} {M M' : MS} {w : World}
theorem pop_to (hq : 1 < q) (F : FM p b st M w) (hs : st < 1000000) (hh : U64 h) (hnx : 0 ≤ nx ∧ nx ≤ 3) (h2 : nx = 2 → 0 ≤ wSlot h) (ho : OpAt 170 q nx h to w) (e : popF ⟨nx, h, to⟩ M = (⟨nx', h', to'⟩, M')) (hc : st + cost ⟨nx, h, to⟩ = st') {c : Bool} (ec : (nx' == 0) = c) :
    Calls Tryd.prog 98 #[.pointer (some ⟨q, 0, none⟩), .pointer (some ⟨p, 0, none⟩)] w fun e w' => e = .returned (.bool c) ∧ OpAt 170 q nx' h' to' w' ∧ FM p b st' M' w' ∧ Only3 p b q w w' := by
  subst hc ec
  have := pop_step (o := ⟨nx, h, to⟩) hq F hs hh hnx h2 ho
  rw [e] at this
  exact this
theorem push_to (hq : 1 < q) (F : FM p b st M w) (hs : st < 1000000) (hh : U64 h) (hnx : 0 ≤ nx ∧ nx ≤ 3) (h2 : nx = 2 → 0 ≤ to ∧ to < 256) (ho : OpAt 157 q nx h to w) (e : pushF ⟨nx, h, to⟩ M = (⟨nx', h', to'⟩, M')) (hc : st + cost ⟨nx, h, to⟩ = st') {c : Bool} (ec : (nx' == 0) = c) :
    Calls Tryd.prog 38 #[.pointer (some ⟨q, 0, none⟩), .pointer (some ⟨p, 0, none⟩)] w fun e w' => e = .returned (.bool c) ∧ OpAt 157 q nx' h' to' w' ∧ FM p b st' M' w' ∧ Only3 p b q w w' := by
  subst hc ec
  have := push_step (o := ⟨nx, h, to⟩) hq F hs hh hnx h2 ho
  rw [e] at this
  exact this
end

def H7 : Int := headW 7 1
def M7 : MS := M0.link 7 0
def M8 : MS := ⟨H7, M7.lk⟩
def M9 : MS := ⟨headW (-1) 2, M7.lk⟩
theorem slot_H7 : wSlot H7 = 7 := slot_head 7 1 (by decide) (by decide)
theorem tag_H7 : fld H7 16 48 = 1 := by unfold H7; rw [tag_head]; decide
theorem M7_7 : M7.lk 7 = 0 := by simp [M7, MS.link]
theorem lv1 : popF ⟨1, 0, 0⟩ M0 = (⟨0, 0, 0⟩, M0) := by simp [popF, M0, slot_zero]
theorem lv2 : pushF ⟨1, 0, 7⟩ M0 = (⟨2, 0, 7⟩, M0) := by simp [pushF, M0]
theorem lv3 : pushF ⟨2, 0, 7⟩ M0 = (⟨3, 0, 7⟩, M7) := by simp [pushF, M7, slot_zero, head_none]
theorem lv4 : pushF ⟨3, 0, 7⟩ M7 = (⟨0, 0, 7⟩, M8) := by
  have : fld 0 16 48 = 0 := by decide
  simp [pushF, swapF, M8, M7, M0, MS.link, nextW, H7, this]
theorem lv5 : popF ⟨1, 0, 0⟩ M8 = (⟨2, H7, 0⟩, M8) := by simp [popF, M8, slot_H7]
theorem lv6 : popF ⟨2, H7, 0⟩ M8 = (⟨3, H7, -1⟩, M8) := by simp [popF, slot_H7, M8, M7_7, slot_zero]
theorem lv7 : popF ⟨3, H7, -1⟩ M8 = (⟨0, H7, -1⟩, M9) := by simp [popF, swapF, M8, M9, nextW, tag_H7]
theorem H7_u64 : U64 H7 := head_u64 7 1

end Go.Proofs.YtlcbinckbkdgdaaDoor
