/-
  The law's examples (lives); condition: the tables as laid.
-/
import Derived.Test.YtipgidkpjilhoaaDoorF6
namespace Go.Proofs.YtipgidkpjilhoaaDoor
open Go.RowKit Go.Maps

section
variable {p b q st st' : Nat} {nx h to nx' h' to' : Int} {M M' : MS} {w : World}
theorem pop_to (hq : 1 < q) (F : FM p b st M w) (hs : st < 1000000) (hh : U64 h) (hnx : 0 ≤ nx ∧ nx ≤ 3) (h2 : nx = 2 → 0 ≤ wSlot h) (ho : OpAt 62 q nx h to w) (e : popF ⟨nx, h, to⟩ M = (⟨nx', h', to'⟩, M')) (hc : st + cost ⟨nx, h, to⟩ = st') {c : Bool} (ec : (nx' == 0) = c) :
    Calls Tryd.prog 17 #[.pointer (some ⟨q, 0, none⟩), .pointer (some ⟨p, 0, none⟩)] w fun e w' => e = .returned (.bool c) ∧ OpAt 62 q nx' h' to' w' ∧ FM p b st' M' w' ∧ Only3 p b q w w' := by
  subst hc ec
  have := pop_step (o := ⟨nx, h, to⟩) hq F hs hh hnx h2 ho
  rw [e] at this
  exact this
theorem push_to (hq : 1 < q) (F : FM p b st M w) (hs : st < 1000000) (hh : U64 h) (hnx : 0 ≤ nx ∧ nx ≤ 3) (h2 : nx = 2 → 0 ≤ to ∧ to < 256) (ho : OpAt 63 q nx h to w) (e : pushF ⟨nx, h, to⟩ M = (⟨nx', h', to'⟩, M')) (hc : st + cost ⟨nx, h, to⟩ = st') {c : Bool} (ec : (nx' == 0) = c) :
    Calls Tryd.prog 15 #[.pointer (some ⟨q, 0, none⟩), .pointer (some ⟨p, 0, none⟩)] w fun e w' => e = .returned (.bool c) ∧ OpAt 63 q nx' h' to' w' ∧ FM p b st' M' w' ∧ Only3 p b q w w' := by
  subst hc ec
  have := push_step (o := ⟨nx, h, to⟩) hq F hs hh hnx h2 ho
  rw [e] at this
  exact this
end

def H7 : Int := headW 7 1
def M7 : MS := M0.link 7 0
def M8 : MS := ⟨H7, M7.lk⟩
def M9 : MS := ⟨headW (-1) 2, M7.lk⟩
theorem slot_H7 : wSlot H7 = 7 := slot_head 7 1 (by decide) (by decide)
theorem tag_H7 : fld H7 16 48 = 1 := by unfold H7; rw [tag_head]; decide
theorem M7_7 : M7.lk 7 = 0 := by simp [M7, MS.link]
theorem lv1 : popF ⟨1, 0, 0⟩ M0 = (⟨0, 0, 0⟩, M0) := by simp [popF, M0, slot_zero]
theorem lv2 : pushF ⟨1, 0, 7⟩ M0 = (⟨2, 0, 7⟩, M0) := by simp [pushF, M0]
theorem lv3 : pushF ⟨2, 0, 7⟩ M0 = (⟨3, 0, 7⟩, M7) := by simp [pushF, M7, slot_zero, head_none]
theorem lv4 : pushF ⟨3, 0, 7⟩ M7 = (⟨0, 0, 7⟩, M8) := by
  have : fld 0 16 48 = 0 := by decide
  simp [pushF, swapF, M8, M7, M0, MS.link, nextW, H7, this]
theorem lv5 : popF ⟨1, 0, 0⟩ M8 = (⟨2, H7, 0⟩, M8) := by simp [popF, M8, slot_H7]
theorem lv6 : popF ⟨2, H7, 0⟩ M8 = (⟨3, H7, -1⟩, M8) := by simp [popF, slot_H7, M8, M7_7, slot_zero]
theorem lv7 : popF ⟨3, H7, -1⟩ M8 = (⟨0, H7, -1⟩, M9) := by simp [popF, swapF, M8, M9, nextW, tag_H7]
theorem H7_u64 : U64 H7 := head_u64 7 1

set_option maxRecDepth 100000 in
set_option maxHeartbeats 4000000 in
theorem lives_any (w : World) (hL : Lay w) (hM : LayM w) : Calls Tryd.prog 7 #[] w fun e w' => e = .returned (.bool true) ∧ Below w.heap.size w w' := by
  have H1 := hM.1
  have HL := Lib.hid hL
  have HM := Lib.hid hM
  clear hL hM
  go_enter Tryd.func7, Tryd.ntmps7
  go_wp2_with fail
  ((with_reducible refine (new_fm HL.out HM.out).mono ?_); rintro e w1 ⟨p, b, rfl, F1, hb1, hp, hbp⟩)
  have HF1 := Lib.hid F1
  have HB1 := Lib.hid hb1
  clear F1 hb1
  go_wp2_with fail
  ((with_reducible refine (newPop_any w1).mono ?_); rintro e w2 ⟨rfl, o2, hb2, hs2⟩)
  have HF2 := Lib.hid (HF1.out.below hb2)
  have HO2 := Lib.hid o2
  have HB2 := Lib.hid (HB1.out.trans (hb2.mono HB1.out.size))
  have hw1 := HB1.out.size
  have hw2 := HB2.out.size
  clear o2 hb2 hs2
  generalize w1.heap.size = qa at *
  go_wp2_with fail
  ((with_reducible refine (pop_to (by omega) HF2.out (by decide) u64_0 (by decide) (by decide) HO2.out lv1 rfl rfl).mono ?_); rintro e w3 ⟨rfl, o3, F3, h3⟩)
  have HF3 := Lib.hid F3
  have HO3 := Lib.hid o3
  have HB3 := Lib.hid (HB2.out.trans (h3.below (B := w.heap.size) (by omega) (by omega) (by omega) (by omega)))
  have hw3 := HB3.out.size
  clear o3 F3 h3 HO2
  go_wp2_with fail
  ((with_reducible refine (got_none HF3.out.lay u64_0 (by decide) HO3.out).mono ?_); rintro e w4 ⟨rfl, j, rfl⟩)
  have HX4 := Lib.hid (show Below w3.heap.size w3 (w3.drewN j) from below_drewN' (Below.refl _ _) j)
  have HF4 := Lib.hid (HF3.out.below HX4.out)
  have HB4 := Lib.hid (HB3.out.trans (HX4.out.mono HB3.out.size))
  have hw4 : w.heap.size ≤ (w3.drewN j).heap.size := HB4.out.size
  clear HO3 HX4 HF2 HB2 HF1 HB1
  revert HF4 HB4 hw4
  generalize w3.drewN j = w4
  intro HF4 HB4 hw4
  go_wp2_with fail
  ((with_reducible refine (newPush_any 7 (by decide) (by decide) w4).mono ?_); rintro e w5 ⟨rfl, o5, hb5, hs5⟩)
  have HF5 := Lib.hid (HF4.out.below hb5)
  have HO5 := Lib.hid o5
  have HB5 := Lib.hid (HB4.out.trans (hb5.mono HB4.out.size))
  have hw5 := HB5.out.size
  clear o5 hb5 hs5 HF4 HB4
  generalize hq4 : w4.heap.size = qb at *
  clear hq4
  go_wp2_with fail
  ((with_reducible refine (push_to (by omega) HF5.out (by decide) u64_0 (by decide) (by decide) HO5.out lv2 rfl rfl).mono ?_); rintro e w6 ⟨rfl, o6, F6, h6⟩)
  have HF6 := Lib.hid F6
  have HO6 := Lib.hid o6
  have HB6 := Lib.hid (HB5.out.trans (h6.below (B := w.heap.size) (by omega) (by omega) (by omega) (by omega)))
  have hw6 := HB6.out.size
  clear o6 F6 h6 HO5 HF5 HB5
  go_wp2_with fail
  ((with_reducible refine (push_to (by omega) HF6.out (by decide) u64_0 (by decide) (by decide) HO6.out lv3 rfl rfl).mono ?_); rintro e w7 ⟨rfl, o7, F7, h7⟩)
  have HF7 := Lib.hid F7
  have HO7 := Lib.hid o7
  have HB7 := Lib.hid (HB6.out.trans (h7.below (B := w.heap.size) (by omega) (by omega) (by omega) (by omega)))
  have hw7 := HB7.out.size
  clear o7 F7 h7 HO6 HF6 HB6
  go_wp2_with fail
  ((with_reducible refine (push_to (by omega) HF7.out (by decide) u64_0 (by decide) (by decide) HO7.out lv4 rfl rfl).mono ?_); rintro e w8 ⟨rfl, o8, F8, h8⟩)
  have HF8 := Lib.hid F8
  have HO8 := Lib.hid o8
  have HB8 := Lib.hid (HB7.out.trans (h8.below (B := w.heap.size) (by omega) (by omega) (by omega) (by omega)))
  have hw8 := HB8.out.size
  clear o8 F8 h8 HO7 HF7 HB7
  go_wp2_with fail
  ((with_reducible refine (newPop_any w8).mono ?_); rintro e w9 ⟨rfl, o9, hb9, hs9⟩)
  have HF9 := Lib.hid (HF8.out.below hb9)
  have HO9 := Lib.hid o9
  have HB9 := Lib.hid (HB8.out.trans (hb9.mono HB8.out.size))
  have hw9 := HB9.out.size
  clear o9 hb9 hs9 HF8 HB8
  generalize hq8 : w8.heap.size = qc at *
  clear hq8
  go_wp2_with fail
  ((with_reducible refine (pop_to (by omega) HF9.out (by decide) u64_0 (by decide) (by decide) HO9.out lv5 rfl rfl).mono ?_); rintro e w10 ⟨rfl, o10, F10, h10⟩)
  have HF10 := Lib.hid F10
  have HO10 := Lib.hid o10
  have HB10 := Lib.hid (HB9.out.trans (h10.below (B := w.heap.size) (by omega) (by omega) (by omega) (by omega)))
  have hw10 := HB10.out.size
  clear o10 F10 h10 HO9 HF9 HB9
  go_wp2_with fail
  ((with_reducible refine (pop_to (by omega) HF10.out (by decide) H7_u64 (by decide) (fun _ => by rw [slot_H7]; decide) HO10.out lv6 rfl rfl).mono ?_); rintro e w11 ⟨rfl, o11, F11, h11⟩)
  have HF11 := Lib.hid F11
  have HO11 := Lib.hid o11
  have HB11 := Lib.hid (HB10.out.trans (h11.below (B := w.heap.size) (by omega) (by omega) (by omega) (by omega)))
  have hw11 := HB11.out.size
  clear o11 F11 h11 HO10 HF10 HB10
  go_wp2_with fail
  ((with_reducible refine (pop_to (by omega) HF11.out (by decide) H7_u64 (by decide) (by decide) HO11.out lv7 rfl rfl).mono ?_); rintro e w12 ⟨rfl, o12, F12, h12⟩)
  have HF12 := Lib.hid F12
  have HO12 := Lib.hid o12
  have HB12 := Lib.hid (HB11.out.trans (h12.below (B := w.heap.size) (by omega) (by omega) (by omega) (by omega)))
  have hw12 := HB12.out.size
  clear o12 F12 h12 HO11 HF11 HB11
  go_wp2_with fail
  ((with_reducible refine (got_slot HF12.out.lay H7_u64 (by rw [slot_H7]; decide) HO12.out).mono ?_); rintro e w13 ⟨rfl, i, rfl⟩)
  have HX13 := Lib.hid (show Below w12.heap.size w12 (w12.drewN i) from below_drewN' (Below.refl _ _) i)
  have HF13 := Lib.hid (HF12.out.below HX13.out)
  have HB13 := Lib.hid (HB12.out.trans (HX13.out.mono HB12.out.size))
  clear HO12 HX13 HF12 HB12
  revert HF13 HB13
  generalize w12.drewN i = w13
  intro HF13 HB13
  rw [slot_H7]
  go_wp2_with fail
  ((with_reducible refine HF13.out.steps.mono ?_); rintro e w14 ⟨rfl, rfl⟩)
  go_wp2_with fail
  go_ret
  exact ⟨rfl, HB13.out⟩
end Go.Proofs.YtipgidkpjilhoaaDoor
