/-
  The chapter's examples of stage 5, and the laws HeadersOf and HeadersPast walked; conditions: the program's five calls do as the plain side says, where what the program lays lies as laid.
-/
import Derived.Test.YtfholfmlkehfnaaDoorHE1
namespace Go.Proofs.YtfholfmlkehfnaaDoor
open Go.RowKit

set_option maxHeartbeats 8000000 in
theorem lives_any {L : World → Prop} (H : HPrg L) (w0 : World) (hL : L w0) : Calls Tryd.prog 14 #[] w0 fun e w' => e = .returned (.bool true) ∧ Below w0.heap.size w0 w' := by
  have HB0 := Lib.hid (Below.refl w0.heap.size w0)
  have HL0 := Lib.hid hL
  clear hL
  go_enter Tryd.func14, Tryd.ntmps14
  go_wp2_with fail
  refine (of_any 0 2 w0 (H.lay _ HL0.out) (by decide) (by decide) (u32_small (by decide) (by decide))).mono ?_
  rintro e w1 ⟨rfl, hb⟩
  have HB1 := Lib.hid (HB0.out.trans (hb.mono HB0.out.size))
  have HL1 := Lib.hid (H.low _ _ HL0.out hb)
  clear hb HB0 HL0
  go_wp2_with fail
  refine (of_any 1 2 w1 (H.lay _ HL1.out) (by decide) (by decide) (u32_small (by decide) (by decide))).mono ?_
  rintro e w2 ⟨rfl, hb⟩
  have HB2 := Lib.hid (HB1.out.trans (hb.mono HB1.out.size))
  have HL2 := Lib.hid (H.low _ _ HL1.out hb)
  clear hb HB1 HL1
  go_wp2_with fail
  refine (H.of (hw 0 2) (hw 1 2) 3 w2 HL2.out (hw_small (by decide) (by decide) (by decide) (by decide)) (hw_small (by decide) (by decide) (by decide) (by decide)) (u32_small (by decide) (by decide))).mono ?_
  rintro e w3 ⟨rfl, hb⟩
  rw [ex_of1]
  have HB3 := Lib.hid (HB2.out.trans (hb.mono HB2.out.size))
  have HL3 := Lib.hid (H.low _ _ HL2.out hb)
  clear hb HB2 HL2
  go_wp2_with fail
  refine (of_any 2 2 w3 (H.lay _ HL3.out) (by decide) (by decide) (u32_small (by decide) (by decide))).mono ?_
  rintro e w4 ⟨rfl, hb⟩
  have HB4 := Lib.hid (HB3.out.trans (hb.mono HB3.out.size))
  have HL4 := Lib.hid (H.low _ _ HL3.out hb)
  clear hb HB3 HL3
  go_wp2_with fail
  refine (of_any 0 3 w4 (H.lay _ HL4.out) (by decide) (by decide) (u32_small (by decide) (by decide))).mono ?_
  rintro e w5 ⟨rfl, hb⟩
  have HB5 := Lib.hid (HB4.out.trans (hb.mono HB4.out.size))
  have HL5 := Lib.hid (H.low _ _ HL4.out hb)
  clear hb HB4 HL4
  go_wp2_with fail
  refine (H.of (hw 2 2) (hw 0 3) 3 w5 HL5.out (hw_small (by decide) (by decide) (by decide) (by decide)) (hw_small (by decide) (by decide) (by decide) (by decide)) (u32_small (by decide) (by decide))).mono ?_
  rintro e w6 ⟨rfl, hb⟩
  rw [ex_of2]
  have HB6 := Lib.hid (HB5.out.trans (hb.mono HB5.out.size))
  have HL6 := Lib.hid (H.low _ _ HL5.out hb)
  clear hb HB5 HL5
  go_wp2_with fail
  refine (of_any 2 3 w6 (H.lay _ HL6.out) (by decide) (by decide) (u32_small (by decide) (by decide))).mono ?_
  rintro e w7 ⟨rfl, hb⟩
  have HB7 := Lib.hid (HB6.out.trans (hb.mono HB6.out.size))
  have HL7 := Lib.hid (H.low _ _ HL6.out hb)
  clear hb HB6 HL6
  go_wp2_with fail
  refine (of_any 4 3 w7 (H.lay _ HL7.out) (by decide) (by decide) (u32_small (by decide) (by decide))).mono ?_
  rintro e w8 ⟨rfl, hb⟩
  have HB8 := Lib.hid (HB7.out.trans (hb.mono HB7.out.size))
  have HL8 := Lib.hid (H.low _ _ HL7.out hb)
  clear hb HB7 HL7
  go_wp2_with fail
  refine (H.of (hw 2 3) (hw 4 3) 3 w8 HL8.out (hw_small (by decide) (by decide) (by decide) (by decide)) (hw_small (by decide) (by decide) (by decide) (by decide)) (u32_small (by decide) (by decide))).mono ?_
  rintro e w9 ⟨rfl, hb⟩
  rw [ex_of3]
  have HB9 := Lib.hid (HB8.out.trans (hb.mono HB8.out.size))
  have HL9 := Lib.hid (H.low _ _ HL8.out hb)
  clear hb HB8 HL8
  go_wp2_with fail
  refine (of_any 1 2 w9 (H.lay _ HL9.out) (by decide) (by decide) (u32_small (by decide) (by decide))).mono ?_
  rintro e w10 ⟨rfl, hb⟩
  have HB10 := Lib.hid (HB9.out.trans (hb.mono HB9.out.size))
  have HL10 := Lib.hid (H.low _ _ HL9.out hb)
  clear hb HB9 HL9
  go_wp2_with fail
  refine (of_any 0 2 w10 (H.lay _ HL10.out) (by decide) (by decide) (u32_small (by decide) (by decide))).mono ?_
  rintro e w11 ⟨rfl, hb⟩
  have HB11 := Lib.hid (HB10.out.trans (hb.mono HB10.out.size))
  have HL11 := Lib.hid (H.low _ _ HL10.out hb)
  clear hb HB10 HL10
  go_wp2_with fail
  refine (H.of (hw 1 2) (hw 0 2) 3 w11 HL11.out (hw_small (by decide) (by decide) (by decide) (by decide)) (hw_small (by decide) (by decide) (by decide) (by decide)) (u32_small (by decide) (by decide))).mono ?_
  rintro e w12 ⟨rfl, hb⟩
  rw [ex_of4]
  have HB12 := Lib.hid (HB11.out.trans (hb.mono HB11.out.size))
  have HL12 := Lib.hid (H.low _ _ HL11.out hb)
  clear hb HB11 HL11
  go_wp2_with fail
  refine (of_any 1 2 w12 (H.lay _ HL12.out) (by decide) (by decide) (u32_small (by decide) (by decide))).mono ?_
  rintro e w13 ⟨rfl, hb⟩
  have HB13 := Lib.hid (HB12.out.trans (hb.mono HB12.out.size))
  have HL13 := Lib.hid (H.low _ _ HL12.out hb)
  clear hb HB12 HL12
  go_wp2_with fail
  refine (H.all (hw 1 2) 3 w13 HL13.out (hw_small (by decide) (by decide) (by decide) (by decide)) (u32_small (by decide) (by decide))).mono ?_
  rintro e w14 ⟨A14, c14, rfl, hc, hr, hb⟩
  rw [ex_all1] at hc hr ⊢
  have HB14 := Lib.hid (HB13.out.trans (hb.mono HB13.out.size))
  have HL14 := Lib.hid (H.low _ _ HL13.out hb)
  have HR14 := Lib.hid hr
  clear hb hr hc HB13 HL13
  simp only [List.length_cons, List.length_nil, Nat.reduceAdd]
  go_wp2_with fail
  have hx := (Below.refl _ w14).alloc (Nat.le_refl _) (.cells (([2, 4] : List Int).map cV).toArray 26)
  have HB15 := Lib.hid (HB14.out.trans (hx.mono HB14.out.size))
  have HL15 := Lib.hid (H.low _ _ HL14.out hx)
  have HR15 := Lib.hid (HR14.out.below hx)
  have HN15 := Lib.hid (row_new w14 26 (([2, 4] : List Int).map cV))
  refine (same_any A14 (some ⟨w14.heap.size, 0, Option.none⟩) c14 2 [2, 4] (w14.alloc (.cells (([2, 4] : List Int).map cV).toArray 26)) HR15.out HN15.out (by decide)).mono ?_
  rintro e w16 ⟨rfl, hb⟩
  have HB16 := Lib.hid (HB15.out.trans (hb.mono HB15.out.size))
  have HL16 := Lib.hid (H.low _ _ HL15.out hb)
  clear hb hx HB14 HL14 HR14 HB15 HL15 HR15 HN15
  go_wp2_with fail
  refine (of_any 1 3 w16 (H.lay _ HL16.out) (by decide) (by decide) (u32_small (by decide) (by decide))).mono ?_
  rintro e w17 ⟨rfl, hb⟩
  have HB17 := Lib.hid (HB16.out.trans (hb.mono HB16.out.size))
  have HL17 := Lib.hid (H.low _ _ HL16.out hb)
  clear hb HB16 HL16
  go_wp2_with fail
  refine (H.all (hw 1 3) 3 w17 HL17.out (hw_small (by decide) (by decide) (by decide) (by decide)) (u32_small (by decide) (by decide))).mono ?_
  rintro e w18 ⟨A18, c18, rfl, hc, hr, hb⟩
  rw [ex_all2] at hc hr ⊢
  have HB18 := Lib.hid (HB17.out.trans (hb.mono HB17.out.size))
  have HL18 := Lib.hid (H.low _ _ HL17.out hb)
  have HR18 := Lib.hid hr
  clear hb hr hc HB17 HL17
  simp only [List.length_cons, List.length_nil, Nat.reduceAdd]
  go_wp2_with fail
  have hx := (Below.refl _ w18).alloc (Nat.le_refl _) (.cells (([2, 5] : List Int).map cV).toArray 26)
  have HB19 := Lib.hid (HB18.out.trans (hx.mono HB18.out.size))
  have HL19 := Lib.hid (H.low _ _ HL18.out hx)
  have HR19 := Lib.hid (HR18.out.below hx)
  have HN19 := Lib.hid (row_new w18 26 (([2, 5] : List Int).map cV))
  refine (same_any A18 (some ⟨w18.heap.size, 0, Option.none⟩) c18 2 [2, 5] (w18.alloc (.cells (([2, 5] : List Int).map cV).toArray 26)) HR19.out HN19.out (by decide)).mono ?_
  rintro e w20 ⟨rfl, hb⟩
  have HB20 := Lib.hid (HB19.out.trans (hb.mono HB19.out.size))
  have HL20 := Lib.hid (H.low _ _ HL19.out hb)
  clear hb hx HB18 HL18 HR18 HB19 HL19 HR19 HN19
  go_wp2_with fail
  refine (of_any 4 3 w20 (H.lay _ HL20.out) (by decide) (by decide) (u32_small (by decide) (by decide))).mono ?_
  rintro e w21 ⟨rfl, hb⟩
  have HB21 := Lib.hid (HB20.out.trans (hb.mono HB20.out.size))
  have HL21 := Lib.hid (H.low _ _ HL20.out hb)
  clear hb HB20 HL20
  go_wp2_with fail
  refine (H.all (hw 4 3) 3 w21 HL21.out (hw_small (by decide) (by decide) (by decide) (by decide)) (u32_small (by decide) (by decide))).mono ?_
  rintro e w22 ⟨A22, c22, rfl, hc, hr, hb⟩
  rw [ex_all3] at hc hr ⊢
  have HB22 := Lib.hid (HB21.out.trans (hb.mono HB21.out.size))
  have HL22 := Lib.hid (H.low _ _ HL21.out hb)
  have HR22 := Lib.hid hr
  clear hb hr hc HB21 HL21
  simp only [List.length_nil]
  go_wp2_with fail
  go_ret
  exact ⟨rfl, HB22.out⟩
end Go.Proofs.YtfholfmlkehfnaaDoor
