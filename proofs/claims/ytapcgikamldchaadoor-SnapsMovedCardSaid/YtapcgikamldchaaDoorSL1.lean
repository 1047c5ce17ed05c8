/-
  The chapter's example, walked; condition: the table as laid.
-/
import Derived.Test.YtapcgikamldchaaDoorSM1
namespace Go.Proofs.YtapcgikamldchaaDoor
open Go.RowKit Go.Maps

/-- The example's words. -/
def V3 : Ad → Int := setV (setV (setV (fun _ => 0) adN 1) (adT 2 0) 5) (adT 2 3) 9
def T2 : TH := ⟨5, 0, 0, 9, 0, 0, 0, 0, 0, 0⟩
theorem v3_n : V3 adN = 1 := by
  unfold V3
  rw [setV_other (neNT (by decide) (by decide)), setV_other (neNT (by decide) (by decide)), setV_same mayN]
theorem v3_at {t f : Int} (h : 0 ≤ t ∧ t < 16) (g : 0 ≤ f ∧ f < 10) : V3 (adT t f) = if t = 2 ∧ f = 3 then 9 else if t = 2 ∧ f = 0 then 5 else 0 := by
  unfold V3
  by_cases h3 : t = 2 ∧ f = 3
  · obtain ⟨rfl, rfl⟩ := h3
    rw [if_pos ⟨rfl, rfl⟩, setV_same (mayT (by decide) (by decide))]
  · rw [if_neg h3, setV_other (neTT h g (by decide) (by decide) (by omega))]
    by_cases h0 : t = 2 ∧ f = 0
    · obtain ⟨rfl, rfl⟩ := h0
      rw [if_pos ⟨rfl, rfl⟩, setV_same (mayT (by decide) (by decide))]
    · rw [if_neg h0, setV_other (neTT h g (by decide) (by decide) (by omega)), setV_other (Ne.symm (neNT h g))]
theorem v3_none {i : Nat} (h : i < 4) (h2 : i ≠ 2) : thrR (fun _ => V3) i = TH.zero := by
  have h0 : V3 (adT (i : Int) 0) = 0 := by rw [v3_at (by omega) (by decide), if_neg (by omega), if_neg (by omega)]
  exact if_pos h0
theorem v3_two : thrR (fun _ => V3) 2 = T2 := by
  unfold thrR
  have h0 : V3 (adT ((2 : Nat) : Int) 0) = 5 := by rw [v3_at (by decide) (by decide)]; decide
  rw [if_neg (show ¬ V3 (adT ((2 : Nat) : Int) 0) = 0 by rw [h0]; decide)]
  refine TH.ext_get fun f hf => ?_
  rw [get_mk _ hf]
  show V3 (adT ((2 : Nat) : Int) (f : Int)) = _
  rw [v3_at (by decide) (by omega)]
  rcases lt_ten hf with rfl | rfl | rfl | rfl | rfl | rfl | rfl | rfl | rfl | rfl <;> decide
theorem v3_lst : lstR (fun _ => V3) 4 = [TH.zero, TH.zero, T2, TH.zero] := by
  rw [show (4 : Nat) = 3 + 1 from rfl, lst_succ, show (3 : Nat) = 2 + 1 from rfl, lst_succ, lst_succ, lst_succ, v3_two, v3_none (by decide) (by decide), v3_none (by decide) (by decide), v3_none (by decide) (by decide)]
  rfl
set_option maxRecDepth 100000 in
set_option maxHeartbeats 8000000 in
theorem lives14_any {W : World} (hM : LayM W) : Calls Tryd.prog 7 #[] W fun e w' => e = .returned (.bool true) ∧ Below W.heap.size W w' := by
  have HM := Lib.hid hM
  clear hM
  go_enter Tryd.func7, Tryd.ntmps7
  go_wp2_with fail
  ((with_reducible refine (new_vx HM.out).mono ?_); rintro e w1 ⟨p, b, M0, rfl, f1, v1, s1, b1, hb1, hp1⟩)
  have HF1 := Lib.hid f1
  have HB1 := Lib.hid b1
  have HV1 := Lib.hid v1
  have HS1 := Lib.hid s1
  have HP := Lib.hid (show W.heap.size ≤ p ∧ W.heap.size ≤ b from ⟨by omega, hb1⟩)
  have HW := Lib.hid HM.out.1
  have hu1 : U64 1 := ⟨by decide, by decide⟩
  have hu5 : U64 5 := ⟨by decide, by decide⟩
  have hu9 : U64 9 := ⟨by decide, by decide⟩
  have hs1 : M0.s.st < 1000000 := by rw [s1]; decide
  have hs2 : (stM M0 adN 1).s.st < 1000000 := by show M0.s.st + 1 < _; rw [s1]; decide
  have hs3 : (stM (stM M0 adN 1) (adT 2 0) 5).s.st < 1000000 := by show M0.s.st + 1 + 1 < _; rw [s1]; decide
  have a1 : adN.k = 5 ∧ adN.a = 0 ∧ adN.f = 0 := ⟨rfl, rfl, rfl⟩
  have a2 := adT_at (t := 2) (f := 0) (by decide) (by decide)
  have a3 := adT_at (t := 2) (f := 3) (by decide) (by decide)
  clear f1 b1 v1 s1 hb1 hp1
  go_wp2_with fail
  ((with_reducible refine (HF1.out.stA (x := adN) (k := 5) (a := 0) (f := 0) (v := 1) hs1 a1 hu1).mono ?_); rintro e w2 ⟨rfl, f2, o2⟩)
  have HF2 := Lib.hid f2
  have HO2 := Lib.hid (onl_fresh (p := p) (b := b) (E := []) (Onl.of_below HB1.out) (.of_only o2) (by simp))
  clear f2 o2 HF1 HB1
  go_wp2_with fail
  ((with_reducible refine (HF2.out.stA (x := adT 2 0) (k := 8) (a := 2) (f := 0) (v := 5) hs2 a2 hu5).mono ?_); rintro e w3 ⟨rfl, f3, o3⟩)
  have HF3 := Lib.hid f3
  have HO3 := Lib.hid (HO2.out.trans (.of_only o3))
  clear f3 o3 HF2 HO2
  go_wp2_with fail
  ((with_reducible refine (HF3.out.stA (x := adT 2 3) (k := 8) (a := 2) (f := 3) (v := 9) hs3 a3 hu9).mono ?_); rintro e w4 ⟨rfl, f4, o4⟩)
  obtain ⟨M, hM⟩ : ∃ M, M = stM (stM (stM M0 adN 1) (adT 2 0) 5) (adT 2 3) 9 := ⟨_, rfl⟩
  rw [← hM] at f4
  have HMV := Lib.hid (show M.V = V3 by rw [hM]; show setV (setV (setV M0.V adN 1) (adT 2 0) 5) (adT 2 3) 9 = _; rw [HV1.out]; rfl)
  have HMS := Lib.hid (show M.s.st = 3 by rw [hM]; show M0.s.st + 1 + 1 + 1 = 3; rw [HS1.out]; decide)
  have HF4 := Lib.hid f4
  have HO4 := Lib.hid (HO3.out.trans (.of_only o4))
  clear f4 o4 hM HF3 HO3 HS1 HV1
  go_wp2_with fail
  ((with_reducible refine (HF4.out.steps).mono ?_); rintro e w5 ⟨rfl, rfl⟩)
  rw [HMS.out]
  have hs4 : M.s.st < 900000 := by rw [HMS.out]; decide
  have hw4 : 0 < w4.heap.size := by have := HO4.out.size; have := HW.out; omega
  go_wp2_with fail
  ((with_reducible refine (taken_all HF4.out hs4 hw4).mono ?_); rintro e w6 ⟨A, c, M', hc, rfl, ho, f6, v6, s6, o6⟩)
  obtain rfl : c = 4 := by rw [HMV.out, v3_n] at hc; omega
  rw [HMV.out, v3_lst] at ho s6
  have hs6 : M'.s.st = 17 := by rw [s6, HMS.out]; decide
  have HS6 := Lib.hid hs6
  have HO6 := Lib.hid (HO4.out.trans o6)
  have hB0 : Below w6.heap.size w6 (w6.alloc (.cells #[.slice A 4 4, .int .u64 0] 36)) := (Below.refl _ _).alloc (Nat.le_refl _) _
  have HF6 := Lib.hid (f6.below hB0)
  have HR6 := Lib.hid (ho.below hB0)
  have HO7 := Lib.hid (HO6.out.trans (.of_below hB0))
  have HX := Lib.hid (Bq.new w6 [.slice A 4 4, .int .u64 0] 36)
  clear hc ho f6 v6 s6 o6 hs6 HO6 hB0 HF4 HO4
  go_upto_region 7 with (fail)
  revert HF6 HR6 HO7 HX
  generalize w6.alloc (.cells #[.slice A 4 4, .int .u64 0] 36) = w7
  intro HF6 HR6 HO7 HX
  have x0 := HX.out.cell 0
  simp only [List.getElem?_cons_zero] at x0
  obtain ⟨A', k', he, h41, h42, hA⟩ := HR6.out.slice
  injection he with he1 he2 he3
  subst he1 he3
  obtain ⟨g, rfl⟩ := hA (by decide)
  have e2 := eql_any T2 T2
  have e0 := eql_any TH.zero TH.zero
  rw [decide_eq_true rfl] at e2 e0
  simp only [TH.get, T2, TH.zero] at e2 e0
  obtain ⟨y0, y1, y2, y3, y4, y5, y6, y7, y8, y9⟩ := HR6.out.see.ten (j := 2) (by decide)
  obtain ⟨z0, z1, z2, z3, z4, z5, z6, z7, z8, z9⟩ := HR6.out.see.ten (j := 0) (by decide)
  simp [TH.get, T2, TH.zero] at y0 y1 y2 y3 y4 y5 y6 y7 y8 y9 z0 z1 z2 z3 z4 z5 z6 z7 z8 z9
  go_wp2_with fail
  ((with_reducible refine (HF6.out.steps).mono ?_); rintro e w8 ⟨rfl, rfl⟩)
  rw [HS6.out]
  go_wp2_with fail
  go_ret
  exact ⟨rfl, HO7.out.below HP.out.1 HP.out.2 (by simp) (Nat.le_refl _)⟩
end Go.Proofs.YtapcgikamldchaaDoor
