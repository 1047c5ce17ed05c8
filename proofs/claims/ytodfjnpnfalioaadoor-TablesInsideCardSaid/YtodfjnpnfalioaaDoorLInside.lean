/-
  The law TablesInside, walked: it returns true and only makes memory of its own; condition: the tables as laid, numbers of their kinds.
-/
import Derived.Test.YtodfjnpnfalioaaDoorTC3
namespace Go.Proofs.YtodfjnpnfalioaaDoor
open Go.RowKit Go.Maps

section
variable {p b : Nat} {V : Ad → Int} {k v : Int} {W w : World}
set_option maxRecDepth 100000 in
set_option maxHeartbeats 4000000 in
/-- A block of which nobody has a thread, and that says so. -/
theorem owners_none (h : Me W p b V k w) (hk : k < 800000) (h0 : ∀ t, 0 ≤ t → t < 4 → V (adT t 0) = 0) (hK : V (adK 0) = v) (hv : blkN v = 0) :
    Calls Tryd.prog 24 #[.pointer (some ⟨p, 0, none⟩), .int .i64 0] w fun e w' => e = .returned (.tuple #[.int .i64 0, .int .i64 0]) ∧ Me W p b V (k + 100) w' := by
  have HH := Lib.hid h
  have H0 := Lib.hid h0
  have HK := Lib.hid hK
  have hu := h.u64 (adK 0)
  rw [hK] at hu
  have hb := fun (w : World) (hL : Lay w) => asBlock_any v w hL hu
  rw [show fld v 0 32 = 0 from hv] at hb
  have HB := Lib.hid hb
  clear h h0 hK hb hv
  go_enter Tryd.func24, Tryd.ntmps24
  go_wp2_with fail
  go_loopw [6, 7] (fun u j wr => ∃ i : Nat, i ≤ 4 ∧ u = .int .i64 0 ∧ j = .int .i64 (i : Int) ∧ Hid (Me W p b V (k + i) wr)) (fun _ j _ => 5 - (intOf j).toNat)
  case atStart => exact ⟨0, by decide, rfl, rfl, Lib.hid (HH.out.mono (by simp))⟩
  case round =>
    clear HH
    obtain ⟨i, hi, rfl, rfl, hr⟩ := hrel
    have hge : (0 : Int) ≤ (i : Int) := by omega
    by_cases hlt : i < 4
    · have hlt' : (i : Int) < 4 := by omega
      have hz := H0.out i (by omega) hlt'
      go_wp2_with fail
      ((with_reducible refine (ofT _ 0 _).mono ?_); rintro e w1 ⟨rfl, hb1⟩)
      have H1 := Lib.hid (hr.out.below hb1)
      clear hb1 hr
      go_wp2_with fail
      ((with_reducible refine (H1.out.load (by omega) (adT_at (t := (i : Int)) (f := 0) (by omega) (by decide)) hz).mono ?_); rintro e w2 ⟨rfl, h2⟩)
      have H2 := Lib.hid h2
      clear h2 H1
      go_wp2_with fail
      go_roundw
      case rel => exact ⟨i + 1, by omega, rfl, by go_num, Lib.hid (H2.out.mono (by push_cast; omega))⟩
      case measure => simp [intOf]; omega
    · have hlt' : ¬ (i : Int) < 4 := by omega
      have hle' : (4 : Int) ≤ (i : Int) := by omega
      have HM := Lib.hid (hr.out.mono (k' := k + 50) (by omega))
      clear hr hlt
      go_wp2_with fail
      ((with_reducible refine (HM.out.load (by omega) (adK_at (i := 0) (by decide)) HK.out).mono ?_); rintro e w2 ⟨rfl, h2⟩)
      have H2 := Lib.hid h2
      clear h2 HM
      go_wp2_with fail
      ((with_reducible refine (HB.out w2 H2.out.lay.1).mono ?_); rintro e w3 ⟨rfl, j, rfl⟩)
      have H3 := Lib.hid (H2.out.below (below_drewN' (Below.refl _ w2) j))
      clear H2
      go_wp2_with fail
      go_ret2
      exact ⟨rfl, H3.out.mono (by omega)⟩
set_option maxRecDepth 100000 in
set_option maxHeartbeats 8000000 in
theorem inside_all (z f : Int) (hz : 0 ≤ z ∧ z < 4294967296) (hf : U64 f) (hL : Lay W) (hM : LayM W) :
    Calls Tryd.prog 5 #[.int .u32 z, .int .u64 f] W fun e w' => e = .returned (.bool true) ∧ Below W.heap.size W w' := by
  have HL := Lib.hid hL
  have HM := Lib.hid hM
  have hw1 : IntKind.i64.wrap z = z := by simp [IntKind.wrap, IntKind.bits, IntKind.signed]; omega
  have hw2 : IntKind.u64.wrap z = z := by simp [IntKind.wrap, IntKind.bits, IntKind.signed]; omega
  have hw3 : IntKind.u64.wrap (z + 1) = z + 1 := by simp [IntKind.wrap, IntKind.bits, IntKind.signed]; omega
  have U1 : U64 1 := ⟨by decide, by decide⟩
  have hwf : (Lit.int .i64 z).wf = true := by simp [Lit.wf, IntKind.min, IntKind.max, IntKind.signed, IntKind.bits]; omega
  clear hL hM
  go_enter Tryd.func5, Tryd.ntmps5
  go_wp2_with fail
  ((with_reducible refine (table_me 1 (by decide) (by decide) HL.out HM.out).mono ?_); rintro e w1 ⟨p, b, rfl, h1⟩)
  have H1 := Lib.hid h1
  clear h1
  go_wp2_with fail
  ((with_reducible refine (first_took (ow := z) H1.out (by decide) hwf hz.1).mono ?_); rintro e w2 ⟨rfl, V1, T1, h2⟩)
  have HT := Lib.hid T1
  have H2 := Lib.hid h2
  clear T1 h2 H1
  go_wp2_with fail
  ((with_reducible refine (ofT 0 1 _).mono ?_); rintro e w3 ⟨rfl, hb3⟩)
  have H3 := Lib.hid (H2.out.below hb3)
  clear hb3 H2
  go_wp2_with fail
  ((with_reducible refine (H3.out.store (by decide) (adT_at (t := 0) (f := 1) (by decide) (by decide)) (v := 1) U1).mono ?_); rintro e w4 ⟨rfl, h4⟩)
  have H4 := Lib.hid h4
  clear h4 H3
  go_wp2_with fail
  ((with_reducible refine (ofT 0 6 _).mono ?_); rintro e w3 ⟨rfl, hb3⟩)
  have H5 := Lib.hid (H4.out.below hb3)
  clear hb3 H4
  go_wp2_with fail
  ((with_reducible refine (H5.out.store (by decide) (adT_at (t := 0) (f := 6) (by decide) (by decide)) (v := f) hf).mono ?_); rintro e w4 ⟨rfl, h4⟩)
  have H6 := Lib.hid h4
  clear h4 H5
  go_wp2_with fail
  have a0 : setV (setV V1 (adT 0 1) 1) (adT 0 6) f (adT 0 0) = z + 1 := by rw [setV_other (neTT (by decide) (by decide) (by decide) (by decide) (.inr (by decide))), setV_other (neTT (by decide) (by decide) (by decide) (by decide) (.inr (by decide))), HT.out.own]
  have a1 : setV (setV V1 (adT 0 1) 1) (adT 0 6) f (adT 0 1) = 1 := by rw [setV_other (neTT (by decide) (by decide) (by decide) (by decide) (.inr (by decide))), setV_same (mayT (by decide) (by decide))]
  have a6 : setV (setV V1 (adT 0 1) 1) (adT 0 6) f (adT 0 6) = f := setV_same (mayT (by decide) (by decide)) f
  have b0 : setV (setV V1 (adT 0 1) 1) (adT 0 6) f (adT 0 0) ≠ 0 := by rw [a0]; omega
  have b1 : setV (setV V1 (adT 0 1) 1) (adT 0 6) f (adT 0 1) ≠ 0 := by rw [a1]; decide
  have A0 := Lib.hid a0
  have A6 := Lib.hid a6
  have B0 := Lib.hid b0
  have B1 := Lib.hid b1
  clear a0 a1 a6 b0 b1
  ((with_reducible refine (H6.out.inside (by decide) (by decide) B0.out B1.out).mono ?_); rintro e w4 ⟨rfl, h4⟩)
  have H7 := Lib.hid h4
  clear h4 H6
  go_wp2_with fail
  ((with_reducible refine (ofT 0 0 _).mono ?_); rintro e w3 ⟨rfl, hb3⟩)
  have H8 := Lib.hid (H7.out.below hb3)
  clear hb3 H7
  go_wp2_with fail
  ((with_reducible refine (H8.out.load (by decide) (adT_at (t := 0) (f := 0) (by decide) (by decide)) A0.out).mono ?_); rintro e w4 ⟨rfl, h4⟩)
  have H9 := Lib.hid h4
  clear h4 H8
  go_wp2_with fail
  ((with_reducible refine (ofT 0 6 _).mono ?_); rintro e w3 ⟨rfl, hb3⟩)
  have H10 := Lib.hid (H9.out.below hb3)
  clear hb3 H9
  go_wp2_with fail
  ((with_reducible refine (H10.out.load (by decide) (adT_at (t := 0) (f := 6) (by decide) (by decide)) A6.out).mono ?_); rintro e w4 ⟨rfl, h4⟩)
  have H11 := Lib.hid h4
  clear h4 H10
  go_wp2_with fail
  ((with_reducible refine (ofT 0 1 _).mono ?_); rintro e w3 ⟨rfl, hb3⟩)
  have H12 := Lib.hid (H11.out.below hb3)
  clear hb3 H11
  go_wp2_with fail
  ((with_reducible refine (H12.out.store (by decide) (adT_at (t := 0) (f := 1) (by decide) (by decide)) (v := 0) u64_0').mono ?_); rintro e w4 ⟨rfl, h4⟩)
  have H13 := Lib.hid h4
  clear h4 H12
  go_wp2_with fail
  have c0 : setV (setV (setV V1 (adT 0 1) 1) (adT 0 6) f) (adT 0 1) 0 (adT 0 0) ≠ 0 := by rw [setV_other (neTT (by decide) (by decide) (by decide) (by decide) (.inr (by decide))), A0.out]; omega
  have c1 : setV (setV (setV V1 (adT 0 1) 1) (adT 0 6) f) (adT 0 1) 0 (adT 0 1) = 0 := setV_same (mayT (by decide) (by decide)) 0
  have C0 := Lib.hid c0
  have C1 := Lib.hid c1
  clear c0 c1
  ((with_reducible refine (H13.out.gone (by decide) (by decide) C0.out C1.out).mono ?_); rintro e w4 ⟨rfl, h4⟩)
  have H14 := Lib.hid h4
  clear h4 H13
  go_wp2_with fail
  have hK1 : V1 (adK 0) = blockW 1 false := HT.out.room (n := 0) (by decide) (by rw [show (0 : Int) / 4 = 0 from rfl, V0t_K (by decide), blockW_0]) (by decide)
  have k0 : leftV (setV (setV (setV V1 (adT 0 1) 1) (adT 0 6) f) (adT 0 1) 0) 0 (adK 0) = blockW 0 false := by
    have := left_K (V := setV (setV (setV V1 (adT 0 1) 1) (adT 0 6) f) (adT 0 1) 0) (t := 0) (by decide)
    rw [show (0 : Int) / 4 = 0 from rfl] at this
    rw [this, setV_other (neKT (by decide) (by decide) (by decide)), setV_other (neKT (by decide) (by decide) (by decide)), setV_other (neKT (by decide) (by decide) (by decide)), hK1]
    decide
  have t0 : ∀ t, 0 ≤ t → t < 4 → leftV (setV (setV (setV V1 (adT 0 1) 1) (adT 0 6) f) (adT 0 1) 0) 0 (adT t 0) = 0 := fun t h1 h2 => by
    by_cases ht : t = 0
    · subst ht
      exact left_T (by decide)
    · rw [left_far (by decide) (Ne.symm (neKT (by decide) (by omega) (by decide))) (neTT (by omega) (by decide) (by decide) (by decide) (.inl ht)) (neTT (by omega) (by decide) (by decide) (by decide) (.inl ht)), setV_other (neTT (by omega) (by decide) (by decide) (by decide) (.inl ht)), setV_other (neTT (by omega) (by decide) (by decide) (by decide) (.inl ht)), setV_other (neTT (by omega) (by decide) (by decide) (by decide) (.inl ht)), HT.out.same_T (by decide) (by omega) (by decide) ht, V0t_T (by omega) (by decide)]
  have s6 : leftV (setV (setV (setV V1 (adT 0 1) 1) (adT 0 6) f) (adT 0 1) 0) 0 (adT 0 6) = 0 := by
    unfold leftV
    rw [setV_other (Ne.symm (neKT (by decide) (by decide) (by decide))), setV_other (neTT (by decide) (by decide) (by decide) (by decide) (.inr (by decide))), setV_same (mayT (by decide) (by decide))]
  have K0 := Lib.hid k0
  have T0 := Lib.hid t0
  have S6 := Lib.hid s6
  clear k0 t0 s6 hK1
  ((with_reducible refine (owners_none H14.out (by decide) T0.out K0.out (by decide)).mono ?_); rintro e w4 ⟨rfl, h4⟩)
  have H15 := Lib.hid h4
  clear h4 H14
  go_wp2_with fail
  ((with_reducible refine (ofT 0 6 _).mono ?_); rintro e w3 ⟨rfl, hb3⟩)
  have H16 := Lib.hid (H15.out.below hb3)
  clear hb3 H15
  go_wp2_with fail
  ((with_reducible refine (H16.out.load (by decide) (adT_at (t := 0) (f := 6) (by decide) (by decide)) S6.out).mono ?_); rintro e w4 ⟨rfl, h4⟩)
  have H17 := Lib.hid h4
  clear h4 H16
  go_wp2_with fail
  ((with_reducible refine (lives10_any H17.out.lay.1 H17.out.lay.2).mono ?_); rintro e w4 ⟨rfl, hb⟩)
  have HB := Lib.hid hb
  clear hb
  go_wp2_with fail
  go_ret
  exact ⟨rfl, H17.out.low.trans (HB.out.mono H17.out.low.size)⟩
end
end Go.Proofs.YtodfjnpnfalioaaDoor
