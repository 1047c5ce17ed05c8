/-
  The law BlocksEmpty, walked: it returns true and only makes memory of its own; condition: the tables as laid, numbers of their kinds.
-/
import Derived.Test.YtffkjdmpeeagoaaDoorBA8
namespace Go.Proofs.YtffkjdmpeeagoaaDoor
open Go.RowKit Go.Maps

theorem u8wE {z : Int} (h : U8 z) : IntKind.i64.wrap z = z := by simp [IntKind.wrap, IntKind.bits, IntKind.signed]; obtain ⟨a, b⟩ := h; omega
theorem empty_nums {y : Int} {n3 : Nat} (h : U8 y) (h3 : 0 < n3) : ∃ st : Nat, st < n3 ∧ Int.tmod y (n3 : Int) = (st : Int) := by
  obtain ⟨a, b⟩ := h
  have h1 := Int.emod_nonneg y (show (n3 : Int) ≠ 0 by omega)
  have h2 := Int.emod_lt_of_pos y (show (0 : Int) < n3 by omega)
  refine ⟨(y % (n3 : Int)).toNat, by omega, ?_⟩
  rw [Int.tmod_eq_emod_of_nonneg a]; omega
set_option maxRecDepth 100000 in
set_option maxHeartbeats 16000000 in
theorem empty_false (z y : Int) (W : World) (hL : Lay W) (hM : LayM W) (hz : U8 z) (hy : U8 y) :
    Calls Tryd.prog 6 #[.int .u8 z, .bool false, .int .u8 y] W fun e W' => e = .returned (.bool true) ∧ Below W.heap.size W W' := by
  obtain ⟨r, n, hr, hn, e1⟩ := tab_nums hz
  obtain ⟨n3, hn3⟩ : ∃ n3, n3 = n + 3 := ⟨_, rfl⟩
  obtain ⟨r4, hr4⟩ : ∃ r4, r4 = r * 4 := ⟨_, rfl⟩
  obtain ⟨st, hst3, e2⟩ := empty_nums (n3 := n3) hy (by omega)
  have hzw := u8wE hz
  have hyw := u8wE hy
  have hrw := iwB (n := r) (by omega)
  have hsw := iwB (n := st) (by omega)
  have hnw : IntKind.i64.wrap ((r : Int) + 1) = (n : Int) := by simp [IntKind.wrap, IntKind.bits, IntKind.signed]; omega
  have hn1w : IntKind.i64.wrap ((n : Int) - 1) = (r : Int) := by simp [IntKind.wrap, IntKind.bits, IntKind.signed]; omega
  have hn3w : IntKind.i64.wrap ((n : Int) + 3) = (n3 : Int) := by simp [IntKind.wrap, IntKind.bits, IntKind.signed]; omega
  have hr4w : IntKind.i64.wrap ((r : Int) * 4) = (r4 : Int) := by simp [IntKind.wrap, IntKind.bits, IntKind.signed]; omega
  have hn30 : ¬ (n3 : Int) = 0 := by omega
  have hn4 : 1 ≤ n ∧ n ≤ 4 := by omega
  have h1W : 1 < W.heap.size := by have := hM.1; have := hL.1; omega
  have HLM := Lib.hid (⟨hL, hM⟩ : _ ∧ _)
  have hq1 : n ≤ r + 1 := by omega
  have hq2 : r + 1 ≤ n := by omega
  have hq3 : n3 ≤ n + 3 := by omega
  have hq4 : r4 ≤ r * 4 := by omega
  have hq5 : r * 4 ≤ r4 := by omega
  clear hL hM hz hy hn hn3 hr4
  go_enter Tryd.func6, Tryd.ntmps6
  go_wp2_with fail
  ((with_reducible refine (table_me (n : Int) (by omega) (by omega) HLM.out.1 HLM.out.2).mono ?_); rintro e w1 ⟨p, b, rfl, h1⟩)
  have HX := Lib.hid (show ∃ V, Fil (n : Int) 0 V ∧ Me W p b V (100 + 5 * ((0 : Nat) : Int)) w1 from ⟨_, .first _, h1.mono (by omega)⟩)
  clear h1 HLM e1 hzw
  go_wp2_with fail
  go_loopw [9] (fun j wr => ∃ i : Nat, i ≤ r ∧ j = .int .i64 (i : Int) ∧ Hid (∃ V, Fil (n : Int) i V ∧ Me W p b V (100 + 5 * (i : Int)) wr)) (fun j _ => r + 1 - (intOf j).toNat)
  case atStart => exact ⟨0, Nat.zero_le _, rfl, HX⟩
  case round =>
    clear HX
    obtain ⟨i, hi, rfl, HR⟩ := hrel
    rename World => w2
    obtain ⟨V, Fi, H⟩ := HR.out
    have HFI := Lib.hid Fi
    have HME := Lib.hid H
    have hge : (0 : Int) ≤ (i : Int) := by omega
    clear HR Fi H
    by_cases hlt : i < r
    · have hlt' : (i : Int) < (r : Int) := by omega
      go_wp2_with fail
      ((with_reducible refine (blockA_any (i : Int) _).mono ?_); rintro e wa ⟨rfl, hba⟩)
      have HM1 := Lib.hid (HME.out.below hba)
      clear hba HME
      go_wp2_with fail
      have HJ4 := show U64 4 from ⟨by decide, by decide⟩
      ((with_reducible refine (block_any 4 false _ HM1.out.lay.1 HJ4).mono ?_); rintro e wz ⟨rfl, zq, rfl⟩)
      have HM2 := Lib.hid (HM1.out.below (below_drewN' (Below.refl _ wa) zq))
      clear HM1 HJ4
      go_wp2_with fail
      ((with_reducible refine (HM2.out.store (by omega) (adK_at (i := (i : Int)) ⟨by omega, by omega⟩) (blockW_u64 4 false)).mono ?_); rintro e wb ⟨rfl, h2⟩)
      have HX := Lib.hid (show ∃ V, Fil (n : Int) (i + 1) V ∧ Me W p b V (100 + 5 * ((i + 1 : Nat) : Int)) wb from ⟨_, HFI.out.step (by omega), h2.mono (by push_cast; omega)⟩)
      clear h2 HM2 HFI
      go_wp2_with fail
      go_roundw
      case rel => exact ⟨i + 1, by omega, by go_num, HX⟩
      case measure => simp [intOf]; omega
    · have hlt' : ¬ (i : Int) < (r : Int) := by omega
      obtain ⟨M, hV, hsM, hF⟩ := HME.out.mem
      have hAh : Ahd (n : Int) 0 M.V := by rw [hV]; exact HFI.out.ahd (by omega) (by omega)
      have HAH := Lib.hid hAh
      have hnew := MJ.new hF HME.out.low HME.out.b0 HME.out.p0 3 (by decide)
      have hsM2 : M.s.st ≤ 200 := by omega
      clear HME HFI hF hV hAh hsM
      go_wp2_with fail
      ((with_reducible refine hnew.mono ?_); rintro e w3 ⟨q, rfl, H0⟩)
      have HX := Lib.hid (show ∃ o M, JStp (n : Int) 0 3 o ∧ Ahd (n : Int) 0 M.V ∧ M.s.st ≤ 200 + ((0 : Nat) : Int) ∧ MJ W p b q o M w3 from ⟨_, M, .first (by omega), HAH.out, by push_cast; omega, H0⟩)
      clear hnew H0 HAH hsM2
      go_wp2_with fail
      clear hge hi hlt
      go_loopw [12] (fun j wr => ∃ s : Nat, s ≤ st ∧ j = .int .i64 (s : Int) ∧ Hid (∃ o M, JStp (n : Int) s 3 o ∧ Ahd (n : Int) s M.V ∧ M.s.st ≤ 200 + (s : Int) ∧ MJ W p b q o M wr)) (fun j _ => st + 1 - (intOf j).toNat)
      case atStart => exact ⟨0, Nat.zero_le _, rfl, HX⟩
      case round =>
        clear HX
        obtain ⟨s, hs, rfl, HR⟩ := hrel
        rename World => w4
        have hge : (0 : Int) ≤ (s : Int) := by omega
        obtain ⟨o, M, J, Ah, hst, H⟩ := HR.out
        have HJ := Lib.hid J
        have HM2 := Lib.hid H
        have HSN := Lib.hid (show (s : Int) ≤ (n : Int) + 2 by omega)
        obtain ⟨Mx, hMx⟩ : ∃ Mx, Mx = ldM M (adK (r : Int)) := ⟨_, rfl⟩
        have HA := Lib.hid (show Ahd (n : Int) s Mx.V by rw [hMx]; exact Ah)
        have hMxs : Mx.s.st ≤ 600 := by rw [hMx]; show M.s.st + 1 ≤ 600; omega
        have hwas0 := HA.out.was
        rw [show (n : Int) - 1 = (r : Int) by omega] at hwas0
        have hvu := H.mem.u64 (adK (r : Int))
        obtain ⟨v, hv⟩ : ∃ v, v = M.V (adK (r : Int)) := ⟨_, rfl⟩
        have HWAS := Lib.hid (show fld v 0 32 = if (s : Int) = (n : Int) + 2 then 1 else 0 from by rw [hv]; rw [hMx] at hwas0; exact hwas0)
        have hload := fun (w : World) (h : MJ W p b q o M w) => h.load (by omega) (adK_at (i := (r : Int)) (by omega))
        rw [← hMx, ← hv] at hload
        rw [← hv] at hvu
        clear HR J Ah H hwas0 hMx hv hst
        go_wp2_with fail
        ((with_reducible refine (blockA_any (r : Int) _).mono ?_); rintro e wq ⟨rfl, hbq⟩)
        have hld := hload _ (HM2.out.below hbq)
        clear hbq HM2 hload
        go_wp2_with fail
        ((with_reducible refine hld.mono ?_); rintro e wr ⟨rfl, H3⟩)
        have HM3' := Lib.hid H3
        clear H3 hld
        go_wp2_with fail
        ((with_reducible refine (asBlock_any v _ HM3'.out.mem.lay hvu).mono ?_); rintro e ws ⟨rfl, zz, rfl⟩)
        have HM3 := Lib.hid (HM3'.out.below (below_drewN' (Below.refl _ wr) zz))
        clear HM3' hvu M
        rename MV => M
        by_cases hn1 : n = 1
        · have hnb : ((n : Int) == 1) = true := beq_iff_eq.2 (by omega)
          have hless := HM3.out.less (e0 := 4) (nk := 1) (N := 1) (V' := M.V) (by omega) (less_one (n := (n : Int)) (by omega) HA.out.N) (by decide) rfl
          go_wp2_with fail
          ((with_reducible refine hless.mono ?_); rintro e w5 ⟨rfl, Ml, hVl, hstl, hl⟩)
          clear hless HM3
          have HL := Lib.hid hl
          clear hl
          go_wp2_with fail
          ((with_reducible refine (HL.out.many (n := (n : Int)) (by omega) (by rw [hVl]; exact HA.out.N) (by omega)).mono ?_); rintro e w6 ⟨rfl, hl2⟩)
          have HMJ := Lib.hid hl2
          clear hl2 HL
          go_wp2_with fail
          ((with_reducible refine (lives11_any HMJ.out.mem.lay HMJ.out.mem.laym).mono ?_); rintro e wz ⟨rfl, hbz⟩)
          go_wp2_with fail
          go_ret
          exact ⟨rfl, HMJ.out.low.trans (hbz.mono HMJ.out.low.size)⟩

        · have hnb : ((n : Int) == 1) = false := beq_eq_false_iff_ne.2 (by omega)
          by_cases hs2 : (s : Int) = (n : Int) + 2
          · have hwas : fld v 0 32 = 1 := by rw [HWAS.out, if_pos hs2]
            have hless := HM3.out.less (e0 := 7) (nk := 2) (N := 2) (V' := M.V) (by omega) (less_busy (n := (n : Int)) (by omega) HA.out.N (by
              have := HA.out.last
              rw [if_pos hs2] at this
              show M.V _ ≠ _
              rw [this]
              intro h
              have := congrArg blkN h
              rw [one_back.1, opn_back.1] at this
              exact absurd this (by decide))) (by decide) rfl
            go_wp2_with fail
            ((with_reducible refine hless.mono ?_); rintro e w5 ⟨rfl, Ml, hVl, hstl, hl⟩)
            clear hless HM3
            have HL := Lib.hid hl
            clear hl
            go_wp2_with fail
            ((with_reducible refine (HL.out.many (n := (n : Int)) (by omega) (by rw [hVl]; exact HA.out.N) (by omega)).mono ?_); rintro e w6 ⟨rfl, hl2⟩)
            have HMJ := Lib.hid hl2
            clear hl2 HL
            go_wp2_with fail
            ((with_reducible refine (lives11_any HMJ.out.mem.lay HMJ.out.mem.laym).mono ?_); rintro e wz ⟨rfl, hbz⟩)
            go_wp2_with fail
            go_ret
            exact ⟨rfl, HMJ.out.low.trans (hbz.mono HMJ.out.low.size)⟩

          · have hwas : fld v 0 32 = 0 := by rw [HWAS.out, if_neg hs2]
            have HSH := Lib.hid (HA.out.less (by omega))
            have HS1 := Lib.hid (show (s : Int) ≤ (n : Int) + 1 by have := HSN.out; omega)
            have hless := HM3.out.less (e0 := 0) (nk := 3) (N := 3) (V' := lessV M.V (n : Int)) (by omega) (less_alone (n := (n : Int)) (by omega) HA.out.N (by
              have := HA.out.last
              rw [if_neg hs2] at this
              exact this)) (by decide) rfl
            go_wp2_with fail
            ((with_reducible refine hless.mono ?_); rintro e w5 ⟨rfl, Ml, hVl, hstl, hl⟩)
            clear hless HM3
            have HL := Lib.hid hl
            clear hl
            go_wp2_with fail
            ((with_reducible refine (HL.out.many (n := (r : Int)) (by omega) (by rw [hVl]; exact HSH.out.N.trans (by omega)) (by omega)).mono ?_); rintro e w6 ⟨rfl, hl2⟩)
            have HMJ := Lib.hid hl2
            clear hl2 HL
            go_wp2_with fail
            ((with_reducible refine (lives11_any HMJ.out.mem.lay HMJ.out.mem.laym).mono ?_); rintro e wz ⟨rfl, hbz⟩)
            go_wp2_with fail
            go_ret
            exact ⟨rfl, HMJ.out.low.trans (hbz.mono HMJ.out.low.size)⟩

set_option maxRecDepth 100000 in
set_option maxHeartbeats 16000000 in
theorem empty_true (z y : Int) (W : World) (hL : Lay W) (hM : LayM W) (hz : U8 z) (hy : U8 y) :
    Calls Tryd.prog 6 #[.int .u8 z, .bool true, .int .u8 y] W fun e W' => e = .returned (.bool true) ∧ Below W.heap.size W W' := by
  obtain ⟨r, n, hr, hn, e1⟩ := tab_nums hz
  obtain ⟨n3, hn3⟩ : ∃ n3, n3 = n + 3 := ⟨_, rfl⟩
  obtain ⟨r4, hr4⟩ : ∃ r4, r4 = r * 4 := ⟨_, rfl⟩
  obtain ⟨st, hst3, e2⟩ := empty_nums (n3 := n3) hy (by omega)
  have hzw := u8wE hz
  have hyw := u8wE hy
  have hrw := iwB (n := r) (by omega)
  have hsw := iwB (n := st) (by omega)
  have hnw : IntKind.i64.wrap ((r : Int) + 1) = (n : Int) := by simp [IntKind.wrap, IntKind.bits, IntKind.signed]; omega
  have hn1w : IntKind.i64.wrap ((n : Int) - 1) = (r : Int) := by simp [IntKind.wrap, IntKind.bits, IntKind.signed]; omega
  have hn3w : IntKind.i64.wrap ((n : Int) + 3) = (n3 : Int) := by simp [IntKind.wrap, IntKind.bits, IntKind.signed]; omega
  have hr4w : IntKind.i64.wrap ((r : Int) * 4) = (r4 : Int) := by simp [IntKind.wrap, IntKind.bits, IntKind.signed]; omega
  have hn30 : ¬ (n3 : Int) = 0 := by omega
  have hn4 : 1 ≤ n ∧ n ≤ 4 := by omega
  have h1W : 1 < W.heap.size := by have := hM.1; have := hL.1; omega
  have HLM := Lib.hid (⟨hL, hM⟩ : _ ∧ _)
  have hq1 : n ≤ r + 1 := by omega
  have hq2 : r + 1 ≤ n := by omega
  have hq3 : n3 ≤ n + 3 := by omega
  have hq4 : r4 ≤ r * 4 := by omega
  have hq5 : r * 4 ≤ r4 := by omega
  clear hL hM hz hy hn hn3 hr4
  go_enter Tryd.func6, Tryd.ntmps6
  go_wp2_with fail
  ((with_reducible refine (table_me (n : Int) (by omega) (by omega) HLM.out.1 HLM.out.2).mono ?_); rintro e w1 ⟨p, b, rfl, h1⟩)
  have HX := Lib.hid (show ∃ V, Fil (n : Int) 0 V ∧ Me W p b V (100 + 5 * ((0 : Nat) : Int)) w1 from ⟨_, .first _, h1.mono (by omega)⟩)
  clear h1 HLM e1 hzw
  go_wp2_with fail
  go_loopw [9] (fun j wr => ∃ i : Nat, i ≤ r ∧ j = .int .i64 (i : Int) ∧ Hid (∃ V, Fil (n : Int) i V ∧ Me W p b V (100 + 5 * (i : Int)) wr)) (fun j _ => r + 1 - (intOf j).toNat)
  case atStart => exact ⟨0, Nat.zero_le _, rfl, HX⟩
  case round =>
    clear HX
    obtain ⟨i, hi, rfl, HR⟩ := hrel
    rename World => w2
    obtain ⟨V, Fi, H⟩ := HR.out
    have HFI := Lib.hid Fi
    have HME := Lib.hid H
    have hge : (0 : Int) ≤ (i : Int) := by omega
    clear HR Fi H
    by_cases hlt : i < r
    · have hlt' : (i : Int) < (r : Int) := by omega
      go_wp2_with fail
      ((with_reducible refine (blockA_any (i : Int) _).mono ?_); rintro e wa ⟨rfl, hba⟩)
      have HM1 := Lib.hid (HME.out.below hba)
      clear hba HME
      go_wp2_with fail
      have HJ4 := show U64 4 from ⟨by decide, by decide⟩
      ((with_reducible refine (block_any 4 false _ HM1.out.lay.1 HJ4).mono ?_); rintro e wz ⟨rfl, zq, rfl⟩)
      have HM2 := Lib.hid (HM1.out.below (below_drewN' (Below.refl _ wa) zq))
      clear HM1 HJ4
      go_wp2_with fail
      ((with_reducible refine (HM2.out.store (by omega) (adK_at (i := (i : Int)) ⟨by omega, by omega⟩) (blockW_u64 4 false)).mono ?_); rintro e wb ⟨rfl, h2⟩)
      have HX := Lib.hid (show ∃ V, Fil (n : Int) (i + 1) V ∧ Me W p b V (100 + 5 * ((i + 1 : Nat) : Int)) wb from ⟨_, HFI.out.step (by omega), h2.mono (by push_cast; omega)⟩)
      clear h2 HM2 HFI
      go_wp2_with fail
      go_roundw
      case rel => exact ⟨i + 1, by omega, by go_num, HX⟩
      case measure => simp [intOf]; omega
    · have hlt' : ¬ (i : Int) < (r : Int) := by omega
      obtain ⟨M, hV, hsM, hF⟩ := HME.out.mem
      have hAh : Ahd (n : Int) 0 M.V := by rw [hV]; exact HFI.out.ahd (by omega) (by omega)
      have HAH := Lib.hid hAh
      have hnew := MJ.new hF HME.out.low HME.out.b0 HME.out.p0 3 (by decide)
      have hsM2 : M.s.st ≤ 200 := by omega
      clear HME HFI hF hV hAh hsM
      go_wp2_with fail
      ((with_reducible refine hnew.mono ?_); rintro e w3 ⟨q, rfl, H0⟩)
      have HX := Lib.hid (show ∃ o M, JStp (n : Int) 0 3 o ∧ Ahd (n : Int) 0 M.V ∧ M.s.st ≤ 200 + ((0 : Nat) : Int) ∧ MJ W p b q o M w3 from ⟨_, M, .first (by omega), HAH.out, by push_cast; omega, H0⟩)
      clear hnew H0 HAH hsM2
      go_wp2_with fail
      clear hge hi hlt
      go_loopw [12] (fun j wr => ∃ s : Nat, s ≤ st ∧ j = .int .i64 (s : Int) ∧ Hid (∃ o M, JStp (n : Int) s 3 o ∧ Ahd (n : Int) s M.V ∧ M.s.st ≤ 200 + (s : Int) ∧ MJ W p b q o M wr)) (fun j _ => st + 1 - (intOf j).toNat)
      case atStart => exact ⟨0, Nat.zero_le _, rfl, HX⟩
      case round =>
        clear HX
        obtain ⟨s, hs, rfl, HR⟩ := hrel
        rename World => w4
        have hge : (0 : Int) ≤ (s : Int) := by omega
        obtain ⟨o, M, J, Ah, hst, H⟩ := HR.out
        by_cases hlt : s < st
        · have hlt' : (s : Int) < (st : Int) := by omega
          have HMJ := Lib.hid H
          have hn2 : (s : Int) < (n : Int) + 2 := by omega
          obtain ⟨J2, A2, _⟩ := J.step Ah (by decide) hn2
          have HJA := Lib.hid (And.intro J2 A2)
          clear HR J Ah H J2 A2
          go_wp2_with fail
          ((with_reducible refine (HMJ.out.step h1W (by omega)).mono ?_); rintro e w5 ⟨rfl, H5⟩)
          have HX := Lib.hid (show ∃ o M, JStp (n : Int) (s + 1) 3 o ∧ Ahd (n : Int) (s + 1) M.V ∧ M.s.st ≤ 200 + ((s + 1 : Nat) : Int) ∧ MJ W p b q o M w5 from ⟨_, _, HJA.out.1, HJA.out.2, by have := tX_st o M; push_cast; omega, H5⟩)
          clear H5 HJA HMJ
          go_wp2_with fail
          go_roundw
          case rel => exact ⟨s + 1, by omega, by go_num, HX⟩
          case measure => simp [intOf]; omega
        · have hlt' : ¬ (s : Int) < (st : Int) := by omega
          have HJ := Lib.hid J
          have HM2 := Lib.hid H
          have HSN := Lib.hid (show (s : Int) ≤ (n : Int) + 2 by omega)
          obtain ⟨Mx, hMx⟩ : ∃ Mx, Mx = ldM M (adK (r : Int)) := ⟨_, rfl⟩
          have HA := Lib.hid (show Ahd (n : Int) s Mx.V by rw [hMx]; exact Ah)
          have hMxs : Mx.s.st ≤ 600 := by rw [hMx]; show M.s.st + 1 ≤ 600; omega
          have hwas0 := HA.out.was
          rw [show (n : Int) - 1 = (r : Int) by omega] at hwas0
          have hvu := H.mem.u64 (adK (r : Int))
          obtain ⟨v, hv⟩ : ∃ v, v = M.V (adK (r : Int)) := ⟨_, rfl⟩
          have HWAS := Lib.hid (show fld v 0 32 = if (s : Int) = (n : Int) + 2 then 1 else 0 from by rw [hv]; rw [hMx] at hwas0; exact hwas0)
          have hload := fun (w : World) (h : MJ W p b q o M w) => h.load (by omega) (adK_at (i := (r : Int)) (by omega))
          rw [← hMx, ← hv] at hload
          rw [← hv] at hvu
          clear HR J Ah H hwas0 hMx hv hst
          go_wp2_with fail
          ((with_reducible refine (blockA_any (r : Int) _).mono ?_); rintro e wq ⟨rfl, hbq⟩)
          have hld := hload _ (HM2.out.below hbq)
          clear hbq HM2 hload
          go_wp2_with fail
          ((with_reducible refine hld.mono ?_); rintro e wr ⟨rfl, H3⟩)
          have HM3' := Lib.hid H3
          clear H3 hld
          go_wp2_with fail
          ((with_reducible refine (asBlock_any v _ HM3'.out.mem.lay hvu).mono ?_); rintro e ws ⟨rfl, zz, rfl⟩)
          have HM3 := Lib.hid (HM3'.out.below (below_drewN' (Below.refl _ wr) zz))
          clear HM3' hvu M
          rename MV => M
          by_cases hn1 : n = 1
          · have hnb : ((n : Int) == 1) = true := beq_iff_eq.2 (by omega)
            have hless := HM3.out.less (e0 := 4) (nk := 1) (N := 1) (V' := M.V) (by omega) (less_one (n := (n : Int)) (by omega) HA.out.N) (by decide) rfl
            go_wp2_with fail
            ((with_reducible refine hless.mono ?_); rintro e w5 ⟨rfl, Ml, hVl, hstl, hl⟩)
            clear hless HM3
            have HL := Lib.hid hl
            clear hl
            go_wp2_with fail
            ((with_reducible refine (HL.out.many (n := (n : Int)) (by omega) (by rw [hVl]; exact HA.out.N) (by omega)).mono ?_); rintro e w6 ⟨rfl, hl2⟩)
            have HMJ := Lib.hid hl2
            clear hl2 HL
            obtain ⟨N, o', Mf, E, hN, hth, her⟩ := HJ.out.joins (M := ldM Ml adN) (by show Ahd _ _ Ml.V; rw [hVl]; exact HA.out) (by decide) HSN.out
            have hth : o'.th = (r4 : Int) := by omega
            have HX := Lib.hid (show ∃ o9 M9, RunJ N 0 o' Mf o9 M9 ∧ M9.s.st ≤ 1000 + ((0 : Nat) : Int) ∧ MJ W p b q o9 M9 w6 from ⟨_, _, .start E (HJ.out.ln (by decide) HSN.out), by show Ml.s.st + 1 ≤ _; omega, HMJ.out⟩)
            clear HMJ HJ E HA
            go_wp2_with fail
            go_loopw [18] (fun j wr => ∃ i : Nat, i ≤ N ∧ j = .int .i64 (i : Int) ∧ Hid (∃ o9 M9, RunJ N i o' Mf o9 M9 ∧ M9.s.st ≤ 1000 + (i : Int) ∧ MJ W p b q o9 M9 wr)) (fun j _ => 41 - (intOf j).toNat)
            case atStart => exact ⟨0, Nat.zero_le _, rfl, HX⟩
            case round =>
              clear HX
              obtain ⟨i, hi, rfl, HR⟩ := hrel
              rename World => w7
              obtain ⟨o9, M9, R9, hst9, H9⟩ := HR.out
              have HRU := Lib.hid R9
              have HMJ := Lib.hid H9
              have hov := H9.over
              have hge : (0 : Int) ≤ (i : Int) := by omega
              have hlt : (i : Int) < 40 := by omega
              clear HR R9 H9
              by_cases hin : o9.ln = 0
              · have hb9 : (o9.ln == 0) = true := beq_iff_eq.2 hin
                have hst9' : M9.s.st ≤ 1000 + 40 := by omega
                go_wp2_with fail
                ((with_reducible refine hov.mono ?_); rintro e w8 ⟨rfl, rfl⟩)
                clear hov
                obtain ⟨hf1, hf2⟩ := HRU.out.fin hin
                subst hf1 hf2
                have hgot := HMJ.out.got hin
                rw [hth, her] at hgot
                clear HRU hge hlt hi hb9
                go_wp2_with fail
                ((with_reducible refine hgot.mono ?_); rintro e w9 ⟨rfl, rfl⟩)
                clear hgot
                go_wp2_with fail
                ((with_reducible refine (lives11_any HMJ.out.mem.lay HMJ.out.mem.laym).mono ?_); rintro e wz ⟨rfl, hbz⟩)
                go_wp2_with fail
                go_ret
                exact ⟨rfl, HMJ.out.low.trans (hbz.mono HMJ.out.low.size)⟩

              · have hb9 : (o9.ln == 0) = false := beq_eq_false_iff_ne.2 hin
                have hiN : i + 1 ≤ N := by
                  rcases HRU.out with ⟨_, h, _⟩ | ⟨_, _, _, h⟩
                  · exact h
                  · exact absurd h hin
                go_wp2_with fail
                ((with_reducible refine hov.mono ?_); rintro e w8 ⟨rfl, rfl⟩)
                clear hov
                go_wp2_with fail
                ((with_reducible refine (HMJ.out.step h1W (by omega)).mono ?_); rintro e w9 ⟨rfl, H10⟩)
                have HX := Lib.hid (show ∃ o2 M2, RunJ N (i + 1) o' Mf o2 M2 ∧ M2.s.st ≤ 1000 + ((i + 1 : Nat) : Int) ∧ MJ W p b q o2 M2 w9 from ⟨_, _, HRU.out.step hin, by have := tX_st o9 M9; push_cast; omega, H10⟩)
                clear H10 HRU HMJ hin hb9
                go_wp2_with fail
                go_roundw
                case rel => exact ⟨i + 1, hiN, by go_num, HX⟩
                case measure => simp [intOf]; omega

          · have hnb : ((n : Int) == 1) = false := beq_eq_false_iff_ne.2 (by omega)
            by_cases hs2 : (s : Int) = (n : Int) + 2
            · have hwas : fld v 0 32 = 1 := by rw [HWAS.out, if_pos hs2]
              have hless := HM3.out.less (e0 := 7) (nk := 2) (N := 2) (V' := M.V) (by omega) (less_busy (n := (n : Int)) (by omega) HA.out.N (by
                have := HA.out.last
                rw [if_pos hs2] at this
                show M.V _ ≠ _
                rw [this]
                intro h
                have := congrArg blkN h
                rw [one_back.1, opn_back.1] at this
                exact absurd this (by decide))) (by decide) rfl
              go_wp2_with fail
              ((with_reducible refine hless.mono ?_); rintro e w5 ⟨rfl, Ml, hVl, hstl, hl⟩)
              clear hless HM3
              have HL := Lib.hid hl
              clear hl
              go_wp2_with fail
              ((with_reducible refine (HL.out.many (n := (n : Int)) (by omega) (by rw [hVl]; exact HA.out.N) (by omega)).mono ?_); rintro e w6 ⟨rfl, hl2⟩)
              have HMJ := Lib.hid hl2
              clear hl2 HL
              obtain ⟨N, o', Mf, E, hN, hth, her⟩ := HJ.out.joins (M := ldM Ml adN) (by show Ahd _ _ Ml.V; rw [hVl]; exact HA.out) (by decide) HSN.out
              have hth : o'.th = (r4 : Int) := by omega
              have HX := Lib.hid (show ∃ o9 M9, RunJ N 0 o' Mf o9 M9 ∧ M9.s.st ≤ 1000 + ((0 : Nat) : Int) ∧ MJ W p b q o9 M9 w6 from ⟨_, _, .start E (HJ.out.ln (by decide) HSN.out), by show Ml.s.st + 1 ≤ _; omega, HMJ.out⟩)
              clear HMJ HJ E HA
              go_wp2_with fail
              go_loopw [18] (fun j wr => ∃ i : Nat, i ≤ N ∧ j = .int .i64 (i : Int) ∧ Hid (∃ o9 M9, RunJ N i o' Mf o9 M9 ∧ M9.s.st ≤ 1000 + (i : Int) ∧ MJ W p b q o9 M9 wr)) (fun j _ => 41 - (intOf j).toNat)
              case atStart => exact ⟨0, Nat.zero_le _, rfl, HX⟩
              case round =>
                clear HX
                obtain ⟨i, hi, rfl, HR⟩ := hrel
                rename World => w7
                obtain ⟨o9, M9, R9, hst9, H9⟩ := HR.out
                have HRU := Lib.hid R9
                have HMJ := Lib.hid H9
                have hov := H9.over
                have hge : (0 : Int) ≤ (i : Int) := by omega
                have hlt : (i : Int) < 40 := by omega
                clear HR R9 H9
                by_cases hin : o9.ln = 0
                · have hb9 : (o9.ln == 0) = true := beq_iff_eq.2 hin
                  have hst9' : M9.s.st ≤ 1000 + 40 := by omega
                  go_wp2_with fail
                  ((with_reducible refine hov.mono ?_); rintro e w8 ⟨rfl, rfl⟩)
                  clear hov
                  obtain ⟨hf1, hf2⟩ := HRU.out.fin hin
                  subst hf1 hf2
                  have hgot := HMJ.out.got hin
                  rw [hth, her] at hgot
                  clear HRU hge hlt hi hb9
                  go_wp2_with fail
                  ((with_reducible refine hgot.mono ?_); rintro e w9 ⟨rfl, rfl⟩)
                  clear hgot
                  go_wp2_with fail
                  ((with_reducible refine (lives11_any HMJ.out.mem.lay HMJ.out.mem.laym).mono ?_); rintro e wz ⟨rfl, hbz⟩)
                  go_wp2_with fail
                  go_ret
                  exact ⟨rfl, HMJ.out.low.trans (hbz.mono HMJ.out.low.size)⟩

                · have hb9 : (o9.ln == 0) = false := beq_eq_false_iff_ne.2 hin
                  have hiN : i + 1 ≤ N := by
                    rcases HRU.out with ⟨_, h, _⟩ | ⟨_, _, _, h⟩
                    · exact h
                    · exact absurd h hin
                  go_wp2_with fail
                  ((with_reducible refine hov.mono ?_); rintro e w8 ⟨rfl, rfl⟩)
                  clear hov
                  go_wp2_with fail
                  ((with_reducible refine (HMJ.out.step h1W (by omega)).mono ?_); rintro e w9 ⟨rfl, H10⟩)
                  have HX := Lib.hid (show ∃ o2 M2, RunJ N (i + 1) o' Mf o2 M2 ∧ M2.s.st ≤ 1000 + ((i + 1 : Nat) : Int) ∧ MJ W p b q o2 M2 w9 from ⟨_, _, HRU.out.step hin, by have := tX_st o9 M9; push_cast; omega, H10⟩)
                  clear H10 HRU HMJ hin hb9
                  go_wp2_with fail
                  go_roundw
                  case rel => exact ⟨i + 1, hiN, by go_num, HX⟩
                  case measure => simp [intOf]; omega

            · have hwas : fld v 0 32 = 0 := by rw [HWAS.out, if_neg hs2]
              have HSH := Lib.hid (HA.out.less (by omega))
              have HS1 := Lib.hid (show (s : Int) ≤ (n : Int) + 1 by have := HSN.out; omega)
              have hless := HM3.out.less (e0 := 0) (nk := 3) (N := 3) (V' := lessV M.V (n : Int)) (by omega) (less_alone (n := (n : Int)) (by omega) HA.out.N (by
                have := HA.out.last
                rw [if_neg hs2] at this
                exact this)) (by decide) rfl
              go_wp2_with fail
              ((with_reducible refine hless.mono ?_); rintro e w5 ⟨rfl, Ml, hVl, hstl, hl⟩)
              clear hless HM3
              have HL := Lib.hid hl
              clear hl
              go_wp2_with fail
              ((with_reducible refine (HL.out.many (n := (r : Int)) (by omega) (by rw [hVl]; exact HSH.out.N.trans (by omega)) (by omega)).mono ?_); rintro e w6 ⟨rfl, hl2⟩)
              have HMJ := Lib.hid hl2
              clear hl2 HL
              obtain ⟨N, o', Mf, E, hN, hth, her, hVf⟩ := HJ.out.passes (M := ldM Ml adN) (by show Sh _ Ml.V; rw [hVl]; exact HSH.out) (by decide) HS1.out
              have HX := Lib.hid (show ∃ o9 M9, RunJ N 0 o' Mf o9 M9 ∧ M9.s.st ≤ 1000 + ((0 : Nat) : Int) ∧ MJ W p b q o9 M9 w6 from ⟨_, _, .start E (HJ.out.ln (by decide) HSN.out), by show Ml.s.st + 1 ≤ _; omega, HMJ.out⟩)
              have hVf' : Sh (n : Int) Mf.V := by rw [hVf]; show Sh _ Ml.V; rw [hVl]; exact HSH.out
              have HSF := Lib.hid hVf'
              clear HMJ HJ E HA HSH hVf hVf'
              go_wp2_with fail
              go_loopw [18] (fun j wr => ∃ i : Nat, i ≤ N ∧ j = .int .i64 (i : Int) ∧ Hid (∃ o9 M9, RunJ N i o' Mf o9 M9 ∧ M9.s.st ≤ 1000 + (i : Int) ∧ MJ W p b q o9 M9 wr)) (fun j _ => 41 - (intOf j).toNat)
              case atStart => exact ⟨0, Nat.zero_le _, rfl, HX⟩
              case round =>
                clear HX
                obtain ⟨i, hi, rfl, HR⟩ := hrel
                rename World => w7
                obtain ⟨o9, M9, R9, hst9, H9⟩ := HR.out
                have HRU := Lib.hid R9
                have HMJ := Lib.hid H9
                have hov := H9.over
                have hge : (0 : Int) ≤ (i : Int) := by omega
                have hlt : (i : Int) < 40 := by omega
                clear HR R9 H9
                by_cases hin : o9.ln = 0
                · have hb9 : (o9.ln == 0) = true := beq_iff_eq.2 hin
                  have hst9' : M9.s.st ≤ 1000 + 40 := by omega
                  go_wp2_with fail
                  ((with_reducible refine hov.mono ?_); rintro e w8 ⟨rfl, rfl⟩)
                  clear hov
                  obtain ⟨hf1, hf2⟩ := HRU.out.fin hin
                  subst hf1 hf2
                  have hgot := HMJ.out.got hin
                  rw [hth, her] at hgot
                  clear HRU hge hlt hi hb9
                  go_wp2_with fail
                  ((with_reducible refine hgot.mono ?_); rintro e w9 ⟨rfl, rfl⟩)
                  clear hgot
                  clear hN hth her hst9
                  go_wp2_with fail
                  ((with_reducible refine HMJ.out.over.mono ?_); rintro e wa ⟨rfl, rfl⟩)
                  have hb9 : (o9.ln == 0) = true := beq_iff_eq.2 hin
                  go_wp2_with fail
                  have hMs : M9.s.st ≤ 2000 := by omega
                  have hmore := HMJ.out.more (e0 := 0) (nk := 3) (N := 3) (V' := moreV M9.V (r : Int)) (by omega) (by
                    have h := HSF.out
                    exact more_alone (n := (r : Int)) ⟨by have := h.n14; omega, by omega⟩ (h.N.trans (by omega))) (by decide) rfl
                  ((with_reducible refine hmore.mono ?_); rintro e wb ⟨rfl, M5, hV5, hst5, H5⟩)
                  clear hmore hb9 hin
                  have hA5 : Ahd (n : Int) 0 M5.V := by
                    have := HSF.out.more
                    rw [hV5, show (r : Int) = (n : Int) - 1 by omega]
                    exact this
                  have HA5 := Lib.hid hA5
                  have HM5 := Lib.hid H5
                  clear H5 HMJ HSF hA5
                  go_wp2_with fail
                  ((with_reducible refine (MJ.new HM5.out.mem HM5.out.low HM5.out.b0 HM5.out.p0 4 (by decide)).mono ?_); rintro e wc ⟨q2, rfl, H6⟩)
                  obtain ⟨N, o', Mf, E, hN, hth, her⟩ := (JStp.first (n := (n : Int)) (ow := 4) (by omega)).joins (M := M5) HA5.out (by decide) (by push_cast; omega)
                  have hth : o'.th = (r4 : Int) := by omega
                  have HX := Lib.hid (show ∃ o9 M9, RunJ N 0 o' Mf o9 M9 ∧ M9.s.st ≤ 3000 + ((0 : Nat) : Int) ∧ MJ W p b q2 o9 M9 wc from ⟨_, _, .start E (by rw [newJ_eq (by decide)]; simp), by push_cast; omega, H6⟩)
                  clear H6 HM5 E HA5 hV5
                  go_wp2_with fail
                  go_loopw [24] (fun j wr => ∃ i : Nat, i ≤ N ∧ j = .int .i64 (i : Int) ∧ Hid (∃ o9 M9, RunJ N i o' Mf o9 M9 ∧ M9.s.st ≤ 3000 + (i : Int) ∧ MJ W p b q2 o9 M9 wr)) (fun j _ => 41 - (intOf j).toNat)
                  case atStart => exact ⟨0, Nat.zero_le _, rfl, HX⟩
                  case round =>
                    clear HX
                    obtain ⟨i, hi, rfl, HR⟩ := hrel
                    rename World => w7
                    obtain ⟨o9, M9, R9, hst9, H9⟩ := HR.out
                    have HRU := Lib.hid R9
                    have HMJ := Lib.hid H9
                    have hov := H9.over
                    have hge : (0 : Int) ≤ (i : Int) := by omega
                    have hlt : (i : Int) < 40 := by omega
                    clear HR R9 H9
                    by_cases hin : o9.ln = 0
                    · have hb9 : (o9.ln == 0) = true := beq_iff_eq.2 hin
                      have hst9' : M9.s.st ≤ 3000 + 40 := by omega
                      go_wp2_with fail
                      ((with_reducible refine hov.mono ?_); rintro e w8 ⟨rfl, rfl⟩)
                      clear hov
                      obtain ⟨hf1, hf2⟩ := HRU.out.fin hin
                      subst hf1 hf2
                      have hgot := HMJ.out.got hin
                      rw [hth, her] at hgot
                      clear HRU hge hlt hi hb9
                      go_wp2_with fail
                      ((with_reducible refine hgot.mono ?_); rintro e w9 ⟨rfl, rfl⟩)
                      clear hgot
                      go_wp2_with fail
                      ((with_reducible refine (lives11_any HMJ.out.mem.lay HMJ.out.mem.laym).mono ?_); rintro e wz ⟨rfl, hbz⟩)
                      go_wp2_with fail
                      go_ret
                      exact ⟨rfl, HMJ.out.low.trans (hbz.mono HMJ.out.low.size)⟩

                    · have hb9 : (o9.ln == 0) = false := beq_eq_false_iff_ne.2 hin
                      have hiN : i + 1 ≤ N := by
                        rcases HRU.out with ⟨_, h, _⟩ | ⟨_, _, _, h⟩
                        · exact h
                        · exact absurd h hin
                      go_wp2_with fail
                      ((with_reducible refine hov.mono ?_); rintro e w8 ⟨rfl, rfl⟩)
                      clear hov
                      go_wp2_with fail
                      ((with_reducible refine (HMJ.out.step h1W (by omega)).mono ?_); rintro e w9 ⟨rfl, H10⟩)
                      have HX := Lib.hid (show ∃ o2 M2, RunJ N (i + 1) o' Mf o2 M2 ∧ M2.s.st ≤ 3000 + ((i + 1 : Nat) : Int) ∧ MJ W p b q2 o2 M2 w9 from ⟨_, _, HRU.out.step hin, by have := tX_st o9 M9; push_cast; omega, H10⟩)
                      clear H10 HRU HMJ hin hb9
                      go_wp2_with fail
                      go_roundw
                      case rel => exact ⟨i + 1, hiN, by go_num, HX⟩
                      case measure => simp [intOf]; omega

                · have hb9 : (o9.ln == 0) = false := beq_eq_false_iff_ne.2 hin
                  have hiN : i + 1 ≤ N := by
                    rcases HRU.out with ⟨_, h, _⟩ | ⟨_, _, _, h⟩
                    · exact h
                    · exact absurd h hin
                  go_wp2_with fail
                  ((with_reducible refine hov.mono ?_); rintro e w8 ⟨rfl, rfl⟩)
                  clear hov
                  go_wp2_with fail
                  ((with_reducible refine (HMJ.out.step h1W (by omega)).mono ?_); rintro e w9 ⟨rfl, H10⟩)
                  have HX := Lib.hid (show ∃ o2 M2, RunJ N (i + 1) o' Mf o2 M2 ∧ M2.s.st ≤ 1000 + ((i + 1 : Nat) : Int) ∧ MJ W p b q o2 M2 w9 from ⟨_, _, HRU.out.step hin, by have := tX_st o9 M9; push_cast; omega, H10⟩)
                  clear H10 HRU HMJ hin hb9
                  go_wp2_with fail
                  go_roundw
                  case rel => exact ⟨i + 1, hiN, by go_num, HX⟩
                  case measure => simp [intOf]; omega

theorem empty_law (z y : Int) (jn : Bool) (W : World) (hL : Lay W) (hM : LayM W) (hz : U8 z) (hy : U8 y) :
    Calls Tryd.prog 6 #[.int .u8 z, .bool jn, .int .u8 y] W fun e W' => e = .returned (.bool true) ∧ Below W.heap.size W W' := by
  cases jn with
  | false => exact empty_false z y W hL hM hz hy
  | true => exact empty_true z y W hL hM hz hy
end Go.Proofs.YtffkjdmpeeagoaaDoor
