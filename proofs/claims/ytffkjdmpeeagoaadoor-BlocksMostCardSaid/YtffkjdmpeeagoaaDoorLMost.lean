/-
  The law BlocksMost, walked: it returns true and only makes memory of its own; condition: the tables as laid, numbers of their kinds.
-/
import Derived.Test.YtffkjdmpeeagoaaDoorBA7
namespace Go.Proofs.YtffkjdmpeeagoaaDoor
open Go.RowKit Go.Maps

theorem most_nums {z : Int} (h : U8 z) : ∃ c : Nat, c < 9 ∧ Int.tmod z 9 = (c : Int) := by
  obtain ⟨a, b⟩ := h
  refine ⟨(z % 9).toNat, by omega, ?_⟩
  rw [Int.tmod_eq_emod_of_nonneg a]; omega
theorem u8w {z : Int} (h : U8 z) : IntKind.i64.wrap z = z := by simp [IntKind.wrap, IntKind.bits, IntKind.signed]; obtain ⟨a, b⟩ := h; omega
set_option maxRecDepth 100000 in
set_option maxHeartbeats 16000000 in
theorem most_law (z y x : Int) (W : World) (hL : Lay W) (hM : LayM W) (hz : U8 z) (hy : U8 y) (hx : U8 x) :
    Calls Tryd.prog 7 #[.int .u8 z, .int .u8 y, .int .u8 x] W fun e W' => e = .returned (.bool true) ∧ Below W.heap.size W W' := by
  obtain ⟨r, n, hr, hn, e1⟩ := tab_nums hz
  obtain ⟨c, hc, e2⟩ := most_nums hy
  obtain ⟨d, hd, e3⟩ := most_nums hx
  have hzw := u8w hz
  have hyw := u8w hy
  have hxw := u8w hx
  have hrw := iwB (n := r) (by omega)
  have hcw := iwB (n := c) (by omega)
  have hdw := iwB (n := d) (by omega)
  have hnw : IntKind.i64.wrap ((r : Int) + 1) = (n : Int) := by simp [IntKind.wrap, IntKind.bits, IntKind.signed]; omega
  have hn4 : 1 ≤ n ∧ n ≤ 4 := by omega
  have HLM := Lib.hid (⟨hL, hM⟩ : _ ∧ _)
  clear hL hM hz hy hx hn
  go_enter Tryd.func7, Tryd.ntmps7
  go_wp2_with fail
  ((with_reducible refine (table_me (n : Int) (by omega) (by omega) HLM.out.1 HLM.out.2).mono ?_); rintro e w1 ⟨p, b, rfl, h1⟩)
  have HX := Lib.hid (show ∃ V, Row11 (n : Int) V ∧ Me W p b V (100 + 20 * ((0 : Nat) : Int)) w1 from ⟨_, V0t_row (by omega), h1.mono (by omega)⟩)
  clear h1 HLM
  go_wp2_with fail
  go_loopw [7, 9] (fun nv j wr => ∃ i : Nat, ∃ m : Int, i ≤ c ∧ 1 ≤ m ∧ m ≤ 4 ∧ nv = .int .i64 m ∧ j = .int .i64 (i : Int) ∧ Hid (∃ V, Row11 m V ∧ Me W p b V (100 + 20 * (i : Int)) wr)) (fun _ j _ => c + 1 - (intOf j).toNat)
  case atStart => exact ⟨0, (n : Int), Nat.zero_le _, by omega, by omega, rfl, rfl, HX⟩
  case round =>
    clear HX
    obtain ⟨i, m, hi, hm1, hm4, rfl, rfl, HR⟩ := hrel
    rename World => w2
    obtain ⟨V, R, H⟩ := HR.out
    have HRW := Lib.hid R
    have HME := Lib.hid H
    have hge : (0 : Int) ≤ (i : Int) := by omega
    clear HR R H
    by_cases hlt : i < c
    · have hlt' : (i : Int) < (c : Int) := by omega
      by_cases hm : m < 4
      · have hcall := HME.out.moreR (n' := m + 1) (by omega) HRW.out hm rfl
        have hmw : IntKind.i64.wrap (m + 1) = m + 1 := by simp [IntKind.wrap, IntKind.bits, IntKind.signed]; omega
        have hle : m + 1 ≤ 4 := by omega
        go_wp2_with fail
        ((with_reducible refine hcall.mono ?_); rintro e w3 ⟨rfl, V3, R3, h3⟩)
        have HR3 := Lib.hid (show ∃ V, Row11 (m + 1) V ∧ Me W p b V (100 + 20 * ((i + 1 : Nat) : Int)) w3 from ⟨V3, R3, h3.mono (by push_cast; omega)⟩)
        clear R3 h3 hcall HME HRW
        go_wp2_with fail
        go_roundw
        case rel => exact ⟨i + 1, m + 1, by omega, by omega, hle, rfl, by go_num, HR3⟩
        case measure => simp [intOf]; omega
      · obtain rfl : m = 4 := by omega
        have hcall := HME.out.moreF (by omega) HRW.out (by decide)
        go_wp2_with fail
        ((with_reducible refine hcall.mono ?_); rintro e w3 ⟨rfl, V3, R3, h3⟩)
        have HR3 := Lib.hid (show ∃ V, Row11 4 V ∧ Me W p b V (100 + 20 * ((i + 1 : Nat) : Int)) w3 from ⟨V3, R3, h3.mono (by push_cast; omega)⟩)
        clear R3 h3 hcall HME HRW
        go_wp2_with fail
        go_roundw
        case rel => exact ⟨i + 1, 4, by omega, by decide, by decide, rfl, by go_num, HR3⟩
        case measure => simp [intOf]; omega
    · have hlt' : ¬ (i : Int) < (c : Int) := by omega
      go_wp2_with fail
      ((with_reducible refine (HME.out.many (by omega) HRW.out.N (by omega)).mono ?_); rintro e w3 ⟨rfl, h3⟩)
      have HX := Lib.hid (show ∃ V, Row11 m V ∧ Me W p b V (1000 + 20 * ((0 : Nat) : Int)) w3 from ⟨V, HRW.out, h3.mono (by push_cast; omega)⟩)
      clear h3 HME HRW
      go_wp2_with fail
      clear hge hi hlt
      go_loopw [7, 12] (fun nv j wr => ∃ i : Nat, ∃ m : Int, i ≤ d ∧ 1 ≤ m ∧ m ≤ 4 ∧ nv = .int .i64 m ∧ j = .int .i64 (i : Int) ∧ Hid (∃ V, Row11 m V ∧ Me W p b V (1000 + 20 * (i : Int)) wr)) (fun _ j _ => d + 1 - (intOf j).toNat)
      case atStart => exact ⟨0, m, Nat.zero_le _, hm1, hm4, rfl, rfl, HX⟩
      case round =>
        clear HX hm1 hm4
        obtain ⟨i, m, hi, hm1, hm4, rfl, rfl, HR⟩ := hrel
        rename World => w4
        obtain ⟨V, R, H⟩ := HR.out
        have HRW := Lib.hid R
        have HME := Lib.hid H
        have hge : (0 : Int) ≤ (i : Int) := by omega
        clear HR R H
        by_cases hlt : i < d
        · have hlt' : (i : Int) < (d : Int) := by omega
          by_cases hm : 1 < m
          · have hcall := HME.out.lessR (n' := m - 1) (by omega) HRW.out hm rfl
            have hmw : IntKind.i64.wrap (m - 1) = m - 1 := by simp [IntKind.wrap, IntKind.bits, IntKind.signed]; omega
            have hle : 1 ≤ m - 1 := by omega
            go_wp2_with fail
            ((with_reducible refine hcall.mono ?_); rintro e w5 ⟨rfl, V5, ⟨R5, _⟩, h5⟩)
            have HR5 := Lib.hid (show ∃ V, Row11 (m - 1) V ∧ Me W p b V (1000 + 20 * ((i + 1 : Nat) : Int)) w5 from ⟨V5, R5, h5.mono (by push_cast; omega)⟩)
            clear R5 h5 hcall HME HRW
            go_wp2_with fail
            go_roundw
            case rel => exact ⟨i + 1, m - 1, by omega, hle, by omega, rfl, by go_num, HR5⟩
            case measure => simp [intOf]; omega
          · obtain rfl : m = 1 := by omega
            have hcall := HME.out.lessF (by omega) HRW.out (by decide)
            go_wp2_with fail
            ((with_reducible refine hcall.mono ?_); rintro e w5 ⟨rfl, V5, R5, h5⟩)
            have HR5 := Lib.hid (show ∃ V, Row11 1 V ∧ Me W p b V (1000 + 20 * ((i + 1 : Nat) : Int)) w5 from ⟨V5, R5, h5.mono (by push_cast; omega)⟩)
            clear R5 h5 hcall HME HRW
            go_wp2_with fail
            go_roundw
            case rel => exact ⟨i + 1, 1, by omega, by decide, by decide, rfl, by go_num, HR5⟩
            case measure => simp [intOf]; omega
        · have hlt' : ¬ (i : Int) < (d : Int) := by omega
          go_wp2_with fail
          ((with_reducible refine (HME.out.many (by omega) HRW.out.N (by omega)).mono ?_); rintro e w5 ⟨rfl, h5⟩)
          have HM5 := Lib.hid h5
          clear h5 HME
          go_wp2_with fail
          ((with_reducible refine (lives11_any HM5.out.lay.1 HM5.out.lay.2).mono ?_); rintro e w6 ⟨rfl, hb⟩)
          go_wp2_with fail
          go_ret
          exact ⟨rfl, HM5.out.low.trans (hb.mono HM5.out.low.size)⟩
end Go.Proofs.YtffkjdmpeeagoaaDoor
