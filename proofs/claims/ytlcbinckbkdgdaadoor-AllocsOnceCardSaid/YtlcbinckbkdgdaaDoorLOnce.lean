/-
  The law AllocsOnce, walked: it returns true and only makes memory of its own; condition: the tables as laid, the list of numbers lies as it says.
-/
import Derived.Test.YtlcbinckbkdgdaaDoorOA10
import Derived.Test.YtlcbinckbkdgdaaDoorFCore
import Derived.StillTailTactics
import Derived.BigQuiet
import Derived.Deep.QuietTactic
namespace Go.Proofs.YtlcbinckbkdgdaaDoor
open Go.RowKit Go.Maps

theorem u8_parts {x : Int} (h : U8 x) : ∃ k d e f : Nat, k < 6 ∧ d < 43 ∧ e < 2 ∧ f < 22 ∧ Int.tmod x 6 = (k : Int) ∧ Int.tdiv x 6 = (d : Int) ∧ Int.tmod (d : Int) 2 = (e : Int) ∧ Int.tdiv x 12 = (f : Int) := by
  obtain ⟨a, b⟩ := h
  refine ⟨(x % 6).toNat, (x / 6).toNat, (x / 6).toNat % 2, (x / 12).toNat, by omega, by omega, by omega, by omega, ?_, ?_, ?_, ?_⟩
  · rw [Int.tmod_eq_emod_of_nonneg a]; omega
  · rw [Int.tdiv_eq_ediv_of_nonneg a]; omega
  · rw [Int.tmod_eq_emod_of_nonneg (by omega)]; omega
  · rw [Int.tdiv_eq_ediv_of_nonneg a]; omega
theorem u8_wrap {k : Nat} (h : k < 256) : IntKind.u8.wrap (k : Int) = (k : Int) := by simp [IntKind.wrap, IntKind.bits, IntKind.signed]; omega
theorem once_nums {z0 z1 : Int} (h0 : U8 z0) (h1 : U8 z1) : ∃ n m0 mo : Nat, m0 < 3 ∧ n = m0 + 1 ∧ mo < 4 ∧ Int.tmod z0 3 = (m0 : Int) ∧ Int.tmod z1 4 = (mo : Int) := by
  obtain ⟨a, b⟩ := h0
  obtain ⟨c, d⟩ := h1
  refine ⟨(z0 % 3).toNat + 1, (z0 % 3).toNat, (z1 % 4).toNat, by omega, rfl, by omega, ?_, ?_⟩
  · rw [Int.tmod_eq_emod_of_nonneg a]; omega
  · rw [Int.tmod_eq_emod_of_nonneg c]; omega
theorem cell_lt {w : World} {a : Addr} {v : Value} (h : w.cell? a = some v) : a.block < w.heap.size := by
  refine Decidable.byContradiction fun hn => ?_
  simp [World.cell?, Array.getElem?_eq_none (Nat.le_of_not_lt hn)] at h
set_option maxRecDepth 100000 in
set_option maxHeartbeats 16000000 in
theorem once_any (z0 z1 : Int) (A : Option Addr) (cap : Nat) (l : List Int) (W : World) (hL : Lay W) (hM : LayM W) (hz0 : U8 z0) (hz1 : U8 z1) (hs : Row W A (l.map fun z => .int .u8 z)) (hu : ∀ z ∈ l, U8 z) :
    Calls Tryd.prog 4 #[.int .u8 z0, .int .u8 z1, .slice A l.length cap] W fun e W' => e = .returned (.bool true) ∧ Below W.heap.size W W' := by
  obtain ⟨n, m0, mo, hm0, hnm, hmo, en, em⟩ := once_nums hz0 hz1
  have hn3 : n ≤ 3 := by omega
  have hn1 : 1 ≤ n := by omega
  have hzw : IntKind.i64.wrap z0 = z0 := by simp [IntKind.wrap, IntKind.bits]; obtain ⟨a, b⟩ := hz0; omega
  have hnw : IntKind.i64.wrap (m0 : Int) = (m0 : Int) := by simp [IntKind.wrap, IntKind.bits]; omega
  have hnw2 : IntKind.i64.wrap (1 + (m0 : Int)) = (n : Int) := by simp [IntKind.wrap, IntKind.bits]; omega
  have hmw : IntKind.u8.wrap (mo : Int) = (mo : Int) := u8_wrap (by omega)
  have hmw2 : IntKind.u32.wrap (mo : Int) = (mo : Int) := by simp [IntKind.wrap, IntKind.bits, IntKind.signed]; omega
  obtain ⟨n8, hn8⟩ : ∃ n8 : Nat, n8 = 8 * n := ⟨_, rfl⟩
  have hnw3 : IntKind.i64.wrap ((n : Int) * 8) = (n8 : Int) := by simp [IntKind.wrap, IntKind.bits, IntKind.signed]; omega
  obtain ⟨i1, hi1, hy0, hy1, hy2⟩ := info_parts info_th
  obtain ⟨i0, hi, hz0', hz1', hz2⟩ := info_parts info_int
  have HL := Lib.hid hL
  have HM := Lib.hid hM
  have HU := Lib.hid hu
  have HS := Lib.hid hs
  have HN8 := Lib.hid hn8
  have h1W : 1 < W.heap.size := by have := hM.1; have := hL.1; omega
  have hbeg := begin8_any n hn3 W hL hM
  clear hL hM hu hs hz0 hz1 hn8 hnm
  go_enter Tryd.func4, Tryd.ntmps4
  go_wp2_with fail
  ((with_reducible refine hbeg.mono ?_); rintro e w1 ⟨p, b, M, rfl, hB, F, low1, hp, hb⟩)
  clear en hzw hnw hnw2
  have HB := Lib.hid hB
  have HF := Lib.hid F
  have HLOW1 := Lib.hid low1
  clear hB F low1 hbeg
  by_cases hlen : 600 < l.length
  · have hlen' : (600 : Int) < (l.length : Int) := by omega
    have HLY := Lib.hid HF.out.lay
    have HLM := Lib.hid HF.out.laym
    go_wp2_with fail
    ((with_reducible refine (lives_any w1 HLY.out HLM.out).mono ?_); rintro e w4 ⟨rfl, hb⟩)
    go_wp2_with fail
    go_ret
    exact ⟨rfl, HLOW1.out.trans (hb.mono HLOW1.out.size)⟩
  have hlen' : (l.length : Int) ≤ 600 := by omega
  go_wp2_with (at_make; first | (refine wpList_make_full _ rfl _ _ 58 rfl 0 63 i1 _ 3 Tryd.underlying58 hi1 hy0 hy1 .i64 .i64 _ _ 5 rfl rfl rfl rfl (by rw [hy2]; decide) (by decide) (Nat.zero_le _) ?_; intro w2 ho1 hg1; have HO1 := Lib.hid ho1; have HG1 := Lib.hid hg1; clear ho1 hg1) | (go_loud (refine wpList_make_full _ rfl _ _ 59 rfl w2.heap.size 3 i0 _ 1 Tryd.underlying59 hi hz0' hz1' .i64 .i64 _ _ n8 rfl rfl (by have := HN8.out; omega) (by have := HN8.out; omega) (by rw [hz2]; have := HN8.out; omega) (by unfold maxLen; have := HN8.out; omega) (Nat.le_refl _) ?_; intro w3 ho2 hg2; have HO2 := Lib.hid ho2; have HG2 := Lib.hid hg2; clear ho2 hg2)))
  have HR := Lib.hid (show Run W p b w1.heap.size w2.heap.size n 200 (mo : Int) (fun _ => 0) (fun _ _ _ => True) w3 from run0 HB.out HF.out HLOW1.out hp hb hn3 (by omega) HO1.out HG1.out (by have := HO2.out; rw [HN8.out] at this; exact this) HG2.out)
  have hHH : 1 < w2.heap.size ∧ W.heap.size ≤ w2.heap.size := by
    have h1 := HLOW1.out.size
    have h2 := HG1.out.size
    omega
  clear HB HF HLOW1 HO1 HG1 HO2 HG2
  revert HR hHH
  generalize w1.heap.size = G
  generalize w2.heap.size = H
  intro HR hHH
  obtain ⟨hH1, hHW⟩ := hHH
  go_loopw [13] (fun j wr => ∃ i : Nat, i ≤ l.length ∧ j = .int .i64 (i : Int) ∧ Hid (∃ lst, Run W p b G H n (200 + 40 * i) (mo : Int) lst (fun _ _ _ => True) wr)) (fun j _ => l.length - (intOf j).toNat)
  case atStart => exact ⟨0, Nat.zero_le _, rfl, Lib.hid ⟨_, HR.out⟩⟩
  case round =>
    clear HR
    obtain ⟨i, hi', rfl, HR⟩ := hrel
    have hge : (0 : Int) ≤ (i : Int) := by omega
    by_cases hlt : i < l.length
    · obtain ⟨g, off, rfl, hc⟩ := HS.out.at_ (k := i) (by rw [List.length_map]; exact hlt)
      have hyW : W.cell? ⟨g, off + i, none⟩ = some (.int .u8 (l.getD i 0)) := hc i _ (by simp [List.getD_eq_getElem?_getD, List.getElem?_eq_getElem hlt])
      have hy : wr.cell? ⟨g, off + i, none⟩ = some (.int .u8 (l.getD i 0)) := low_cell HR.out.choose_spec.low hyW (cell_lt hyW)
      have hx := HU.out (l.getD i 0) (by rw [List.getD_eq_getElem?_getD, List.getElem?_eq_getElem hlt]; simp)
      clear hc
      generalize l.getD i 0 = x at hy hyW hx
      have HYW := Lib.hid (⟨hyW, cell_lt hyW⟩ : _ ∧ _)
      clear hyW
      obtain ⟨k, d, e, f, hk, hd, he, hf, e1, e2, e3, e4⟩ := u8_parts hx
      have hxw : IntKind.i64.wrap x = x := by simp [IntKind.wrap, IntKind.bits, IntKind.signed]; obtain ⟨a, b⟩ := hx; omega
      have f1 : IntKind.i64.wrap (k : Int) = (k : Int) := by simp [IntKind.wrap, IntKind.bits, IntKind.signed]; omega
      have f2 := u8_wrap (show d < 256 by omega)
      have f3 := u8_wrap (show e < 256 by omega)
      have f4 := u8_wrap (show f < 256 by omega)
      have hlt' : (i : Int) < (l.length : Int) := by omega
      obtain ⟨lst, hrun⟩ := HR.out
      have HRUN := Lib.hid hrun
      clear hx HR hrun
      by_cases hk5 : k = 5
      · subst hk5
        obtain ⟨gs, hgs, hgm⟩ : ∃ gs : Nat, gs < n ∧ Int.tmod (f : Int) (n : Int) = (gs : Int) := ⟨f % n, Nat.mod_lt _ (by omega), by rw [Int.tmod_eq_emod_of_nonneg (by omega)]; omega⟩
        have f5 : IntKind.i64.wrap (f : Int) = (f : Int) := by simp [IntKind.wrap, IntKind.bits, IntKind.signed]; omega
        have f6 : IntKind.i64.wrap (gs : Int) = (gs : Int) := by simp [IntKind.wrap, IntKind.bits, IntKind.signed]; omega
        have hn0 : ¬ n = 0 := by omega
        go_upto_region 13 with (fail)
        have HB := Lib.hid (HRUN.out.below (Below.refl wr.heap.size wr).drew)
        refine wp_region_still_tail 16 (by kernel_rfl) (by kernel_rfl) ?_
        change wpStill _ _ wr.drew (fun a' => wpList _ _ _ _ a' wr.drew) _ _
        have y' : wr.drew.cell? ⟨g, off + i, none⟩ = some (.int .u8 x) := hy
        clear hy HRUN
        simp only [List.take_succ_cons, List.take_zero, List.drop_succ_cons, List.drop_zero]
        iterate 16 still_step
        refine wpStill_nil ?_
        go_wp2_with fail
        ((with_reducible refine (HB.out.drain hn3 gs hgs _ (by omega)).mono ?_); rintro e' w3 ⟨rfl, r3⟩)
        have HR3 := Lib.hid r3
        clear r3 HB y'
        go_wp2_with fail
        go_roundw
        case rel => exact ⟨i + 1, by omega, by go_num, Lib.hid ⟨lst, HR3.out.mono (by omega) (fun _ _ _ _ _ _ h => h)⟩⟩
        case measure => simp [intOf]; omega
      · have hk5' : k < 5 := by omega
        have hk5i : (k : Int) < 5 := by omega
        have hk0 : (0 : Int) ≤ (k : Int) := by omega
        go_upto_region 14 with (fail)
        have HBX := Lib.hid (HRUN.out.below (Below.refl wr.heap.size wr).drew)
        have HBR := Lib.hid (show RunR W p b G H n (200 + 40 * i) (mo : Int) lst lst (fun _ _ _ => True) wr.heap.size [.int .i64 0, .int .u32 0, .bool false] (wr.alloc (.cells #[.int .i64 0, .int .u32 0, .bool false] 34)).drew from ((show RunG W p b G H n (200 + 40 * i) (mo : Int) lst lst (fun _ _ _ => True) wr from HRUN.out).alloc [.int .i64 0, .int .u32 0, .bool false]).below (Below.refl _ _).drew)
        clear HRUN
        have hyd : wr.drew.cell? ⟨g, off + i, none⟩ = some (.int .u8 x) := hy
        have HYA := Lib.hid (low_cell HBR.out.low HYW.out.1 HYW.out.2)
        clear hy
        go_region_held3 (fun w9 => w9.cell? ⟨g, off + i, none⟩ = some (.int .u8 x))
          (first | exact hyd | exact HYA.out | exact HYB.out | exact HYC.out | exact HYD.out | fail)
          (first
            | (go_at_call 22; with_reducible refine (HBX.out.step (Q' := fun _ _ _ => True) _ h1W hn3 ⟨by omega, by omega⟩ hk5' (k * 3) (Nat.mul_comm _ _) (by omega) (fun _ _ _ _ _ _ _ _ _ _ _ _ _ => trivial)).mono ?_; rintro e' w4 ⟨s, u, gain, rfl, q1, q2, q3, r3⟩; have HQ := Lib.hid (⟨q1, q2, q3⟩ : _ ∧ _ ∧ _); have HRA := Lib.hid (r3.alloc [.int .i64 s, .int .u32 u, .bool false]); have HYB := Lib.hid (low_cell r3.low HYW.out.1 HYW.out.2); have HYC := Lib.hid (low_cell (r3.alloc [.int .i64 0, .int .u32 0, .bool false]).low HYW.out.1 HYW.out.2); have HYD := Lib.hid (low_cell HRA.out.low HYW.out.1 HYW.out.2); clear q1 q2 q3 r3)
            | (go_at_call 22; with_reducible refine (HBR.out.step _ h1W hn3 ⟨by omega, by omega⟩ hk5' (k * 3) (Nat.mul_comm _ _) (by omega)).mono ?_; rintro e' w4 ⟨s, u, gain, rfl, q1, q2, q3, r3⟩; have HQ := Lib.hid (⟨q1, q2, q3⟩ : _ ∧ _ ∧ _); have HRA := Lib.hid (r3.fill (d0 := .int .i64 s) (d1 := .int .u32 u) (d2 := .bool false) h1W); have hf := Bq.s3 r3.bq; have HYB := Lib.hid (low_cell r3.low HYW.out.1 HYW.out.2); have HYC := Lib.hid (low_cell HRA.out.low HYW.out.1 HYW.out.2); clear q1 q2 q3 r3; obtain ⟨f0, f1, f2, y0, y1, y2⟩ := hf)
            | fail)
        all_goals
          rcases gain with _ | ⟨⟨s', u'⟩, r⟩
          · simp only [List.isEmpty_nil, Bool.not_true]
            have HR9 := Lib.hid (HRA.out.forget.idle.mono (c' := 200 + 40 * (i + 1)) (Q' := fun _ _ _ => True) (by omega) (fun _ _ _ _ _ _ h => h))
            clear HQ HRA
            go_wp2_with fail
            go_roundw
            case rel => exact ⟨i + 1, by omega, by go_num, Lib.hid ⟨lst, HR9.out⟩⟩
            case measure => simp [intOf]; omega
          · simp only [List.isEmpty_cons, Bool.not_false]
            obtain ⟨q1, q2, q3⟩ := HQ.out
            have q5 := q1 _ _ rfl
            obtain rfl : r = [] := List.eq_nil_of_length_eq_zero (by simpa using q2)
            have q4 := q3 _ (List.mem_singleton.2 rfl)
            simp only at q4 q5
            clear q1 q2 q3 HQ
            obtain ⟨rfl, rfl⟩ := q5
            obtain ⟨⟨a1, a2⟩, a3, a4, a5⟩ := q4
            obtain ⟨zn, rfl⟩ : ∃ zn : Nat, s = (zn : Int) := ⟨s.toNat, by omega⟩
            obtain ⟨gn, rfl⟩ : ∃ gn : Nat, u = (gn : Int) := ⟨u.toNat, by omega⟩
            have hz8 : zn < 8 * n := by omega
            obtain ⟨l1, l2⟩ := HRA.out.forget.last hz8
            have HLZ := Lib.hid a3
            go_upto_region 16 with (fail)
            revert HRA l1 l2
            first
              | (clear f0 f1 f2 y0 y1 y2; unfold fill3; generalize ((w4.setCell ⟨wr.heap.size, 0, none⟩ (.int .i64 (zn : Int))).setCell ⟨wr.heap.size, 1, none⟩ (.int .u32 (gn : Int))).setCell ⟨wr.heap.size, 2, none⟩ (.bool false) = w5; generalize wr.heap.size = r9)
              | (generalize w4.alloc (.cells #[.int .i64 (zn : Int), .int .u32 (gn : Int), .bool false] 34) = w5; generalize w4.heap.size = r9)
            intro HRA l1 l2
            clear HBX HBR HYA hyd HYW
            (try clear HYB)
            (try clear HYC)
            (try clear HYD)
            have hf := Bq.s3 HRA.out.bq
            obtain ⟨f0, f1, f2, y0, y1, y2⟩ := hf
            obtain ⟨lz, hlz⟩ : ∃ lz, lst (zn : Int) = lz := ⟨_, rfl⟩
            rw [hlz] at a3 l1
            have hn8 := HN8.out
            have hz9 : zn < n8 := by omega
            have hz9i : (zn : Int) < (n8 : Int) := by omega
            have d1 : decide ((zn : Int) < 0) = false := decide_eq_false (by omega)
            have d2 : decide ((n8 : Int) ≤ (zn : Int)) = false := decide_eq_false (by omega)
            have d2' : decide (n8 ≤ zn) = false := decide_eq_false (by omega)
            have d3 : decide ((gn : Int) < lz) = false := decide_eq_false (by omega)
            have d4 : decide ((mo : Int) < (gn : Int)) = false := decide_eq_false (by omega)
            have d4' : decide (mo < gn) = false := decide_eq_false (by omega)
            have g1 : IntKind.i64.wrap (gn : Int) = (gn : Int) := by simp [IntKind.wrap, IntKind.bits, IntKind.signed]; omega
            have g2 : IntKind.i64.wrap ((gn : Int) + 1) = (gn : Int) + 1 := by simp [IntKind.wrap, IntKind.bits, IntKind.signed]; omega
            clear hn8 hlz hz8 a2
            go_quiet (fail)
            have HRB := Lib.hid ((HRA.out.below (below_drewN' (Below.refl _ _) nq)).put hH1 hHW rfl (by have := HN8.out; omega))
            have l3 := l2 zn
            clear l2 HRA
            go_wp2_with fail
            clear f0 f1 f2 y0 y1 y2 l1 l3 d1 d2 d2' d3 d4 d4'
            revert HRB
            generalize (w5.drewN nq).setCell ⟨H, zn, none⟩ (.int .i64 ((gn : Int) + 1)) = w6
            intro HRB
            have hf := Bq.s3 HRB.out.bq
            obtain ⟨f0, f1, f2, _, _, _⟩ := hf
            have HLG := Lib.hid (show lstG lst [((zn : Int), (gn : Int))] (zn : Int) = (gn : Int) + 1 by simp [lstG])
            go_loopw [17] (fun j wr => ∃ t d : Nat, t ≤ 5 ∧ j = .int .i64 (t : Int) ∧ wr = w6.drewN d) (fun j _ => 5 - (intOf j).toNat)
            case atStart => exact ⟨0, 0, Nat.zero_le _, rfl, rfl⟩
            case round =>
              obtain ⟨t, dd, ht, rfl, rfl⟩ := hrel
              have ht0 : (0 : Int) ≤ (t : Int) := by omega
              by_cases ht5 : t < 5
              · have ht5i : (t : Int) < 5 := by omega
                obtain ⟨A2, m, cp, c0, hm, hrow⟩ := Run.held (show Run W p b G H n _ _ _ _ w6 from HRB.out.forget) hn3 ht5
                have HROW := Lib.hid hrow
                clear hrow
                go_wp2_with fail
                go_loopw [18] (fun j wr => ∃ q d : Nat, q ≤ m ∧ j = .int .i64 (q : Int) ∧ wr = w6.drewN d) (fun j _ => m - (intOf j).toNat)
                case atStart => exact ⟨0, dd, Nat.zero_le _, rfl, rfl⟩
                case round =>
                  obtain ⟨q, d9, hq, rfl, rfl⟩ := hrel
                  have hq0 : (0 : Int) ≤ (q : Int) := by omega
                  by_cases hqm : q < m
                  · have hqmi : (q : Int) < (m : Int) := by omega
                    obtain ⟨g2, o2, s2, u2, rfl, k0, k1, k2, hl2⟩ := HROW.out q hqm
                    by_cases hs : s2 = (zn : Int)
                    · subst hs
                      obtain rfl : u2 = (gn : Int) := by have := HLG.out; omega
                      clear hl2
                      go_wp2_with fail
                      go_quiet (fail)
                      go_wp2_with fail
                      go_roundw
                      case rel => exact ⟨q + 1, d9 + nq, by omega, by go_num, rfl⟩
                      case measure => simp [intOf]; omega
                    · have hsb : (s2 == (zn : Int)) = false := by simpa using hs
                      clear hl2
                      go_wp2_with fail
                      go_quiet (fail)
                      go_wp2_with fail
                      go_roundw
                      case rel => exact ⟨q + 1, d9 + nq, by omega, by go_num, rfl⟩
                      case measure => simp [intOf]; omega
                  · have hqmi : (m : Int) ≤ (q : Int) := by omega
                    go_wp2_with fail
                    go_roundw
                    case rel => exact ⟨t + 1, d9, by omega, by go_num, rfl⟩
                    case measure => simp [intOf]; omega
              · have ht5i : (5 : Int) ≤ (t : Int) := by omega
                have HRC := Lib.hid (show Run W p b G H n (200 + 40 * i + 1) (mo : Int) (lstG lst [((zn : Int), (gn : Int))]) (fun _ _ _ => True) (w6.drewN dd) from HRB.out.forget.below (below_drewN' (Below.refl _ _) dd))
                clear HRB f0 f1 f2 HLG
                go_wp2_with fail
                ((with_reducible refine (HRC.out.live h1W hn3 (by omega) (by omega)).mono ?_); rintro e' w7 ⟨rfl, r7⟩)
                have HR7 := Lib.hid (r7.mono (c' := 200 + 40 * (i + 1)) (Q' := fun _ _ _ => True) (by omega) (fun _ _ _ _ _ _ h => h))
                clear HRC r7
                go_wp2_with fail
                go_roundw
                case rel => exact ⟨i + 1, by omega, by go_num, Lib.hid ⟨_, HR7.out⟩⟩
                case measure => simp [intOf]; omega
    · have hge2 : (l.length : Int) ≤ (i : Int) := by omega
      obtain ⟨lst, hrun⟩ := HR.out
      have HR2 := Lib.hid (show ∃ lst', RunG W p b G H n (24200 + 1100 * 0) (mo : Int) lst lst' (QA2 0) wr from ⟨lst, hrun.mono (c' := 24200 + 1100 * 0) (Q' := QA2 0) (by omega) (fun th S R T Mp _ _ => fun j hj => by omega)⟩)
      clear HR hrun HU HS HN8 hlen hlen' hHW hH1
      rename World => wA
      go_wp2_with fail
      go_loopw [19] (fun j wr => ∃ i : Nat, i ≤ 5 ∧ j = .int .i64 (i : Int) ∧ Hid (∃ lst', RunG W p b G H n (24200 + 1100 * i) (mo : Int) lst lst' (QA2 i) wr)) (fun j _ => 5 - (intOf j).toNat)
      case atStart => exact ⟨0, Nat.zero_le _, rfl, HR2⟩
      case round =>
        clear HR2 hge hge2 hlt hi'
        obtain ⟨i, hi5, rfl, HR⟩ := hrel
        rename World => wA
        by_cases hlt : i < 5
        · have hlt' : (i : Int) < 5 := by omega
          have hge : (0 : Int) ≤ (i : Int) := by omega
          have HR3 := Lib.hid (show ∃ lst', RunG W p b G H n (24200 + 1100 * i + 0) (mo : Int) lst lst' (QA3 i 0) wA from HR.out.imp fun lst' h => h.mono (c' := 24200 + 1100 * i + 0) (Q' := QA3 i 0) (by omega) (fun th S R T M I q => ⟨q, .inr (by have h1 := remA_le M S.length (th i).op; have h2 := I.lenS; omega)⟩))
          clear HR
          go_wp2_with fail
          go_loopw [20] (fun j wr => ∃ k : Nat, k ≤ 1020 ∧ j = .int .i64 (k : Int) ∧ Hid (∃ lst', RunG W p b G H n (24200 + 1100 * i + k) (mo : Int) lst lst' (QA3 i k) wr)) (fun j _ => 1020 - (intOf j).toNat)
          case atStart => exact ⟨0, Nat.zero_le _, rfl, HR3⟩
          case round =>
            clear HR3
            obtain ⟨k, hk5, rfl, HR⟩ := hrel
            rename World => wA
            have hkg : (0 : Int) ≤ (k : Int) := by omega
            have hk' : (k : Int) < 4000 := by omega
            obtain ⟨lst', hr⟩ := HR.out
            obtain ⟨va, vf, c1, c2, hc⟩ := hr.ptr hlt
            clear HR hr
            rcases hc with ⟨hn1, rfl, rfl⟩ | ⟨hn1, hc⟩
            · have HN := Lib.hid (show ∃ lst', RunG W p b G H n (24200 + 1100 * (i + 1)) (mo : Int) lst lst' (QA2 (i + 1)) wA from ⟨lst', hn1.mono (by omega) (fun th S R T M _ q => fun j hj => by
                by_cases hji : j = i
                · rw [hji]; exact q.2
                · exact q.1.1 j (by omega))⟩)
              clear hn1
              go_wp2_with fail
              go_roundw
              case rel => exact ⟨i + 1, by omega, by go_num, HN⟩
              case measure => simp [intOf]; omega
            · have hkr : k < 1020 := by
                obtain ⟨th, S, R, T, Mp, ob, _, _, _, _, _, q1, q2⟩ := hn1
                rcases q1.2 with h | h
                · exact absurd h q2
                · have := remA_pos (M := Mp) (l := S.length) q2; omega
              have HN := Lib.hid hn1
              clear hn1
              rcases hc with ⟨q, rfl, rfl⟩ | ⟨q, rfl, rfl⟩
              · go_wp2_with fail
                ((with_reducible refine (HN.out.step (Q' := QA3 i (k + 1)) false h1W hn3 ⟨by omega, by omega⟩ hlt (i * 3) (Nat.mul_comm _ _) (by omega) (fun _ _ _ _ _ _ _ _ _ h _ h2 _ => qa3_step h h2)).mono ?_); rintro e' w3 ⟨s, u, gain, rfl, _, _, _, r3⟩)
                have HR3 := Lib.hid (show ∃ lst', RunG W p b G H n (24200 + 1100 * i + (k + 1)) (mo : Int) lst lst' (QA3 i (k + 1)) w3 from ⟨_, r3⟩)
                clear r3 HN c1 c2
                go_wp2_with fail
                go_roundw
                case rel => exact ⟨k + 1, by omega, by go_num, HR3⟩
                case measure => simp [intOf]; omega
              · go_wp2_with fail
                ((with_reducible refine (HN.out.step (Q' := QA3 i (k + 1)) false h1W hn3 ⟨by omega, by omega⟩ hlt (i * 3) (Nat.mul_comm _ _) (by omega) (fun _ _ _ _ _ _ _ _ _ h _ h2 _ => qa3_step h h2)).mono ?_); rintro e' w3 ⟨s, u, gain, rfl, _, _, _, r3⟩)
                have HR3 := Lib.hid (show ∃ lst', RunG W p b G H n (24200 + 1100 * i + (k + 1)) (mo : Int) lst lst' (QA3 i (k + 1)) w3 from ⟨_, r3⟩)
                clear r3 HN c1 c2
                go_wp2_with fail
                go_roundw
                case rel => exact ⟨k + 1, by omega, by go_num, HR3⟩
                case measure => simp [intOf]; omega
        · have hge : (5 : Int) ≤ (i : Int) := by omega
          obtain ⟨lst', hr⟩ := HR.out
          have HRW := Lib.hid (show RunG W p b G H n 29700 (mo : Int) lst lst' (QA2 5) wA from hr.mono (by omega) (fun th S R T M _ q => fun j hj => q j (by omega)))
          clear HR hr
          go_wp2_with fail
          ((with_reducible refine (HRW.out.whole h1W hn3 (by omega) (by omega)).mono ?_); rintro e' w4 ⟨rfl, hb4, hl4, hm4⟩)
          have HB4 := Lib.hid hb4
          have HLY := Lib.hid hl4
          have HLM := Lib.hid hm4
          clear HRW hb4 hl4 hm4
          go_wp2_with fail
          ((with_reducible refine (lives_any w4 HLY.out HLM.out).mono ?_); rintro e' w9 ⟨rfl, hb9⟩)
          go_wp2_with fail
          go_ret
          exact ⟨rfl, HB4.out.trans (hb9.mono HB4.out.size)⟩
end Go.Proofs.YtlcbinckbkdgdaaDoor
