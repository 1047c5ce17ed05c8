/-
  The law OrphansRound, walked: it returns true and only makes memory of its own; condition: the tables as laid, numbers of their kinds.
-/
import Derived.Test.YtjpanofkikfeoaaDoorOR2
import Derived.Deep.RegionHeld3
import Derived.BigQuiet
namespace Go.Proofs.YtjpanofkikfeoaaDoor
open Go.RowKit Go.Maps

theorem u8_u64 {s : Int} (h : 0 ≤ s ∧ s < 256) : (Lit.int .u64 (s + 1)).wf = true := by
  unfold Lit.wf
  simp [IntKind.min, IntKind.max, IntKind.bits, IntKind.signed]
  omega
theorem pair_box0 (w : World) (p b : Nat) : Bq w.heap.size 27 [.pointer (some ⟨p, 0, none⟩), .pointer (some ⟨b, 0, none⟩)] (w.alloc (.cells #[.pointer (some ⟨p, 0, none⟩), .pointer (some ⟨b, 0, none⟩)] 27)) := Bq.new w [.pointer (some ⟨p, 0, none⟩), .pointer (some ⟨b, 0, none⟩)] _
theorem next_at {n : Nat} (h : 0 < n) (i : Nat) : ∃ j : Nat, j < n ∧ Int.tmod ((i : Int) + 1) (n : Int) = (j : Int) := by
  refine ⟨(i + 1) % n, Nat.mod_lt _ h, ?_⟩
  rw [Int.tmod_eq_emod_of_nonneg (by omega)]
  push_cast
  rfl
set_option maxRecDepth 100000 in
set_option maxHeartbeats 16000000 in
theorem round_law (A : Option Addr) (cap : Nat) (l : List Int) (W : World) (hL : Lay W) (hM : LayM W) (hs : Row W A (l.map fun x => .int .u8 x)) (hu : ∀ x ∈ l, U8 x) :
    Calls Tryd.prog 3 #[.slice A l.length cap] W fun e W' => e = .returned (.bool true) ∧ Below W.heap.size W W' := by
  have h1W : 1 < W.heap.size := by have := hM.1; have := hL.1; omega
  have HS := Lib.hid hs
  have HU := Lib.hid hu
  have HLM := Lib.hid (⟨hL, hM⟩ : _ ∧ _)
  clear hL hM hs hu
  go_enter Tryd.func3, Tryd.ntmps3
  by_cases hlen : 20 < l.length ∨ l.length = 0
  · rcases hlen with hlen | hlen
    · have hlen' : (20 : Int) < (l.length : Int) := by omega
      have hb0 : ((l.length : Int) == 0) = false := beq_eq_false_iff_ne.2 (by omega)
      go_wp2_with fail
      ((with_reducible refine (lives12_any HLM.out.1 HLM.out.2).mono ?_); rintro e w4 ⟨rfl, hb⟩)
      go_wp2_with fail
      go_ret
      exact ⟨rfl, hb⟩
    · have hlen' : (l.length : Int) = 0 := by omega
      go_wp2_with fail
      ((with_reducible refine (lives12_any HLM.out.1 HLM.out.2).mono ?_); rintro e w4 ⟨rfl, hb⟩)
      go_wp2_with fail
      go_ret
      exact ⟨rfl, hb⟩
  have hlen' : (l.length : Int) ≤ 20 := by omega
  have hb0 : ((l.length : Int) == 0) = false := beq_eq_false_iff_ne.2 (by omega)
  have hlen0 : 0 < l.length := by omega
  obtain ⟨g, off, rfl, hc⟩ := HS.out.at_ (k := 0) (by rw [List.length_map]; exact hlen0)
  have hcell : ∀ (w : World) (k : Nat), Below W.heap.size W w → k < l.length → w.cell? ⟨g, off + k, none⟩ = some (.int .u8 (l.getD k 0)) := fun w k hb hk => low_cellO hb (hc _ _ (by simp [List.getD_eq_getElem?_getD, List.getElem?_eq_getElem hk]))
  have hrng : ∀ k, k < l.length → 0 ≤ l.getD k 0 ∧ l.getD k 0 < 256 := fun k hk => by
    have := HU.out (l.getD k 0) (by rw [List.getD_eq_getElem?_getD, List.getElem?_eq_getElem hk]; simp)
    obtain ⟨a, b⟩ := this
    omega
  have HCELL := Lib.hid hcell
  have HRNG := Lib.hid hrng
  clear hc hcell hrng HS HU
  go_wp2_with fail
  ((with_reducible refine (begin_none W HLM.out.2).mono ?_); rintro e w1 ⟨p, m, b, rfl, hB, hm, hmp, hpb, hb1⟩)
  have HO := Lib.hid (show RdS W p m b w1.heap.size 0 (w1.alloc (.cells #[.pointer (some ⟨p, 0, none⟩), .pointer (some ⟨b, 0, none⟩)] 27)) from by
    have hA : Below w1.heap.size w1 (w1.alloc (.cells #[.pointer (some ⟨p, 0, none⟩), .pointer (some ⟨b, 0, none⟩)] 27)) := (Below.refl _ _).alloc (Nat.le_refl _) _
    have hWA := hb1.trans (hA.mono hb1.size)
    exact ⟨hB.below hA, hWA, hm, HLM.out.1.below hWA, HLM.out.2.below hWA, pair_box0 w1 p b⟩)
  clear hB hm hmp hpb hb1 HLM
  go_upto_region 4 with (fail)
  revert HO
  generalize (w1.alloc (.cells #[.pointer (some ⟨p, 0, none⟩), .pointer (some ⟨b, 0, none⟩)] 27)) = w2
  generalize w1.heap.size = T
  intro HO
  go_wp2_with fail
  go_loopw [4] (fun j wr => ∃ i : Nat, i ≤ l.length ∧ j = .int .i64 (i : Int) ∧ Hid (RdS W p m b T i wr)) (fun j _ => l.length + 1 - (intOf j).toNat)
  case atStart => exact ⟨0, Nat.zero_le _, rfl, HO⟩
  case round =>
    clear HO
    obtain ⟨i, hi, rfl, HO⟩ := hrel
    rename World => w3
    have hge : (0 : Int) ≤ (i : Int) := by omega
    by_cases hlt : i < l.length
    · have hlt' : (i : Int) < (l.length : Int) := by omega
      obtain ⟨j, hj, hmod⟩ := next_at hlen0 i
      have hj0 : (0 : Int) ≤ (j : Int) := by omega
      have hjl : (j : Int) < (l.length : Int) := by omega
      have hne : ¬ (l.length : Int) = 0 := by omega
      have hy := HCELL.out _ _ HO.out.low hj
      have HY0 := Lib.hid (HCELL.out W i (Below.refl _ W) hlt)
      have HY2 := Lib.hid (HCELL.out _ _ (HO.out.below (Below.refl _ w3).drew).low hlt)
      have hr1 := HRNG.out j hj
      have hr2 := HRNG.out i hlt
      generalize l.getD j 0 = u at *
      generalize l.getD i 0 = s at *
      have hu1 : IntKind.u64.wrap u = u := by simp [IntKind.wrap, IntKind.bits, IntKind.signed]; omega
      have hu2 : IntKind.u64.wrap (u + 1) = u + 1 := by simp [IntKind.wrap, IntKind.bits, IntKind.signed]; omega
      have hs1 : IntKind.i64.wrap s = s := by simp [IntKind.wrap, IntKind.bits, IntKind.signed]; omega
      have hi900 : i ≤ 900 := by omega
      have HDR := Lib.hid (HO.out.below (Below.refl _ w3).drew)
      have hst := HDR.out.store h1W hi900 (adS s 2) (u + 1) (u8_u64 hr1) (adS_at hr2 (by decide))
      have HK := Lib.hid HDR.out.box.cells2
      clear HO
      go_upto_region 8 with (fail)
      clear hy
      go_region_held3 (fun w9 => w9.cell? ⟨T, 0, none⟩ = some (.pointer (some ⟨p, 0, none⟩)) ∧ w9.cell? ⟨T, 1, none⟩ = some (.pointer (some ⟨b, 0, none⟩)) ∧ w9.cell? ⟨g, off + i, none⟩ = some (.int .u8 s))
        (first | exact ⟨HK.out.1, HK.out.2, HY2.out⟩ | exact ⟨HK9.out.1, HK9.out.2.1, HK9.out.2.2⟩ | fail)
        (first
          | (go_at_call 9; (with_reducible refine hst.mono ?_); rintro ee wC ⟨rfl, h9⟩; have HO9 := Lib.hid h9; have HK9 := Lib.hid (show _ ∧ _ ∧ _ from ⟨h9.box.cells2.1, h9.box.cells2.2, low_cellO h9.low HY0.out⟩); clear h9)
          | fail)
      all_goals (go_wp2_with fail)
      all_goals go_roundw
      case rel => exact ⟨i + 1, by omega, by go_num, HO9⟩
      case measure => simp [intOf]; omega
    · have hlt' : ¬ (i : Int) < (l.length : Int) := by omega
      have hi900 : i ≤ 900 := by omega
      have HY0 := Lib.hid (HCELL.out W 0 (Below.refl _ W) hlen0)
      have HY2 := Lib.hid (show w3.drew.cell? ⟨g, off, none⟩ = _ from HCELL.out _ 0 (HO.out.below (Below.refl _ w3).drew).low hlen0)
      have hr1 := HRNG.out 0 hlen0
      generalize l.getD 0 0 = u at *
      have hu1 : IntKind.u64.wrap u = u := by simp [IntKind.wrap, IntKind.bits, IntKind.signed]; omega
      have hu2 : IntKind.u64.wrap (u + 1) = u + 1 := by simp [IntKind.wrap, IntKind.bits, IntKind.signed]; omega
      have HDR := Lib.hid (HO.out.below (Below.refl _ w3).drew)
      have hst := HDR.out.store h1W hi900 adO (u + 1) (u8_u64 hr1) adO_at
      have HK := Lib.hid HDR.out.box.cells2
      have hi0l : (0 : Int) < (l.length : Int) := by omega
      clear HO
      go_upto_region 9 with (fail)
      go_region_held3 (fun w9 => w9.cell? ⟨T, 0, none⟩ = some (.pointer (some ⟨p, 0, none⟩)) ∧ w9.cell? ⟨T, 1, none⟩ = some (.pointer (some ⟨b, 0, none⟩)) ∧ w9.cell? ⟨g, off, none⟩ = some (.int .u8 u))
        (first | exact ⟨HK.out.1, HK.out.2, HY2.out⟩ | exact ⟨HK9.out.1, HK9.out.2.1, HK9.out.2.2⟩ | fail)
        (first
          | (go_at_call 9; (with_reducible refine hst.mono ?_); rintro ee wC ⟨rfl, h9⟩; have HO9 := Lib.hid h9; have HK9 := Lib.hid (show _ ∧ _ ∧ _ from ⟨h9.box.cells2.1, h9.box.cells2.2, low_cellO h9.low HY0.out⟩); clear h9)
          | fail)
      all_goals (go_wp2_with fail)
      ((with_reducible refine (newTake_all wC).mono ?_); rintro e w4 ⟨q, fp, rfl, hf, R, hb4⟩)
      have HR4 := Lib.hid R
      have HB4 := Lib.hid hb4
      have HF4 := Lib.hid hf
      clear R hb4 hf
      go_wp2_with fail
      ((with_reducible refine (docNewT w4).mono ?_); rintro e w5 ⟨K, rfl, hK, k5, hb5⟩)
      have HN := Lib.hid (RdT.new (K := K) HO9.out (by omega) HB4.out HF4.out HR4.out hb5 hK k5)
      clear hK k5 hb5 HR4 HB4 HF4 HO9 HK9
      go_upto_region 11 with (fail)
      revert HN
      generalize (w5.alloc (.cells #[.pointer none, .pointer (some ⟨q, 0, none⟩), .pointer (some ⟨K, 0, none⟩)] 42)) = w6
      generalize w5.heap.size = Z
      intro HN
      obtain ⟨M0, hN0⟩ := HN.out
      have HX := Lib.hid (show ∃ c o M, RdT W p m b T Z q K c ((0 : Nat) : Int) o M w6 ∧ c ≤ 100 + 0 from ⟨_, _, M0, hN0, by omega⟩)
      have hq1 := hN0.bz.cells3.2.1
      clear HN hN0
      go_wp2_with fail
      clear hq1
      go_loopw [7] (fun j wr => ∃ i : Nat, i ≤ 1282 ∧ j = .int .i64 (i : Int) ∧ Hid (∃ c o M, RdT W p m b T Z q K c (i : Int) o M wr ∧ c ≤ 100 + i)) (fun j _ => 1283 - (intOf j).toNat)
      case atStart => exact ⟨0, Nat.zero_le _, rfl, HX⟩
      case round =>
        clear HX
        obtain ⟨i, hi, rfl, HR⟩ := hrel
        rename World => w7
        have hge' : (0 : Int) ≤ (i : Int) := by omega
        obtain ⟨c, o, M, h, hcc⟩ := HR.out
        have HT := Lib.hid h
        have hline := h.line
        obtain ⟨z0, z1, z2⟩ := h.bz.cells3
        clear HR h
        by_cases hlt2 : i < 1282
        · have hlt2' : (i : Int) < 1282 := by omega
          by_cases hz0 : o.ln = 0
          · rw [hz0] at hline
            go_wp2_with fail
            have HZ := Lib.hid hz0
            ((with_reducible refine (HT.out.over hz0).mono ?_); rintro e wO ⟨rfl, hq⟩)
            subst hq
            have hq2 := HT.out.bz.cells3.2.1
            go_wp2_with fail
            ((with_reducible refine HT.out.got.mono ?_); rintro e wG ⟨Ag, ng, kg, rfl, hng, hbg⟩)
            have HT2 := Lib.hid (HT.out.below hbg)
            clear HT hbg hq2
            go_wp2_with fail
            ((with_reducible refine (lives12_any HT2.out.lay HT2.out.laym).mono ?_); rintro e wL ⟨rfl, hbl⟩)
            go_wp2_with fail
            go_ret
            exact ⟨rfl, HT2.out.low.trans (hbl.mono HT2.out.low.size)⟩
          · have hz9 : (o.ln == 0) = false := beq_eq_false_iff_ne.2 hz0
            obtain ⟨t0, t1⟩ := HT.out.box.cells2
            have HZ := Lib.hid hz0
            go_wp2_with fail
            ((with_reducible refine (HT.out.step h1W (by omega) HZ.out).mono ?_); rintro e w8 ⟨rfl, h8⟩)
            have HT8 := Lib.hid h8
            obtain ⟨s0, s1⟩ := h8.box.cells2
            clear h8 hline z0 z1 z2 t0 t1 hz0
            go_wp2_with fail
            ((with_reducible refine (both_same HT8.out.bm.both).mono ?_); rintro e w9 ⟨rfl, hb9⟩)
            have HX := Lib.hid (show ∃ c o M, RdT W p m b T Z q K c ((i + 1 : Nat) : Int) o M w9 ∧ c ≤ 100 + (i + 1) from ⟨c + 1, _, _, by push_cast; exact HT8.out.below hb9, by omega⟩)
            clear hb9 HT8 s0 s1
            go_wp2_with fail
            go_roundw
            case rel => exact ⟨i + 1, by omega, by go_num, HX⟩
            case measure => simp [intOf]; omega
        · obtain rfl : i = 1282 := by omega
          have hz0 : o.ln = 0 := by
            obtain ⟨x, _, _, _, J⟩ := HT.out.j
            exact remT_pos HT.out.g J.num (by have := HT.out.rem; push_cast at this; omega)
          rw [hz0] at hline
          go_wp2_with fail
          have HZ := Lib.hid hz0
          ((with_reducible refine (HT.out.over hz0).mono ?_); rintro e wO ⟨rfl, hq⟩)
          subst hq
          have hq2 := HT.out.bz.cells3.2.1
          go_wp2_with fail
          ((with_reducible refine HT.out.got.mono ?_); rintro e wG ⟨Ag, ng, kg, rfl, hng, hbg⟩)
          have HT2 := Lib.hid (HT.out.below hbg)
          clear HT hbg hq2
          go_wp2_with fail
          ((with_reducible refine (lives12_any HT2.out.lay HT2.out.laym).mono ?_); rintro e wL ⟨rfl, hbl⟩)
          go_wp2_with fail
          go_ret
          exact ⟨rfl, HT2.out.low.trans (hbl.mono HT2.out.low.size)⟩
end Go.Proofs.YtjpanofkikfeoaaDoor
