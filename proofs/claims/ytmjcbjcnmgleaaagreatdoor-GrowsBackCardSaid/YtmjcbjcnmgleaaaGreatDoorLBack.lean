/-
  The law GrowsBack, walked; condition: the tables as laid.
-/
import Derived.Test.YtmjcbjcnmgleaaaGreatDoorAD1
namespace Go.Proofs.YtmjcbjcnmgleaaaGreatDoor
open Go.RowKit Go.Maps

theorem back_nums {z0 z1 wh : Int} (h0 : U8 z0) (h1 : U8 z1) (h2 : U8 wh) : ∃ up m0 n8 cc n : Nat, m0 < 3 ∧ up = m0 + 1 ∧ n8 = 8 * up ∧ cc < n8 ∧ n < up ∧ Int.tmod z0 3 = (m0 : Int) ∧ Int.tmod z1 (n8 : Int) = (cc : Int) ∧ Int.tmod wh (up : Int) = (n : Int) := by
  obtain ⟨a, b⟩ := h0
  obtain ⟨c, d⟩ := h1
  obtain ⟨e, f⟩ := h2
  have k1 := Int.emod_nonneg z1 (b := (((8 * ((z0 % 3).toNat + 1) : Nat)) : Int)) (by omega)
  have k2 := Int.emod_lt_of_pos z1 (b := (((8 * ((z0 % 3).toNat + 1) : Nat)) : Int)) (by omega)
  have k3 := Int.emod_nonneg wh (b := ((((z0 % 3).toNat + 1 : Nat)) : Int)) (by omega)
  have k4 := Int.emod_lt_of_pos wh (b := ((((z0 % 3).toNat + 1 : Nat)) : Int)) (by omega)
  refine ⟨(z0 % 3).toNat + 1, (z0 % 3).toNat, 8 * ((z0 % 3).toNat + 1), (z1 % (((8 * ((z0 % 3).toNat + 1) : Nat)) : Int)).toNat, (wh % ((((z0 % 3).toNat + 1 : Nat)) : Int)).toNat, by omega, rfl, rfl, by omega, by omega, ?_, ?_, ?_⟩
  · rw [Int.tmod_eq_emod_of_nonneg a]; omega
  · rw [Int.tmod_eq_emod_of_nonneg c]; omega
  · rw [Int.tmod_eq_emod_of_nonneg e]; omega
set_option maxRecDepth 100000 in
set_option maxHeartbeats 16000000 in
theorem back_any (z0 z1 wh lk : Int) (W : World) (hL : Lay W) (hM : LayM W) (hz0 : U8 z0) (hz1 : U8 z1) (hwh : U8 wh) (hlk : -9223372036854775808 ≤ lk ∧ lk < 9223372036854775808) :
    Calls Tryz.prog 6 #[.agg #[.int .u8 z0, .int .u8 z1], .int .u8 wh, .int .i64 lk] W fun e W' => e = .returned (.bool true) ∧ Below W.heap.size W W' := by
  obtain ⟨up, m0, n8, cc, n, hm0, hup, hn8, hcc, hnu, e0, e1, e2⟩ := back_nums hz0 hz1 hwh
  have hup3 : up ≤ 3 := by omega
  have w0 : IntKind.i64.wrap z0 = z0 := by simp [IntKind.wrap, IntKind.bits]; obtain ⟨a, b⟩ := hz0; omega
  have w1' : IntKind.i64.wrap z1 = z1 := by simp [IntKind.wrap, IntKind.bits]; obtain ⟨a, b⟩ := hz1; omega
  have w2' : IntKind.i64.wrap wh = wh := by simp [IntKind.wrap, IntKind.bits]; obtain ⟨a, b⟩ := hwh; omega
  have w3' : IntKind.i64.wrap (m0 : Int) = (m0 : Int) := by simp [IntKind.wrap, IntKind.bits]; omega
  have w4' : IntKind.i64.wrap ((m0 : Int) + 1) = (up : Int) := by simp [IntKind.wrap, IntKind.bits, IntKind.signed]; omega
  have w5' : IntKind.i64.wrap (8 * (up : Int)) = (n8 : Int) := by simp [IntKind.wrap, IntKind.bits, IntKind.signed]; omega
  have w6' : IntKind.i64.wrap (cc : Int) = (cc : Int) := by simp [IntKind.wrap, IntKind.bits, IntKind.signed]; omega
  have w7' : IntKind.i64.wrap (n : Int) = (n : Int) := by simp [IntKind.wrap, IntKind.bits, IntKind.signed]; omega
  have hn80 : ¬ (n8 : Int) = 0 := by omega
  have hup0 : ¬ (up : Int) = 0 := by omega
  have HN8 := Lib.hid hn8
  have h1W : 1 < W.heap.size := by have := hM.1; have := hL.1; omega
  have hbA : Below W.heap.size W (W.alloc (.cells #[.int .u8 z0, .int .u8 z1] 83)) := (Below.refl _ _).alloc (Nat.le_refl _) _
  have hkA : Bq W.heap.size 83 [.int .u8 z0, .int .u8 z1] (W.alloc (.cells #[.int .u8 z0, .int .u8 z1] 83)) := Bq.new W [.int .u8 z0, .int .u8 z1] _
  have hbeg := begin9_any up 0 (by omega) (W.alloc (.cells #[.int .u8 z0, .int .u8 z1] 83)) (hL.below hbA) (hM.below hbA)
  rw [show ((0 : Nat) : Int) = 0 from rfl] at hbeg
  have HBA := Lib.hid hbA
  have HKA := Lib.hid hkA
  have hmk := mkA1
  have hlt := hkA.lt
  have HLT := Lib.hid hlt
  clear hL hM hz0 hz1 hwh hn8 hup hbA hkA hlt
  go_enter Tryz.func6, Tryz.ntmps6
  go_wp2_with fail
  ((with_reducible refine hbeg.mono ?_); rintro e w2 ⟨p, b, M, rfl, hB, F, low1, hp, hb⟩)
  have HK2 := Lib.hid (HKA.out.below low1)
  have HX := Lib.hid (bks_begin (HBA.out.trans (low1.mono HBA.out.size)) F (Nat.le_trans HBA.out.size hp) (Nat.le_trans HBA.out.size hb) hup3 hB)
  have hpb : W.heap.size ≠ p ∧ W.heap.size ≠ b := by have := HLT.out; omega
  have HK2 := Lib.hid (HK2.out.below ((Below.refl w2.heap.size w2).alloc (Nat.le_refl _) (.cells act1 79)))
  clear hbeg hB F low1 hp hb HBA HKA w0 w3' w4' e0
  go_upto_region 6 with (fail)
  revert HX HK2
  generalize w2.alloc (.cells act1 79) = w3
  generalize w2.heap.size = G
  intro HX HK2
  clear hmk
  go_wp2_with fail
  go_loopw [11] (fun j wr => ∃ i : Nat, i ≤ cc ∧ j = .int .i64 (i : Int) ∧ Hid (∃ h ly M, h.length = i ∧ BkS W p b G up i h h ly M wr) ∧ Hid (Bq W.heap.size 83 [.int .u8 z0, .int .u8 z1] wr)) (fun j _ => cc - (intOf j).toNat)
  case atStart => exact ⟨0, Nat.zero_le _, rfl, Lib.hid ⟨_, _, _, rfl, HX.out⟩, HK2⟩
  case round =>
    clear HX HK2
    obtain ⟨i, hi, rfl, HX, HK⟩ := hrel
    rename World => w4
    have f0 := HK.out.cell 0
    have f1 := HK.out.cell 1
    have f2 := HK.out.free
    try simp only [List.getElem?_cons_zero, List.getElem?_cons_succ] at f0 f1
    have hge : (0 : Int) ≤ (i : Int) := by omega
    by_cases hlt : i < cc
    · have hlt' : (i : Int) < (cc : Int) := by omega
      obtain ⟨h, ly, M4, hh, Z⟩ := HX.out
      have hmade := Z.made hup3 (by have := HN8.out; omega) (by have := HN8.out; omega)
      have HZ := Lib.hid Z
      clear Z HX
      go_wp2_with fail
      ((with_reducible refine hmade.mono ?_); rintro e w5 ⟨s, g, M5, rfl, Z5, O5⟩)
      have HZ5 := Lib.hid Z5
      have HK5 := Lib.hid (HK.out.same (O5.block _ HK.out.lt hpb.1 hpb.2 (by simp)))
      clear Z5 O5 hmade HK f0 f1 f2
      go_upto_region 10 with (fail)
      have hb6 : Below w5.heap.size w5 (w5.alloc (.cells #[.int .i64 s, .int .u32 g, .bool false] 85)) := (Below.refl _ _).alloc (Nat.le_refl _) _
      have HZ6 := Lib.hid (HZ5.out.below hb6)
      have HK6 := Lib.hid (HK5.out.below hb6)
      have HR6 := Lib.hid (show Bq w5.heap.size 85 [.int .i64 s, .int .u32 g, .bool false] (w5.alloc (.cells #[.int .i64 s, .int .u32 g, .bool false] 85)) from Bq.new w5 [.int .i64 s, .int .u32 g, .bool false] _)
      clear hb6 HZ5 HK5
      revert HZ6 HK6 HR6
      generalize w5.alloc (.cells #[.int .i64 s, .int .u32 g, .bool false] 85) = w6
      generalize w5.heap.size = R
      intro HZ6 HK6 HR6
      obtain ⟨u0, u1, u2, u3, u4, u5⟩ := Bq.s3 HR6.out
      have HT := Lib.hid (HZ6.out.tw.tl (k := 0) (by decide))
      obtain ⟨c0, _, _, c9⟩ := HT.out.cells
      have HH := Lib.hid (show HRow w6 W.heap.size (ly 0).h h from HZ6.out.tw.row 0 (by decide))
      have HO := Lib.hid (HZ6.out.tw.op 0 (by decide))
      generalize (ly 0).h = vh at c0 HT HH
      have hBw : W.heap.size ≤ w6.heap.size := HZ6.out.low.size
      have hlen : h.length < 100000 := by have := HN8.out; omega
      have HA := Lib.hid (show Below w6.heap.size w6 (w6.alloc (.cells #[.int .i64 s, .int .u32 g, .bool false] 85)).drew from ((Below.refl _ _).alloc (Nat.le_refl _) _).drew)
      have HCA := Lib.hid (show Bq w6.heap.size 85 (rV (s, g)) (w6.alloc (.cells #[.int .i64 s, .int .u32 g, .bool false] 85)).drew from Bq.new _ _ _)
      have HRA := Lib.hid (HH.out.below HA.out)
      have HTA := Lib.hid (HT.out.below HA.out)
      have HKA6 := Lib.hid (HK6.out.below HA.out)
      have HLA := Lib.hid (HZ6.out.low.trans (HA.out.mono hBw))
      have hcA := (HT.out.below ((Below.refl _ _).alloc (Nat.le_refl _) (.cells #[.int .i64 s, .int .u32 g, .bool false] 85))).cells.1
      try simp only [Nat.mul_zero] at c0 hcA
      go_upto_region 12 with (fail)
      go_region_law ((refine step_append_held rfl (.tmp 67) (.tmp 69) rfl W.heap.size vh h (by simp [Act.eval]) HRA.out w6.heap.size 1 (s, g) (by simp [Act.eval]) HCA.out hlen (Nat.le_trans hBw HA.out.size) ?_; intro A' n' c' w7 hr7 hg7 hb7; have HR7 := Lib.hid hr7; have HT7 := Lib.hid (HTA.out.grown h1W HRA.out (sepr_one vh) hg7); have HG7 := Lib.hid hg7; have HB7 := Lib.hid hb7; have hc7 := HT7.out.cells; have d0 := hc7.1; have e0 := hc7.2.2.2 0; (try simp only [Nat.mul_zero] at d0); clear hr7 hg7 hb7 hc7))
      all_goals
        obtain ⟨o1, o2, o3⟩ := HO.out
        have hK7 := HKA6.out.same (HG7.out.block _ HKA6.out.lt (fun e => by
          obtain ⟨cs, kb⟩ := HRA.out.bq e.symm
          exact HKA6.out.ne kb (by decide) rfl))
        obtain ⟨gcs, gb⟩ := HT7.out.gb
        have HK8 := Lib.hid (hK7.setO (hK7.ne gb (by decide)) 0 (.slice A' n' c'))
        have hTW := (HT7.out.set0 h1W (by decide) (.slice A' n' c') (a := ⟨G, 0, none⟩) rfl).tw (by decide) (t := ⟨h ++ [(s, g)], .no⟩) (fp := []) (HR7.out.setG HT7.out rfl _) ⟨rfl, o2, o3⟩ (by simp) (sepr_one _) (sepo_one _)
        rw [thB_upd h _ rfl] at hTW
        have HZ8 := Lib.hid (show ∃ h ly M, h.length = i + 1 ∧ BkS W p b G up (i + 1) h h ly M (w7.setCell ⟨G, 0, none⟩ (.slice A' n' c')) from ⟨h ++ [(s, g)], _, _, by simp [hh], hTW, HZ6.out.idl, HZ6.out.sst, HZ6.out.st, below_onl (low_grown HLA.out HRA.out HG7.out) (Onl.setCell (p := p) (b := b) (E := [G]) w7 (by simp) 0 _) HT7.out.pB HT7.out.bB (by simp; exact HT7.out.GB)⟩)
        clear hK7 hTW gb o1 o2 o3
        go_wp2_with fail
        go_roundw
        case rel => exact ⟨i + 1, by omega, by go_num, HZ8, HK8⟩
        case measure => simp [intOf]; omega
    · have hic : i = cc := by omega
      have hle' : (cc : Int) ≤ (i : Int) := by omega
      obtain ⟨h, ly, M4, hh, Z⟩ := HX.out
      rw [hic] at hh Z
      have HZ := Lib.hid Z
      have hhc : h.length ≤ 24 := by have := HN8.out; omega
      clear Z HX hic
      go_wp2_with fail
      clear f0 f1 f2 HK
      go_loopw [15, 16] (fun jh ji wr => ∃ k a : Nat, k ≤ h.length ∧ Hid (a = hasN h (n : Int) k) ∧ a ≤ 24 ∧ jh = .int .i64 (a : Int) ∧ ji = .int .i64 (k : Int) ∧ Hid (BkS W p b G up cc h h ly M4 wr)) (fun _ ji _ => h.length - (intOf ji).toNat)
      case atStart => exact ⟨0, 0, Nat.zero_le _, Lib.hid rfl, by omega, rfl, rfl, HZ⟩
      case round =>
        clear HZ hge hle' hi hlt
        obtain ⟨k, a, hk, HN, ha, rfl, rfl, HX⟩ := hrel
        rename World => w5
        have hge : (0 : Int) ≤ (k : Int) := by omega
        obtain ⟨c0, _, _, _⟩ := (HX.out.tw.tl (k := 0) (by decide)).cells
        try simp only [Nat.mul_zero] at c0
        have hr : HRow w5 W.heap.size (ly 0).h h := HX.out.tw.row 0 (by decide)
        obtain ⟨A, c, hv, _, _⟩ := HX.out.tw.row 0 (by decide)
        rw [show (thB h 0).held = h from rfl] at hv
        rw [hv] at c0 hr
        by_cases hkl : k < h.length
        · obtain ⟨_, g, off, rfl, _, y0, _, _⟩ := hr.at_ hkl
          rw [Nat.mul_comm 3 k] at y0
          have hkl' : (k : Int) < (h.length : Int) := by omega
          have hst := hasN_step h (n : Int) hkl
          have hle := hasN_le h (n : Int) (k + 1)
          generalize (h.getD k (0, 0)).1 = z at y0 hst
          have hof := segOf_any z w5
          have haw : IntKind.i64.wrap ((a : Int) + 1) = (a : Int) + 1 := by simp [IntKind.wrap, IntKind.bits, IntKind.signed]; omega
          clear hv hr
          by_cases hz : ofS z = (n : Int)
          · rw [hz] at hof
            rw [if_pos hz, ← HN.out] at hst
            have HN2 := Lib.hid hst.symm
            have ha2 : a + 1 ≤ 24 := by omega
            clear hst hz hle
            generalize h.length = m at *
            go_wp2_with fail
            ((with_reducible refine hof.mono ?_); rintro e w6 ⟨rfl, hb6⟩)
            have HX6 := Lib.hid (HX.out.below hb6)
            clear hb6 HX hof c0 y0
            go_wp2_with fail
            go_roundw
            case rel => exact ⟨k + 1, a + 1, by omega, HN2, ha2, by go_num, by go_num, HX6⟩
            case measure => simp [intOf]; omega
          · have hz2 : ¬ ofS z = (n : Int) := hz
            rw [if_neg hz, Nat.add_zero, ← HN.out] at hst
            have HN2 := Lib.hid hst.symm
            generalize ofS z = oz at hof hz hz2
            clear hst hle
            generalize h.length = m at *
            go_wp2_with fail
            ((with_reducible refine hof.mono ?_); rintro e w6 ⟨rfl, hb6⟩)
            have HX6 := Lib.hid (HX.out.below hb6)
            clear hb6 HX hof c0 y0
            go_wp2_with fail
            go_roundw
            case rel => exact ⟨k + 1, a, by omega, HN2, ha, rfl, by go_num, HX6⟩
            case measure => simp [intOf]; omega
        · have hkl' : (h.length : Int) ≤ (k : Int) := by omega
          have hkh : k = h.length := by omega
          rw [hkh] at HN
          have HAS := Lib.hid (HN.out)
          have HL := Lib.hid (show ∃ L, L + h.length = 8 * up from ⟨8 * up - h.length, by have := HN8.out; omega⟩)
          obtain ⟨L, hL⟩ := HL.out
          have HY := Lib.hid (show BkY W p b G up n h h.length ly cc 1 w5 from ⟨_, HX.out.z hnu⟩)
          have HPOS := Lib.hid (show 0 < a → ∃ x ∈ h, ofS x.1 = (n : Int) from fun h0 => hasN_pos (by rw [← HAS.out]; exact h0))
          have HZERO := Lib.hid (show a = 0 → ∀ x ∈ h, ofS x.1 ≠ (n : Int) from fun h0 => hasN_zero (by rw [← HAS.out]; exact h0))
          have hcc99 : cc ≤ 60 := by have := HN8.out; omega
          have hlis := HY.out.listed1 hup3 (by omega) hL
          have h1W' := Lib.hid h1W
          clear hv hr hkh HAS HL HX HN
          generalize h.length = m at *
          by_cases ha : 0 < a
          · have hai : (0 : Int) < (a : Int) := by omega
            have HP := Lib.hid (HPOS.out ha)
            clear HZERO HPOS ha
            rcases (show lk < 5 ∨ lk = 5 ∨ 5 < lk by omega) with hq | rfl | hq
            all_goals
              go_wp2_with fail
              ((with_reducible refine hlis.mono ?_); rintro e w6 ⟨A6, c6, rfl, Y6⟩)
              have HY6 := Lib.hid Y6
              clear Y6 hlis HY c0 hkl hkl' hge hk
              go_wp2_with fail
              ((with_reducible refine (HY6.out.stays hup3 hnu (by omega) (.inr HP.out) (by omega)).mono ?_); rintro e w7 ⟨k7, rfl, Y7⟩)
              have HY7 := Lib.hid Y7
              clear Y7 HY6
              go_wp2_with fail
              ((with_reducible refine (HY7.out.seg hup3 hnu (by omega)).mono ?_); rintro e w8 ⟨u8, rfl, Y8⟩)
              have HY8 := Lib.hid Y8
              clear Y8 HY7
              go_wp2_with fail
              ((with_reducible refine (HY8.out.listed1 hup3 (by omega) hL).mono ?_); rintro e w9 ⟨A9, c9, rfl, Y9⟩)
              have HY9 := Lib.hid Y9
              clear Y9 HY8
              go_wp2_with fail
              ((with_reducible refine (HY9.out.settled hup3 h1W (by omega)).mono ?_); rintro e w10 ⟨rfl, Y10⟩)
              have HY10 := Lib.hid Y10
              clear Y10 HY9
              go_wp2_with fail
              ((with_reducible refine HY10.out.lives.mono ?_); rintro e w11 ⟨rfl, hb⟩)
              go_wp2_with fail
              go_ret
              exact ⟨rfl, hb⟩
          · have hai : (a : Int) ≤ 0 := by omega
            have HZ := Lib.hid (HZERO.out (by omega))
            clear HZERO HPOS ha
            by_cases hl0 : lk ≤ 0
            · have hq : lk < 5 := by omega
              all_goals
                go_wp2_with fail
                ((with_reducible refine hlis.mono ?_); rintro e w6 ⟨A6, c6, rfl, Y6⟩)
                have HY6 := Lib.hid Y6
                clear Y6 hlis HY c0 hkl hkl' hge hk
                go_wp2_with fail
                ((with_reducible refine (HY6.out.stays hup3 hnu (by omega) (.inl hl0) (by omega)).mono ?_); rintro e w7 ⟨k7, rfl, Y7⟩)
                have HY7 := Lib.hid Y7
                clear Y7 HY6
                go_wp2_with fail
                ((with_reducible refine (HY7.out.seg hup3 hnu (by omega)).mono ?_); rintro e w8 ⟨u8, rfl, Y8⟩)
                have HY8 := Lib.hid Y8
                clear Y8 HY7
                go_wp2_with fail
                ((with_reducible refine (HY8.out.listed1 hup3 (by omega) hL).mono ?_); rintro e w9 ⟨A9, c9, rfl, Y9⟩)
                have HY9 := Lib.hid Y9
                clear Y9 HY8
                go_wp2_with fail
                ((with_reducible refine (HY9.out.settled hup3 h1W (by omega)).mono ?_); rintro e w10 ⟨rfl, Y10⟩)
                have HY10 := Lib.hid Y10
                clear Y10 HY9
                go_wp2_with fail
                ((with_reducible refine HY10.out.lives.mono ?_); rintro e w11 ⟨rfl, hb⟩)
                go_wp2_with fail
                go_ret
                exact ⟨rfl, hb⟩
            · have hl1 : 0 < lk := by omega
              rcases (show lk < 5 ∨ lk = 5 ∨ 5 < lk by omega) with hq | rfl | hq
              all_goals
                go_wp2_with fail
                ((with_reducible refine hlis.mono ?_); rintro e w6 ⟨A6, c6, rfl, Y6⟩)
                have HY6 := Lib.hid Y6
                clear Y6 hlis HY c0 hkl hkl' hge hk
                go_wp2_with fail
                ((with_reducible refine (HY6.out.goes hup3 hnu (by omega) HZ.out (by omega)).mono ?_); rintro e w7 ⟨k7, rfl, Y7⟩)
                obtain ⟨L8, hL8⟩ := Y7.l8 hup3 hnu
                have HY7 := Lib.hid Y7
                have hw8 : IntKind.i64.wrap ((L : Int) - 8) = (L8 : Int) := by simp [IntKind.wrap, IntKind.bits, IntKind.signed]; omega
                clear Y7 HY6
                go_wp2_with fail
                ((with_reducible refine (HY7.out.seg hup3 hnu (by omega)).mono ?_); rintro e w8 ⟨u8, rfl, Y8⟩)
                have HY8 := Lib.hid Y8
                clear Y8 HY7
                go_wp2_with fail
                ((with_reducible refine (HY8.out.listed0 hup3 hnu (by omega) hL8).mono ?_); rintro e w9 ⟨A9, c9, rfl, Y9⟩)
                have HY9 := Lib.hid Y9
                clear Y9 HY8
                go_wp2_with fail
                ((with_reducible refine (HY9.out.settled hup3 h1W (by omega)).mono ?_); rintro e w10 ⟨rfl, Y10⟩)
                have HY10 := Lib.hid Y10
                clear Y10 HY9
                go_wp2_with fail
                ((with_reducible refine (HY10.out.none_ hup3 hnu (by omega) (by omega)).mono ?_); rintro e w11 ⟨k11, rfl, Y11⟩)
                have HY11 := Lib.hid Y11
                clear Y11 HY10
                go_wp2_with fail
                ((with_reducible refine (HY11.out.comes hup3 hnu (by omega)).mono ?_); rintro e w12 ⟨k12, rfl, Y12⟩)
                have HY12 := Lib.hid Y12
                clear Y12 HY11
                go_wp2_with fail
                ((with_reducible refine (HY12.out.same_ hup3 hnu (by omega)).mono ?_); rintro e w13 ⟨k13, rfl, Y13⟩)
                have HY13 := Lib.hid Y13
                clear Y13 HY12
                go_wp2_with fail
                ((with_reducible refine (HY13.out.listed1 hup3 (by omega) hL).mono ?_); rintro e w14 ⟨A14, c14, rfl, Y14⟩)
                have HY14 := Lib.hid Y14
                clear Y14 HY13
                go_wp2_with fail
                ((with_reducible refine (HY14.out.settled hup3 h1W (by omega)).mono ?_); rintro e w15 ⟨rfl, Y15⟩)
                have HY15 := Lib.hid Y15
                clear Y15 HY14
                go_wp2_with fail
                ((with_reducible refine HY15.out.lives.mono ?_); rintro e w16 ⟨rfl, hb⟩)
                go_wp2_with fail
                go_ret
                exact ⟨rfl, hb⟩
end Go.Proofs.YtmjcbjcnmgleaaaGreatDoor
