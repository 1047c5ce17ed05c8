/-
  The law SnapsMoved, walked: it returns true and only makes memory of its own; condition: the table as laid, the threads lie as they say.
-/
import Derived.Test.YtapcgikamldchaaDoorSP4
import Derived.Deep.DeepCutAuto
import Derived.Deep.RegionHeld3
import Derived.BigQuiet
namespace Go.Proofs.YtapcgikamldchaaDoor
open Go.RowKit Go.Maps

set_option maxRecDepth 100000 in
set_option maxHeartbeats 16000000 in
theorem smoved_good (A0 : Option Addr) (n c0 : Nat) (xs : List TH) (z0 z1 wv zt : Int) (W : World) (hM : LayM W) (hx : SeeH W (.slice A0 n c0) xs) (hok : ∀ t ∈ xs, t.ok) (hn0 : 1 ≤ n) (hn : n ≤ 16) (hz0 : 0 ≤ z0 ∧ z0 < 256) (hz1 : 0 ≤ z1 ∧ z1 < 256) (hzt : 0 ≤ zt ∧ zt < 256) (hwv : U64 wv) :
    Calls Tryd.prog 6 #[.agg #[.slice A0 n c0, .int .u8 z0, .int .u8 z1, .int .u64 wv, .int .u8 zt]] W fun e W' => e = .returned (.bool true) ∧ Below W.heap.size W W' := by
  have hW0 : 0 < W.heap.size := hM.1
  have hb0 : Below W.heap.size W (W.alloc (.cells #[.slice A0 n c0, .int .u8 z0, .int .u8 z1, .int .u64 wv, .int .u8 zt] 71)) := (Below.refl _ _).alloc (Nat.le_refl _) _
  have HM := Lib.hid (hM.below hb0)
  have HX := Lib.hid hx
  have HN := Lib.hid hx.len
  have HOK := Lib.hid hok
  have HQ := Lib.hid (Bq.new W [.slice A0 n c0, .int .u8 z0, .int .u8 z1, .int .u64 wv, .int .u8 zt] 71)
  have HB := Lib.hid hb0
  have q1 : ¬ ((n : Int) = 0) := by omega
  have q2 : ¬ ((16 : Int) < (n : Int)) := by omega
  have q3 : (n : Int) ≤ 16 := by omega
  have q4 : (1 : Int) ≤ (n : Int) := by omega
  clear hM hx hok hb0
  go_enter Tryd.func6, Tryd.ntmps6
  go_upto_region 5 with (fail)
  revert HM HQ HB
  generalize W.alloc (.cells #[.slice A0 n c0, .int .u8 z0, .int .u8 z1, .int .u64 wv, .int .u8 zt] 71) = w1
  intro HM HQ HB
  generalize hYY : W.heap.size = Y at HQ ⊢
  clear hYY
  go_wp2_with fail
  go_loopw [5] (fun j wr => ∃ i : Nat, i ≤ n ∧ j = .int .i64 (i : Int) ∧ (∀ k, k < i → (xs.getD k TH.zero).o ≠ 0) ∧ wr = w1) (fun j _ => n - (intOf j).toNat)
  case atStart => exact ⟨0, Nat.zero_le _, rfl, by intro k hk; omega, rfl⟩
  case round =>
    obtain ⟨i, hi, rfl, hown, rfl⟩ := hrel
    have HO := Lib.hid hown
    clear hown
    have hi0 : (0 : Int) ≤ (i : Int) := by omega
    by_cases hin : i < n
    · have hin' : (i : Int) < (n : Int) := by omega
      obtain ⟨hc0, hc1, g0, off0, rfl⟩ := HX.out.addr (by omega)
      have y0 := ((HX.out.below HB.out).ten (j := i) (by have := HN.out; omega)).1
      obtain ⟨t, ht⟩ : ∃ t, xs.getD i TH.zero = t := ⟨_, rfl⟩
      have HT := Lib.hid ht
      rw [ht, TH.get_o] at y0
      clear ht
      by_cases hto : t.o = 0
      · have HHB := Lib.hid HB.out
        rw [hto] at y0
        go_wp2_with fail
        ((with_reducible refine (lives14_any HM.out).mono ?_); rintro e w2 ⟨rfl, hb2⟩)
        have HZ := Lib.hid (HB.out.trans (hb2.mono HB.out.size))
        clear hb2
        go_wp2_with fail
        go_ret
        exact ⟨rfl, HZ.out⟩
      · have HR := Lib.hid (show ∀ k, k < i + 1 → (xs.getD k TH.zero).o ≠ 0 from fun k hk => by
          rcases Nat.lt_or_ge k i with h9 | h9
          · exact HO.out k h9
          · obtain rfl : k = i := by omega
            rw [HT.out]
            exact hto)
        go_wp2_with fail
        go_roundw
        case rel => exact ⟨i + 1, by omega, by go_num, HR.out, by first | rfl | trivial⟩
        case measure => simp [intOf]; omega
    · have hin2 : i = n := by omega
      have hnl : ¬ (i : Int) < (n : Int) := by omega
      have HOW := Lib.hid (show ∀ k, k < n → (xs.getD k TH.zero).o ≠ 0 from hin2 ▸ HO.out)
      clear HO hin2
      go_wp2_with fail
      ((with_reducible refine (new_vx HM.out).mono ?_); rintro e w2 ⟨p, b, M0, rfl, f1, v1, s1, b1, hb1, hp1⟩)
      have HF1 := Lib.hid f1
      have HB1 := Lib.hid (HB.out.trans (b1.mono HB.out.size))
      have HV1 := Lib.hid v1
      have HS1 := Lib.hid s1
      have hsz := HB.out.size
      have hpb : W.heap.size ≤ p ∧ W.heap.size ≤ b := ⟨by omega, by omega⟩
      have hs1 : M0.s.st < 900000 := by rw [s1]; decide
      have HQ1 := Lib.hid (HQ.out.below b1)
      clear f1 v1 s1 b1 hb1 hp1 hsz HM HQ HB
      go_upto_region 12 with (fail)
      obtain ⟨bk, hbk⟩ : ∃ bk : Int, ((n : Int) + 3) / 4 = bk := ⟨_, rfl⟩
      rw [hbk]
      have hbkr : (0 ≤ bk ∧ bk ≤ 4) ∧ (4 * bk < n + 4 ∧ (n : Int) ≤ 4 * bk) ∧ (0 ≤ bk ∧ bk < 256) := by omega
      have HBK := Lib.hid hbkr
      clear hbk hbkr
      go_wp2_with fail
      ((with_reducible refine (lay_all HF1.out hs1 HB1.out hpb HX.out HOK.out hn HBK.out.2.2).mono ?_); rintro e w3 ⟨rfl, M, f3, l3, s3, o3⟩)
      rw [HV1.out] at l3
      rw [HS1.out] at s3
      obtain ⟨n1, n2⟩ := HF1.out.ne (by decide) HQ1.out
      have HQ3 := Lib.hid (HQ1.out.same (o3.block Y HQ1.out.lt n1 n2 (by simp)))
      have HF3 := Lib.hid f3
      have HL3 := Lib.hid l3
      have HS3 := Lib.hid s3
      have HB3 := Lib.hid (HB1.out.trans (o3.below hpb.1 hpb.2 (by simp) HB1.out.size))
      have x1 := HQ3.out.cell 1
      have x2 := HQ3.out.cell 2
      have x4 := HQ3.out.cell 4
      simp only [List.getElem?_cons_zero, List.getElem?_cons_succ] at x1 x2 x4
      clear n1 n2 f3 l3 s3 o3 HF1 HQ1 HB1 HV1 HS1 hs1
      go_upto_region 16 with (fail)
      clear x1 x2 x4
      obtain ⟨who, hwho⟩ : ∃ who : Nat, z0 % (n : Int) = (who : Int) := ⟨(z0 % (n : Int)).toNat, by have := Int.emod_nonneg z0 (show (n : Int) ≠ 0 by omega); omega⟩
      obtain ⟨fi, hfi⟩ : ∃ fi : Nat, 1 + z1 % 9 = (fi : Int) := ⟨(1 + z1 % 9).toNat, by omega⟩
      obtain ⟨h, hh⟩ : ∃ h : Nat, zt % (1 + 10 * (n : Int)) = (h : Int) := ⟨(zt % (1 + 10 * (n : Int))).toNat, by have := Int.emod_nonneg zt (show (1 + 10 * (n : Int)) ≠ 0 by omega); omega⟩
      rw [hwho, hfi, hh]
      have hwho9 : who < n := by have := Int.emod_lt_of_pos z0 (show (0 : Int) < (n : Int) by omega); omega
      have hfi9 : 1 ≤ fi ∧ fi < 10 := by omega
      have hh9 : h < 1 + 10 * n := by have := Int.emod_lt_of_pos zt (show (0 : Int) < 1 + 10 * (n : Int) by omega); omega
      have HMV := Lib.hid (show Mov M.V xs bk wv n who fi h from ⟨HL3.out, HN.out, hn0, hn, HBK.out.1, HBK.out.2.1, HOW.out, hwho9, hfi9, hh9⟩)
      clear hwho hfi hh
      obtain ⟨R, hR⟩ : ∃ R, R = movR M.V (setV M.V (adT (who : Int) (fi : Int)) wv) h := ⟨_, rfl⟩
      have HR := Lib.hid hR
      have hbk4 := HBK.out.1
      have hR0 : R 0 adN = bk := by rw [hR]; exact HMV.out.zero
      have HR0 := Lib.hid hR0
      have hR00 : 0 ≤ R 0 adN := by omega
      have HR00 := Lib.hid hR00
      clear hR hR0 hR00
      have hst : 0 ≤ M.s.st ∧ M.s.st ≤ 200 := by have := HS3.out; omega
      have hw3 : 0 < w3.heap.size := by have := HB3.out.size; omega
      have g1 : (0 : Int) ≤ (who : Int) := by omega
      have g2 : (who : Int) < 16 := by omega
      have g3 : (0 : Int) ≤ (fi : Int) := by omega
      have g4 : (fi : Int) < 10 := by omega
      have g5 : (0 : Int) ≤ (h : Int) := by omega
      have g6 : (h : Int) < 162 := by omega
      have ha := adT_at (t := (who : Int)) (f := (fi : Int)) ⟨g1, g2⟩ ⟨g3, g4⟩
      go_wp2_with fail
      ((with_reducible refine (newT_all w3).mono ?_); rintro e w4 ⟨q, P0, rfl, hq, hP, hb⟩)
      have HT := Lib.hid (TA.new (W := w3) (R := R) (V := M.V) HF3.out rfl rfl (.refl _) hw3 hq hP hb)
      clear hq hP hb
      go_wp2_with fail
      go_loopw [12] (fun j wr => ∃ (k : Nat) (P : List Nat) (s : SG) (t0 : Int), j = .int .i64 (k : Int) ∧ k ≤ 161 ∧ Hid ((0 ≤ t0 ∧ (t0 ≤ 300 ∨ (h < k ∧ t0 ≤ 301))) ∧ TA w3 p b q k P R (if h < k then setV M.V (adT (who : Int) (fi : Int)) wv else M.V) t0 s wr)) (fun j _ => 200 - (intOf j).toNat)
      case atStart => exact ⟨0, P0, SG.new, M.s.st, rfl, by decide, Lib.hid ⟨⟨by omega, .inl (by omega)⟩, by rw [if_neg (by omega)]; exact HT.out⟩⟩
      case round =>
        obtain ⟨k, P, s, t0, rfl, hk, HA⟩ := hrel
        rename World => wr
        clear HT
        have hk0 : (0 : Int) ≤ (k : Int) := by omega
        have hk2 : (k : Int) < 200 := by omega
        by_cases hns : s.ln = 0
        · have HNN := Lib.hid hns
          have hd := decide_eq_true hns
          have HD := Lib.hid hd
          clear hd hns
          go_wp2_with fail
          ((with_reducible refine (overT_all HA.out.2.prg).mono ?_); rintro e w5 ⟨rfl, hb⟩)
          rw [HD.out]
          have HA5 := Lib.hid (HA.out.2.below hb)
          clear hb HA
          go_wp2_with fail
          ((with_reducible refine (gotT_all HA5.out.inv HA5.out.prg).mono ?_); rintro e w6 ⟨A, rfl, ho, hb⟩)
          have hg : gotL s = s.l := if_pos HNN.out
          rw [hg] at ho ⊢
          obtain ⟨c, hc1, hc2, hc3⟩ := HA5.out.run.last HNN.out
          rw [HR0.out] at hc1
          have hcb : (c : Int) = 4 * bk := by omega
          obtain ⟨L, hL⟩ : ∃ L, L = s.l := ⟨_, rfl⟩
          have hLl : L.length = c := by rw [hL, hc2, lst_len]
          rw [← hL] at ho hc2 ⊢
          rw [hLl] at ho ⊢
          have HLL := Lib.hid hc2
          have HCL := Lib.hid hLl
          have HA6 := Lib.hid (HA5.out.below hb)
          have hbx : Below w6.heap.size w6 (w6.alloc (.cells #[.slice A c c, .int .u64 0] 36)) := (Below.refl _ _).alloc (Nat.le_refl _) _
          have HA7 := Lib.hid (HA6.out.below hbx)
          have HR7 := Lib.hid (ho.below hbx)
          have HX7 := Lib.hid (Bq.new w6 [.slice A c c, .int .u64 0] 36)
          clear ho hb hg hc1 hc2 hc3 hL hLl hbx HA5 HA6
          go_upto_region 24 with (fail)
          revert HA7 HR7 HX7
          generalize w6.alloc (.cells #[.slice A c c, .int .u64 0] 36) = w7
          intro HA7 HR7 HX7
          generalize w6.heap.size = X at *
          go_wp2_with fail
          ((with_reducible refine (overT_all HA7.out.prg).mono ?_); rintro e w8 ⟨rfl, hb⟩)
          rw [HD.out]
          have HA8 := Lib.hid (HA7.out.below hb)
          have HR8 := Lib.hid (HR7.out.below hb)
          have HX8 := Lib.hid (HX7.out.below hb)
          have HM8 := Lib.hid (show LayM w8 by obtain ⟨_, _, _, k9⟩ := HA8.out.mem; exact k9.laym)
          have HB8 := Lib.hid (HB3.out.trans (HA8.out.low.below hpb.1 hpb.2 (by simp) HB3.out.size))
          have hX8 := HX8.out.cell 0
          dsimp only [List.getElem?_cons_zero] at hX8
          have wb4 : IntKind.i64.wrap (4 * bk) = (c : Int) := by rw [← hcb]; simp [IntKind.wrap, IntKind.bits, IntKind.signed]; omega
          have hcn : n ≤ c := by have := HBK.out.2.1; omega
          clear hb HA7 HR7 HX7 HA8
          go_wp2_with fail
          clear hX8 wb4
          go_loopw [14] (fun j wr => ∃ i : Nat, i ≤ n ∧ j = .int .i64 (i : Int) ∧ Hid (Below w8.heap.size w8 wr)) (fun j _ => n - (intOf j).toNat)
          case atStart => exact ⟨0, Nat.zero_le _, rfl, Lib.hid (Below.refl _ _)⟩
          case round =>
            obtain ⟨i, hi, rfl, HH⟩ := hrel
            rename World => w20
            have hi0 : (0 : Int) ≤ (i : Int) := by omega
            by_cases hin : i < n
            · have hin' : (i : Int) < (n : Int) := by omega
              go_wp2_with fail
              go_loopw [15] (fun j w2 => ∃ f : Nat, f ≤ 10 ∧ j = .int .i64 (f : Int) ∧ Hid (Below w8.heap.size w8 w2)) (fun j _ => 10 - (intOf j).toNat)
              case atStart => exact ⟨0, Nat.zero_le _, rfl, HH⟩
              case round =>
                clear HH
                obtain ⟨f, hf, rfl, HK⟩ := hrel
                rename World => w2
                have hf0 : (0 : Int) ≤ (f : Int) := by omega
                by_cases hfl : f < 10
                · have hfl' : (f : Int) < 10 := by omega
                  have hthr := HMV.out.thr (i := i) (f := f) hin hfl
                  rw [← HR.out, ← lst_at (R := R) (n := c) (by omega : i < c), ← HLL.out] at hthr
                  obtain ⟨t, ht⟩ : ∃ t, xs.getD i TH.zero = t := ⟨_, rfl⟩
                  obtain ⟨u, hu⟩ : ∃ u, L.getD i TH.zero = u := ⟨_, rfl⟩
                  rw [ht, hu] at hthr
                  have HTH := Lib.hid hthr
                  have HUU := Lib.hid hu
                  obtain ⟨hc0, hc1, g0, off0, rfl⟩ := HX.out.addr (by omega)
                  obtain ⟨y0, y1, y2, y3, y4, y5, y6, y7, y8, y9⟩ := (HX.out.below (HB8.out.trans (HK.out.mono HB8.out.size))).ten (j := i) (by have := HN.out; omega)
                  rw [ht] at y0 y1 y2 y3 y4 y5 y6 y7 y8 y9
                  clear hthr ht hu
                  go_wp2_with fail
                  ((with_reducible refine (wordT_any t f hfl w2).mono ?_); rintro e w9 ⟨rfl, hb9⟩)
                  have Ha := Lib.hid (HK.out.trans (hb9.mono HK.out.size))
                  have hX9 := (HX8.out.below Ha.out).cell 0
                  dsimp only [List.getElem?_cons_zero] at hX9
                  obtain ⟨A8, C8, he8, h81, h82, hA8⟩ := HR8.out.slice
                  injection he8 with he81 he82 he83
                  subst he81 he83
                  obtain ⟨g9, rfl⟩ := hA8 (by have := HCL.out; omega)
                  obtain ⟨m0, m1, m2, m3, m4, m5, m6, m7, m8, m9⟩ := (HR8.out.below Ha.out).see.ten (j := i) (by have := HCL.out; omega)
                  rw [HUU.out] at m0 m1 m2 m3 m4 m5 m6 m7 m8 m9
                  simp only [Nat.zero_add] at m0 m1 m2 m3 m4 m5 m6 m7 m8 m9
                  have hic : (i : Int) < (c : Int) := by omega
                  clear hb9 y0 y1 y2 y3 y4 y5 y6 y7 y8 y9 he82 h81 h82 hA8 HK
                  by_cases e1 : i = who
                  · obtain rfl : i = who := e1
                    by_cases e2 : f = fi
                    · obtain rfl : f = fi := e2
                      by_cases e3 : h ≤ 1 + 10 * i + f
                      · have e3' : (h : Int) ≤ 1 + 10 * (i : Int) + (f : Int) := by omega
                        have hq : u.get f = wv := by rw [HTH.out, if_pos ⟨e3, rfl, rfl⟩]
                        have HQ9 := Lib.hid hq
                        clear hq
                        go_wp2_with fail
                        ((with_reducible refine (wordT_any u f hfl w9).mono ?_); rintro e wb ⟨rfl, hbb⟩)
                        rw [HQ9.out]
                        have Hb := Lib.hid (Ha.out.trans (hbb.mono Ha.out.size))
                        clear hbb m0 m1 m2 m3 m4 m5 m6 m7 m8 m9 hX9
                        go_wp2_with fail
                        go_roundw
                        case rel => exact ⟨f + 1, by omega, by go_num, Hb⟩
                        case measure => simp [intOf]; omega
                      · have e3' : ¬ (h : Int) ≤ 1 + 10 * (i : Int) + (f : Int) := by omega
                        have hq : u.get f = t.get f := by rw [HTH.out, if_neg (fun k => e3 k.1)]
                        have HQ9 := Lib.hid hq
                        clear hq
                        go_wp2_with fail
                        ((with_reducible refine (wordT_any u f hfl w9).mono ?_); rintro e wb ⟨rfl, hbb⟩)
                        rw [HQ9.out]
                        have Hb := Lib.hid (Ha.out.trans (hbb.mono Ha.out.size))
                        clear hbb m0 m1 m2 m3 m4 m5 m6 m7 m8 m9 hX9
                        go_wp2_with fail
                        go_roundw
                        case rel => exact ⟨f + 1, by omega, by go_num, Hb⟩
                        case measure => simp [intOf]; omega
                    · have e2' : ¬ (f : Int) = (fi : Int) := by omega
                      have hq : u.get f = t.get f := by rw [HTH.out, if_neg (fun k => e2 k.2.2)]
                      have HQ9 := Lib.hid hq
                      clear hq
                      go_wp2_with fail
                      ((with_reducible refine (wordT_any u f hfl w9).mono ?_); rintro e wb ⟨rfl, hbb⟩)
                      rw [HQ9.out]
                      have Hb := Lib.hid (Ha.out.trans (hbb.mono Ha.out.size))
                      clear hbb m0 m1 m2 m3 m4 m5 m6 m7 m8 m9 hX9
                      go_wp2_with fail
                      go_roundw
                      case rel => exact ⟨f + 1, by omega, by go_num, Hb⟩
                      case measure => simp [intOf]; omega
                  · have e1' : ¬ (i : Int) = (who : Int) := by omega
                    have hq : u.get f = t.get f := by rw [HTH.out, if_neg (fun k => e1 k.2.1)]
                    have HQ9 := Lib.hid hq
                    clear hq
                    go_wp2_with fail
                    ((with_reducible refine (wordT_any u f hfl w9).mono ?_); rintro e wb ⟨rfl, hbb⟩)
                    rw [HQ9.out]
                    have Hb := Lib.hid (Ha.out.trans (hbb.mono Ha.out.size))
                    clear hbb m0 m1 m2 m3 m4 m5 m6 m7 m8 m9 hX9
                    go_wp2_with fail
                    go_roundw
                    case rel => exact ⟨f + 1, by omega, by go_num, Hb⟩
                    case measure => simp [intOf]; omega
                · obtain rfl : f = 10 := by omega
                  have hnl : ¬ ((10 : Nat) : Int) < 10 := by omega
                  go_wp2_with fail
                  go_roundw
                  case rel => exact ⟨i + 1, by omega, by go_num, HK⟩
                  case measure => simp [intOf]; omega
            · have hnl : ¬ (i : Int) < (n : Int) := by omega
              have HBZ := Lib.hid (HB8.out.trans (HH.out.mono HB8.out.size))
              have HMZ := Lib.hid (HM8.out.below HH.out)
              clear HH
              go_wp2_with fail
              ((with_reducible refine (lives14_any HMZ.out).mono ?_); rintro e w10 ⟨rfl, hb10⟩)
              have HZ := Lib.hid (HBZ.out.trans (hb10.mono HBZ.out.size))
              clear hb10
              go_wp2_with fail
              go_ret
              exact ⟨rfl, HZ.out⟩
        · have hnn : decide (s.ln = 0) = false := decide_eq_false hns
          have HD := Lib.hid hnn
          have HNN := Lib.hid hns
          clear hnn hns
          go_wp2_with fail
          ((with_reducible refine (overT_all HA.out.2.prg).mono ?_); rintro e w5 ⟨rfl, hb⟩)
          rw [HD.out]
          have HA5 := Lib.hid (HA.out.2.below hb)
          have ht0 := HA.out.1
          have HT0 := Lib.hid ht0
          have HK := Lib.hid (HA.out.2.inv.le HNN.out)
          clear hb HA
          by_cases hkh : k = h
          · subst hkh
            have hm5 := HA5.out
            rw [if_neg (by omega)] at hm5
            have HM5 := Lib.hid hm5
            have hlt : t0 + (k : Int) < 1000000 := by omega
            clear hm5 HA5
            go_wp2_with fail
            ((with_reducible refine (HM5.out.store hlt ha hwv).mono ?_); rintro e w6 ⟨rfl, h6⟩)
            have HA6 := Lib.hid h6
            have hRk : R k = setV M.V (adT (who : Int) (fi : Int)) wv := by rw [HR.out]; exact if_pos (Nat.le_refl _)
            have HRK := Lib.hid hRk
            have ht1 : 0 ≤ t0 + 1 ∧ t0 + 1 < 900000 := by omega
            clear h6 HM5 hRk
            go_wp2_with fail
            ((with_reducible refine (HA6.out.step HNN.out HRK.out HR00.out ht1).mono ?_); rintro e w7 ⟨rfl, P', h7⟩)
            have HA7 := Lib.hid h7
            clear h7 HA6
            go_wp2_with fail
            go_roundw
            case rel => exact ⟨k + 1, P', _, t0 + 1, by go_num, by have := HK.out; omega, Lib.hid ⟨by have := HT0.out; exact ⟨by omega, .inr ⟨by omega, by omega⟩⟩, by rw [if_pos (by omega)]; exact HA7.out⟩⟩
            case measure => simp [intOf]; omega
          · have hkh' : ¬ (k : Int) = (h : Int) := by omega
            obtain ⟨V9, hV9⟩ : ∃ V9, V9 = (if h < k then setV M.V (adT (who : Int) (fi : Int)) wv else M.V) := ⟨_, rfl⟩
            have hRk : R k = V9 := by
              rw [HR.out, hV9]
              unfold movR
              by_cases h9 : h < k
              · rw [if_pos (by omega), if_pos h9]
              · rw [if_neg (by omega), if_neg h9]
            have HRK := Lib.hid hRk
            have HV9 := Lib.hid (show V9 = (if h < k + 1 then setV M.V (adT (who : Int) (fi : Int)) wv else M.V) by
              rw [hV9]
              by_cases h9 : h < k
              · rw [if_pos h9, if_pos (by omega)]
              · rw [if_neg h9, if_neg (by omega)])
            rw [← hV9] at HA5
            have ht1 : 0 ≤ t0 ∧ t0 < 900000 := by omega
            clear hRk hV9
            go_wp2_with fail
            ((with_reducible refine (HA5.out.step HNN.out HRK.out HR00.out ht1).mono ?_); rintro e w7 ⟨rfl, P', h7⟩)
            have HA7 := Lib.hid h7
            clear h7 HA5
            go_wp2_with fail
            go_roundw
            case rel => exact ⟨k + 1, P', _, t0, by go_num, by have := HK.out; omega, Lib.hid ⟨by have := HT0.out; exact ⟨by omega, by omega⟩, by rw [← HV9.out]; exact HA7.out⟩⟩
            case measure => simp [intOf]; omega
set_option maxRecDepth 100000 in
set_option maxHeartbeats 4000000 in
theorem smoved_long (A0 : Option Addr) (n c0 : Nat) (z0 z1 wv zt : Int) (W : World) (hM : LayM W) (h : ¬ (1 ≤ n ∧ n ≤ 16)) :
    Calls Tryd.prog 6 #[.agg #[.slice A0 n c0, .int .u8 z0, .int .u8 z1, .int .u64 wv, .int .u8 zt]] W fun e W' => e = .returned (.bool true) ∧ Below W.heap.size W W' := by
  have hb0 : Below W.heap.size W (W.alloc (.cells #[.slice A0 n c0, .int .u8 z0, .int .u8 z1, .int .u64 wv, .int .u8 zt] 71)) := (Below.refl _ _).alloc (Nat.le_refl _) _
  have HM := Lib.hid (hM.below hb0)
  have HB := Lib.hid hb0
  clear hM hb0
  by_cases h0 : n = 0
  · subst h0
    go_enter Tryd.func6, Tryd.ntmps6
    go_wp2_with fail
    ((with_reducible refine (lives14_any HM.out).mono ?_); rintro e w1 ⟨rfl, hb⟩)
    have HZ := Lib.hid (HB.out.trans (hb.mono HB.out.size))
    clear hb
    go_wp2_with fail
    go_ret
    exact ⟨rfl, HZ.out⟩
  · have q1 : ¬ ((n : Int) = 0) := by omega
    have q2 : (16 : Int) < (n : Int) := by omega
    clear h h0
    go_enter Tryd.func6, Tryd.ntmps6
    go_wp2_with fail
    ((with_reducible refine (lives14_any HM.out).mono ?_); rintro e w1 ⟨rfl, hb⟩)
    have HZ := Lib.hid (HB.out.trans (hb.mono HB.out.size))
    clear hb
    go_wp2_with fail
    go_ret
    exact ⟨rfl, HZ.out⟩
end Go.Proofs.YtapcgikamldchaaDoor
