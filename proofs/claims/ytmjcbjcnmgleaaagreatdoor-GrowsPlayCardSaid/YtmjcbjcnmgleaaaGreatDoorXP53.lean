/-
  The law GrowsPlay, walked: it returns true and only makes memory of its own; condition: the tables as laid, the acts and the first words lie as they say.
-/
import Derived.Test.YtmjcbjcnmgleaaaGreatDoorXP50
import Derived.Test.YtmjcbjcnmgleaaaGreatDoorXP32
import Derived.Test.YtmjcbjcnmgleaaaGreatDoorXP52
namespace Go.Proofs.YtmjcbjcnmgleaaaGreatDoor
open Go.RowKit Go.Maps
theorem cells_newP (w : World) (xs : List Value) (t : TypeId) : ∀ j u, xs[j]? = some u → (w.alloc (.cells xs.toArray t)).cell? ((⟨w.heap.size, 0, none⟩ : Addr).add j) = some u := by
  intro j u hj
  by_cases h : j = 0
  · subst h
    simp [Addr.add, hj]
  · simp [Addr.add, h, hj]
theorem u8_wrapP {k : Nat} (h : k < 256) : IntKind.u8.wrap (k : Int) = (k : Int) := by simp [IntKind.wrap, IntKind.bits, IntKind.signed]; omega
theorem own_sliceP {w : World} {base : Nat} {e : TypeId} {size : Nat} {v : Value} {n : Nat} {xs : List Value} (h : w.ownsRow base e size v n xs) : ∃ A c, v = .slice A n c ∧ n ≤ c ∧ c ≤ 9223372036854775807 ∧ (0 < n → ∃ g, A = some ⟨g, 0, none⟩) := by
  rcases h.2 with ⟨rfl, rfl⟩ | ⟨g, cap, cur, rfl, _, _, hc, hm, _⟩
  · exact ⟨none, 0, rfl, Nat.le_refl _, by omega, fun h => by omega⟩
  · exact ⟨_, cap, rfl, hc, by unfold maxLen at hm; exact hm, fun _ => ⟨g, rfl⟩⟩
theorem JO.cells_ptr (x : JO) : ∃ a0 a1 a2 : Option Addr, x.cells = [.pointer a0, .pointer a1, .pointer a2] := by
  unfold JO.cells
  split <;> exact ⟨_, _, _, rfl⟩
theorem i64_of9 {a : Int} (h : (Lit.int .i64 a).wf = true) : -9223372036854775808 ≤ a ∧ a < 9223372036854775808 := by
  simp [Lit.wf, IntKind.min, IntKind.max, IntKind.signed, IntKind.bits] at h
  omega
set_option maxRecDepth 100000 in
set_option maxHeartbeats 16000000 in
theorem play_list (g off cap nn : Nat) (c : Nat → AcP) (ao1 : Option Addr) (cap1 nn1 : Nat) (W : World) (hL : Lay W) (hM : LayM W) (hc : ActCells W g off c nn) (hn : nn ≤ 100) (hn1 : nn1 ≤ 300)
    (hbeg : Calls Tryz.prog 8 #[.slice ao1 nn1 cap1] W fun e W' => ∃ p m b, e = .returned (.agg #[.pointer (some ⟨p, 0, none⟩), .pointer (some ⟨b, 0, none⟩)]) ∧ Both p m b nn1 W' ∧ W.heap.size ≤ m ∧ m < p ∧ p < b ∧ Below W.heap.size W W') :
    Calls Tryz.prog 3 #[.slice (some ⟨g, off, none⟩) nn cap, .slice ao1 nn1 cap1] W fun e W' => e = .returned (.bool true) ∧ Below W.heap.size W W' := by
  obtain ⟨i2, hi2, hy0, hy1, hy2⟩ := info_parts infoJ
  have h1W : 1 < W.heap.size := by have := hM.1; have := hL.1; omega
  have HL := Lib.hid hL
  have HM := Lib.hid hM
  have HC := Lib.hid hc
  have HBG := Lib.hid hbeg
  have hn' : ¬ ((100 : Int) < (nn : Int)) := by omega
  have hn2 : (nn : Int) ≤ 100 := by omega
  have hn3 : ¬ ((300 : Int) < (nn1 : Int)) := by omega
  have hn4 : (nn1 : Int) ≤ 300 := by omega
  clear hL hM hc hbeg
  go_enter Tryz.func3, Tryz.ntmps3
  go_wp2_with fail
  (refine (HBG.out).mono ?_; rintro e w1 ⟨p, m, b, rfl, hB1, hWm, hmp, hpb, hb1⟩)
  have hX : Below w1.heap.size w1 (w1.alloc (.cells #[.pointer (some ⟨p, 0, none⟩), .pointer (some ⟨b, 0, none⟩)] 28)) := (Below.refl _ _).alloc (Nat.le_refl _) _
  have HS := Lib.hid (show PS W p m b w1.heap.size (300 + 16 * 0) [] (.slice none 0 0) (w1.alloc (.cells #[.pointer (some ⟨p, 0, none⟩), .pointer (some ⟨b, 0, none⟩)] 28)) from
    ⟨(hB1.mono (by omega)).below hX, (HL.out.below hb1).below hX, (HM.out.below hb1).below hX, hb1.trans (hX.mono hb1.size), hWm, Bq.new _ _ _, World.ownsRow_nil _ _ _ _, by simp, by simp⟩)
  clear hB1 hb1 hX HBG
  go_wp2_with fail
  revert HS
  generalize w1.alloc (.cells #[.pointer (some ⟨p, 0, none⟩), .pointer (some ⟨b, 0, none⟩)] 28) = w2
  intro HS
  generalize w1.heap.size = T0 at *
  go_loopw [6, 7] (fun v j wr => ∃ i : Nat, ∃ rows : List JO, i ≤ nn ∧ j = .int .i64 (i : Int) ∧ Hid (rows.length ≤ i ∧ PS W p m b T0 (300 + 16 * i) rows v wr)) (fun _ j _ => nn - (intOf j).toNat)
  case atStart => exact ⟨0, [], Nat.zero_le _, rfl, Lib.hid ⟨Nat.le_refl _, HS.out⟩⟩
  case round =>
    clear HS
    obtain ⟨i, rows, hi, rfl, hst⟩ := hrel
    have hge : (0 : Int) ≤ (i : Int) := by omega
    by_cases hlt : i < nn
    · have hlt' : (i : Int) < (nn : Int) := by omega
      obtain ⟨hrl, hps⟩ := hst.out
      obtain ⟨d0, d1, d2, d3, d4, d5, d6⟩ := (HC.out.below hps.low) i hlt
      generalize c i = ac at d0 d1 d2 d3 d4 d5 d6
      obtain ⟨kd, wh, lk, ⟨x, sv, hsv⟩, hkd, hwh, hlk⟩ := ac
      dsimp only at d0 d1 d2 d3 d4 d5 d6
      have hA : Below wr.heap.size wr (wr.alloc (.cells #[.int .u8 kd, .int .i64 wh, .int .i64 lk, .int .u8 x.k, .int .i64 x.a, .int .i64 x.f, .int .u64 sv] 38)) := (Below.refl _ _).alloc (Nat.le_refl _) _
      have k0 : Bq wr.heap.size 38 [.int .u8 kd, .int .i64 wh, .int .i64 lk, .int .u8 x.k, .int .i64 x.a, .int .i64 x.f, .int .u64 sv] (wr.alloc (.cells #[.int .u8 kd, .int .i64 wh, .int .i64 lk, .int .u8 x.k, .int .i64 x.a, .int .i64 x.f, .int .u64 sv] 38)) := Bq.new _ _ _
      have x0 := k0.cell 0
      have x1 := k0.cell 1
      have x2 := k0.cell 2
      have x3 := k0.cell 3
      have x4 := k0.cell 4
      have x5 := k0.cell 5
      have x6 := k0.cell 6
      simp only [List.getElem?_cons_zero, List.getElem?_cons_succ] at x0 x1 x2 x3 x4 x5 x6
      have HP := Lib.hid (hps.below hA)
      have HRL := Lib.hid hrl
      have HSV := Lib.hid hsv
      have HLK := Lib.hid (i64_of9 hlk)
      obtain ⟨κ, hκ6, hκ⟩ : ∃ κ : Nat, κ < 6 ∧ Int.tmod kd 6 = (κ : Int) := by
        refine ⟨(kd % 6).toNat, by omega, ?_⟩
        rw [Int.tmod_eq_emod_of_nonneg hkd.1]
        omega
      have HK0 := Lib.hid k0
      clear hst hps hrl hA k0 hsv hwh hkd hlk
      obtain rfl | rfl | rfl | hκ3 : κ = 0 ∨ κ = 1 ∨ κ = 2 ∨ 3 ≤ κ := by omega
      · have hκ' : Int.tmod kd 6 = 0 := hκ
        clear hκ
        go_upto_region 18 with (fail)
        revert x0 x1 x2 x3 x4 x5 x6 HP HK0
        generalize wr.alloc (.cells #[.int .u8 kd, .int .i64 wh, .int .i64 lk, .int .u8 x.k, .int .i64 x.a, .int .i64 x.f, .int .u64 sv] 38) = wA
        intro x0 x1 x2 x3 x4 x5 x6 HP HK0
        generalize wr.heap.size = X at *
        have HXd := Lib.hid (HK0.out.below (Below.refl _ wA).drew)
        have HXe := Lib.hid ((bq_al9 HK0.out (.cells #[.pointer none, .pointer none, .pointer none] 45)).below (Below.refl _ (wA.alloc (.cells #[.pointer none, .pointer none, .pointer none] 45))).drew)
        have HBd := Lib.hid (show Below wA.heap.size wA wA.drew from (Below.refl _ wA).drew)
        have HBe := Lib.hid (bl_to9 (bl_al9 (Below.refl _ wA) (.cells #[.pointer none, .pointer none, .pointer none] 45)) (Below.refl _ (wA.alloc (.cells #[.pointer none, .pointer none, .pointer none] 45))).drew)
        have HZe := Lib.hid ((zBox wA).below (Below.refl _ (wA.alloc (.cells #[.pointer none, .pointer none, .pointer none] 45))).drew)
        have hnW := HP.out.low.size
        clear d0 d1 d2 d3 d4 d5 d6 x0 x1 x2 x3 x4 x5 x6 HK0 hκ'
        have hs0 := Lib.hid (act_gr HXd.out)
        have hsE := Lib.hid (act_gr HXe.out)
        go_cut [9] (fun x9 wx => ∃ T q K, x9 = .pointer (some ⟨T, 0, none⟩) ∧ Hid (NewBox W.heap.size wA 0 [.pointer (some ⟨q, 0, none⟩), .pointer none, .pointer (some ⟨K, 0, none⟩)] T q K wx))
        case first =>
          go_region_held3 (fun w9 => w9.cell? ⟨X, 1, none⟩ = some (.int .i64 wh))
            (first | with_reducible exact hs0.out | with_reducible exact hsE.out | with_reducible exact hs3.out | with_reducible exact hs3A.out | with_reducible exact hs4.out | with_reducible exact hs4A.out | with_reducible exact hsY.out | fail)
            (first
              | (go_at_call 9; with_reducible refine (newGrow_all W.heap.size wh wA.drew).mono ?_; rintro ee w3 ⟨q, rfl, R3, oq, hb3⟩; have HX3 := Lib.hid (HXd.out.below hb3); have hs3 := Lib.hid (act_gr HX3.out); have hs3A := Lib.hid (act_gr (bq_al9 HX3.out (.cells #[.pointer none, .pointer none, .pointer none] 45))); have HR3 := Lib.hid R3; have HOQ := Lib.hid (OwnX.mono oq (Nat.le_refl wA.heap.size)); have HB3 := Lib.hid (bl_to9 HBd.out hb3); have h3W := Nat.le_trans hnW HB3.out.size; clear R3 oq hb3)
              | (go_at_call 9; with_reducible refine (newGrow_all W.heap.size wh (wA.alloc (.cells #[.pointer none, .pointer none, .pointer none] 45)).drew).mono ?_; rintro ee w3 ⟨q, rfl, R3, oq, hb3⟩; have HX3 := Lib.hid (HXe.out.below hb3); have hs3 := Lib.hid (act_gr HX3.out); have hs3A := Lib.hid (act_gr (bq_al9 HX3.out (.cells #[.pointer none, .pointer none, .pointer none] 45))); have HR3 := Lib.hid R3; have HOQ := Lib.hid (OwnX.mono oq HBe.out.size); have HB3 := Lib.hid (bl_to9 HBe.out hb3); have h3W := Nat.le_trans hnW HB3.out.size; have HZ3 := Lib.hid (HZe.out.below hb3); clear R3 oq hb3)
              | (revert HZ3; intro HZ3; go_at_call 10; with_reducible refine (refGrow_all (B := W.heap.size) wh h3W (w := w3)).mono ?_; rintro ee w4 ⟨K, rfl, D4, oK, hb4⟩; have HX4 := Lib.hid (HX3.out.below hb4); have hs4 := Lib.hid (act_gr HX4.out); have J4 := jo_new (kxO_num false wh (lk := 0) (by decide)) hnW HR3.out (fun y hy => by simpa using hy) HOQ.out (Below.refl _ w3) D4 oK hb4; obtain ⟨⟨s0, s1, s2, z0, z1, z2⟩, HN, hfar⟩ := box_set (a := .pointer (some ⟨q, 0, none⟩)) (b := .pointer none) (c := .pointer (some ⟨K, 0, none⟩)) (bl_to9 HB3.out hb4) (Nat.le_refl _) (HZ3.out.below hb4) J4; have hsY := Lib.hid (act_gr (hfar _ _ _ HX4.out (by decide))); clear J4 D4 oK hb4 hfar)
              | (go_at_call 10; with_reducible refine (refGrow_all (B := W.heap.size) wh h3W (w := w3)).mono ?_; rintro ee w4 ⟨K, rfl, D4, oK, hb4⟩; have HX4 := Lib.hid (HX3.out.below hb4); have hs4 := Lib.hid (act_gr HX4.out); have J4 := jo_new (kxO_num false wh (lk := 0) (by decide)) hnW HR3.out (fun y hy => by simpa using hy) HOQ.out (Below.refl _ w3) D4 oK hb4; have hs4A := Lib.hid (act_gr (bq_al9 HX4.out (.cells #[.pointer none, .pointer none, .pointer none] 45))); have hsY := Lib.hid (act_gr (bq_al9 HX4.out (.cells #[.pointer (some ⟨q, 0, none⟩), .pointer none, .pointer (some ⟨K, 0, none⟩)] 45))); have HN := box_new (a := .pointer (some ⟨q, 0, none⟩)) (b := .pointer none) (c := .pointer (some ⟨K, 0, none⟩)) (bl_to9 HB3.out hb4) J4; clear J4 D4 oK hb4)
              | (go_at_call 10; with_reducible refine (refGrow_all (B := W.heap.size) wh (Nat.le_trans h3W (Nat.le_succ_of_le (Nat.le_refl _)) |> alloc_le9 (.cells #[.pointer none, .pointer none, .pointer none] 45)) (w := w3.alloc (.cells #[.pointer none, .pointer none, .pointer none] 45))).mono ?_; rintro ee w4 ⟨K, rfl, D4, oK, hb4⟩; have HX4 := Lib.hid ((bq_al9 HX3.out (.cells #[.pointer none, .pointer none, .pointer none] 45)).below hb4); have hs4 := Lib.hid (act_gr HX4.out); have J4 := jo_new (kxO_num false wh (lk := 0) (by decide)) hnW HR3.out (fun y hy => by simpa using hy) HOQ.out ((Below.refl _ w3).alloc (Nat.le_refl _) (.cells #[.pointer none, .pointer none, .pointer none] 45)) D4 oK hb4; obtain ⟨⟨s0, s1, s2, z0, z1, z2⟩, HN, hfar⟩ := box_set (a := .pointer (some ⟨q, 0, none⟩)) (b := .pointer none) (c := .pointer (some ⟨K, 0, none⟩)) (bl_to9 (bl_al9 HB3.out (.cells #[.pointer none, .pointer none, .pointer none] 45)) hb4) HB3.out.size ((zBox w3).below hb4) J4; have hsY := Lib.hid (act_gr (hfar _ _ _ HX4.out (by decide))); clear J4 D4 oK hb4 hfar)
              | fail)
          all_goals (go_wp2_with fail)
          all_goals go_meet
          all_goals exact ⟨_, _, _, rfl, HN⟩
        case rest =>
          obtain ⟨T, q, K, rfl, HN⟩ := hcut
          obtain ⟨Pj, J4, hfp⟩ := HN.out.jo
          have HOLD := Lib.hid (HP.out.old (Nat.le_refl wA.heap.size))
          have HP4 := Lib.hid (HP.out.below HN.out.low)
          have HJ4 := Lib.hid J4
          have HFP := Lib.hid hfp
          have HBX := Lib.hid HN.out.box
          obtain ⟨e0, e1, e2⟩ := HN.out.box.cells3
          have hrl3 : rows.length ≤ 300 := by have := HRL.out; omega
          clear J4 hfp HN HP HXd HXe HBd HBe HZe hs0 hsE
          have HA5 := Lib.hid (show Below wc.heap.size wc (wc.alloc (.cells #[.pointer (some ⟨q, 0, none⟩), .pointer none, .pointer (some ⟨K, 0, none⟩)] 45)) from (Below.refl _ _).alloc (Nat.le_refl _) _)
          have HC5 := Lib.hid (cells_newP wc [.pointer (some ⟨q, 0, none⟩), .pointer none, .pointer (some ⟨K, 0, none⟩)] 45)
          have HP5 := Lib.hid (HP4.out.below HA5.out)
          have HJ5 := Lib.hid (HJ4.out.below HA5.out)
          clear HP4 HJ4
          go_wp2_with (at_builtin; go_loud (refine wpList_append_own_at _ rfl (.tmp 75) (.tmp 77) 30 rfl W.heap.size 45 i2 _ 3 24 Tryz.underlying30 hi2 hy0 hy1 hy2 rfl (by decide) _ rows.length (flatJ rows) rfl HP5.out.row ⟨wc.heap.size, 0, none⟩ 1 1 (JO.cells ⟨0, q, K, Pj, [K, K, K]⟩) rfl rfl HC5.out (cellsJ_one _) (by unfold maxLen; omega) (by omega) HP5.out.low.size ?_; intro v' w6 h6 g6 _ _; have HP6 := Lib.hid (HP5.out.push (n0 := wA.heap.size) h1W h6 g6 HJ5.out HFP.out HOLD.out); obtain ⟨b0, b1⟩ := HP6.out.boxes; clear h6 g6))
          go_wp2_with fail
          ((with_reducible refine (both_same HP6.out.both).mono ?_); rintro ee w7 ⟨rfl, hb7⟩)
          have HP7 := Lib.hid (HP6.out.below hb7)
          clear HP6 hb7 b0 b1
          go_wp2_with fail
          go_roundw
          case rel => exact ⟨i + 1, rows ++ [⟨0, q, K, Pj, [K, K, K]⟩], by omega, by go_num, Lib.hid ⟨by simp only [List.length_append, List.length_singleton]; have := HRL.out; omega, HP7.out.mono (by omega)⟩⟩
          case measure => simp [intOf]; omega
      · have hκ' : Int.tmod kd 6 = 1 := hκ
        clear hκ
        go_upto_region 23 with (fail)
        revert x0 x1 x2 x3 x4 x5 x6 HP HK0
        generalize wr.alloc (.cells #[.int .u8 kd, .int .i64 wh, .int .i64 lk, .int .u8 x.k, .int .i64 x.a, .int .i64 x.f, .int .u64 sv] 38) = wA
        intro x0 x1 x2 x3 x4 x5 x6 HP HK0
        generalize wr.heap.size = X at *
        have HXd := Lib.hid (HK0.out.below (Below.refl _ wA).drew)
        have HXe := Lib.hid ((bq_al9 HK0.out (.cells #[.pointer none, .pointer none, .pointer none] 45)).below (Below.refl _ (wA.alloc (.cells #[.pointer none, .pointer none, .pointer none] 45))).drew)
        have HBd := Lib.hid (show Below wA.heap.size wA wA.drew from (Below.refl _ wA).drew)
        have HBe := Lib.hid (bl_to9 (bl_al9 (Below.refl _ wA) (.cells #[.pointer none, .pointer none, .pointer none] 45)) (Below.refl _ (wA.alloc (.cells #[.pointer none, .pointer none, .pointer none] 45))).drew)
        have HZe := Lib.hid ((zBox wA).below (Below.refl _ (wA.alloc (.cells #[.pointer none, .pointer none, .pointer none] 45))).drew)
        have hnW := HP.out.low.size
        clear d0 d1 d2 d3 d4 d5 d6 x0 x1 x2 x3 x4 x5 x6 HK0 hκ'
        have hs0 := Lib.hid (act_sh HXd.out)
        have hsE := Lib.hid (act_sh HXe.out)
        go_cut [10] (fun x9 wx => ∃ T q K, x9 = .pointer (some ⟨T, 0, none⟩) ∧ Hid (NewBox W.heap.size wA 1 [.pointer none, .pointer (some ⟨q, 0, none⟩), .pointer (some ⟨K, 0, none⟩)] T q K wx))
        case first =>
          go_region_held3 (fun w9 => w9.cell? ⟨X, 1, none⟩ = some (.int .i64 wh) ∧ w9.cell? ⟨X, 2, none⟩ = some (.int .i64 lk))
            (first | with_reducible exact hs0.out | with_reducible exact hsE.out | with_reducible exact hs3.out | with_reducible exact hs3A.out | with_reducible exact hs4.out | with_reducible exact hs4A.out | with_reducible exact hsY.out | fail)
            (first
              | (go_at_call 11; with_reducible refine (newShrink_all W.heap.size wh lk wA.drew).mono ?_; rintro ee w3 ⟨q, rfl, R3, oq, hb3⟩; have HX3 := Lib.hid (HXd.out.below hb3); have hs3 := Lib.hid (act_sh HX3.out); have hs3A := Lib.hid (act_sh (bq_al9 HX3.out (.cells #[.pointer none, .pointer none, .pointer none] 45))); have HR3 := Lib.hid R3; have HOQ := Lib.hid (OwnX.mono oq (Nat.le_refl wA.heap.size)); have HB3 := Lib.hid (bl_to9 HBd.out hb3); have h3W := Nat.le_trans hnW HB3.out.size; clear R3 oq hb3)
              | (go_at_call 11; with_reducible refine (newShrink_all W.heap.size wh lk (wA.alloc (.cells #[.pointer none, .pointer none, .pointer none] 45)).drew).mono ?_; rintro ee w3 ⟨q, rfl, R3, oq, hb3⟩; have HX3 := Lib.hid (HXe.out.below hb3); have hs3 := Lib.hid (act_sh HX3.out); have hs3A := Lib.hid (act_sh (bq_al9 HX3.out (.cells #[.pointer none, .pointer none, .pointer none] 45))); have HR3 := Lib.hid R3; have HOQ := Lib.hid (OwnX.mono oq HBe.out.size); have HB3 := Lib.hid (bl_to9 HBe.out hb3); have h3W := Nat.le_trans hnW HB3.out.size; have HZ3 := Lib.hid (HZe.out.below hb3); clear R3 oq hb3)
              | (revert HZ3; intro HZ3; go_at_call 12; with_reducible refine (refShrink_all (B := W.heap.size) wh lk h3W (w := w3)).mono ?_; rintro ee w4 ⟨K, rfl, D4, oK, hb4⟩; have HX4 := Lib.hid (HX3.out.below hb4); have hs4 := Lib.hid (act_sh HX4.out); have J4 := jo_new (kxO_num true wh HLK.out) hnW HR3.out (fun y hy => by simpa using hy) HOQ.out (Below.refl _ w3) D4 oK hb4; obtain ⟨⟨s0, s1, s2, z0, z1, z2⟩, HN, hfar⟩ := box_set (a := .pointer none) (b := .pointer (some ⟨q, 0, none⟩)) (c := .pointer (some ⟨K, 0, none⟩)) (bl_to9 HB3.out hb4) (Nat.le_refl _) (HZ3.out.below hb4) J4; have hsY := Lib.hid (act_sh (hfar _ _ _ HX4.out (by decide))); clear J4 D4 oK hb4 hfar)
              | (go_at_call 12; with_reducible refine (refShrink_all (B := W.heap.size) wh lk h3W (w := w3)).mono ?_; rintro ee w4 ⟨K, rfl, D4, oK, hb4⟩; have HX4 := Lib.hid (HX3.out.below hb4); have hs4 := Lib.hid (act_sh HX4.out); have J4 := jo_new (kxO_num true wh HLK.out) hnW HR3.out (fun y hy => by simpa using hy) HOQ.out (Below.refl _ w3) D4 oK hb4; have hs4A := Lib.hid (act_sh (bq_al9 HX4.out (.cells #[.pointer none, .pointer none, .pointer none] 45))); have hsY := Lib.hid (act_sh (bq_al9 HX4.out (.cells #[.pointer none, .pointer (some ⟨q, 0, none⟩), .pointer (some ⟨K, 0, none⟩)] 45))); have HN := box_new (a := .pointer none) (b := .pointer (some ⟨q, 0, none⟩)) (c := .pointer (some ⟨K, 0, none⟩)) (bl_to9 HB3.out hb4) J4; clear J4 D4 oK hb4)
              | (go_at_call 12; with_reducible refine (refShrink_all (B := W.heap.size) wh lk (Nat.le_trans h3W (Nat.le_succ_of_le (Nat.le_refl _)) |> alloc_le9 (.cells #[.pointer none, .pointer none, .pointer none] 45)) (w := w3.alloc (.cells #[.pointer none, .pointer none, .pointer none] 45))).mono ?_; rintro ee w4 ⟨K, rfl, D4, oK, hb4⟩; have HX4 := Lib.hid ((bq_al9 HX3.out (.cells #[.pointer none, .pointer none, .pointer none] 45)).below hb4); have hs4 := Lib.hid (act_sh HX4.out); have J4 := jo_new (kxO_num true wh HLK.out) hnW HR3.out (fun y hy => by simpa using hy) HOQ.out ((Below.refl _ w3).alloc (Nat.le_refl _) (.cells #[.pointer none, .pointer none, .pointer none] 45)) D4 oK hb4; obtain ⟨⟨s0, s1, s2, z0, z1, z2⟩, HN, hfar⟩ := box_set (a := .pointer none) (b := .pointer (some ⟨q, 0, none⟩)) (c := .pointer (some ⟨K, 0, none⟩)) (bl_to9 (bl_al9 HB3.out (.cells #[.pointer none, .pointer none, .pointer none] 45)) hb4) HB3.out.size ((zBox w3).below hb4) J4; have hsY := Lib.hid (act_sh (hfar _ _ _ HX4.out (by decide))); clear J4 D4 oK hb4 hfar)
              | fail)
          all_goals (go_wp2_with fail)
          all_goals go_meet
          all_goals exact ⟨_, _, _, rfl, HN⟩
        case rest =>
          obtain ⟨T, q, K, rfl, HN⟩ := hcut
          obtain ⟨Pj, J4, hfp⟩ := HN.out.jo
          have HOLD := Lib.hid (HP.out.old (Nat.le_refl wA.heap.size))
          have HP4 := Lib.hid (HP.out.below HN.out.low)
          have HJ4 := Lib.hid J4
          have HFP := Lib.hid hfp
          have HBX := Lib.hid HN.out.box
          obtain ⟨e0, e1, e2⟩ := HN.out.box.cells3
          have hrl3 : rows.length ≤ 300 := by have := HRL.out; omega
          clear J4 hfp HN HP HXd HXe HBd HBe HZe hs0 hsE
          have HA5 := Lib.hid (show Below wc.heap.size wc (wc.alloc (.cells #[.pointer none, .pointer (some ⟨q, 0, none⟩), .pointer (some ⟨K, 0, none⟩)] 45)) from (Below.refl _ _).alloc (Nat.le_refl _) _)
          have HC5 := Lib.hid (cells_newP wc [.pointer none, .pointer (some ⟨q, 0, none⟩), .pointer (some ⟨K, 0, none⟩)] 45)
          have HP5 := Lib.hid (HP4.out.below HA5.out)
          have HJ5 := Lib.hid (HJ4.out.below HA5.out)
          clear HP4 HJ4
          go_wp2_with (at_builtin; go_loud (refine wpList_append_own_at _ rfl (.tmp 95) (.tmp 97) 30 rfl W.heap.size 45 i2 _ 3 24 Tryz.underlying30 hi2 hy0 hy1 hy2 rfl (by decide) _ rows.length (flatJ rows) rfl HP5.out.row ⟨wc.heap.size, 0, none⟩ 1 1 (JO.cells ⟨1, q, K, Pj, [K, K, K]⟩) rfl rfl HC5.out (cellsJ_one _) (by unfold maxLen; omega) (by omega) HP5.out.low.size ?_; intro v' w6 h6 g6 _ _; have HP6 := Lib.hid (HP5.out.push (n0 := wA.heap.size) h1W h6 g6 HJ5.out HFP.out HOLD.out); obtain ⟨b0, b1⟩ := HP6.out.boxes; clear h6 g6))
          go_wp2_with fail
          ((with_reducible refine (both_same HP6.out.both).mono ?_); rintro ee w7 ⟨rfl, hb7⟩)
          have HP7 := Lib.hid (HP6.out.below hb7)
          clear HP6 hb7 b0 b1
          go_wp2_with fail
          go_roundw
          case rel => exact ⟨i + 1, rows ++ [⟨1, q, K, Pj, [K, K, K]⟩], by omega, by go_num, Lib.hid ⟨by simp only [List.length_append, List.length_singleton]; have := HRL.out; omega, HP7.out.mono (by omega)⟩⟩
          case measure => simp [intOf]; omega
      · have hκ' : Int.tmod kd 6 = 2 := hκ
        clear hκ
        obtain ⟨b0, b1⟩ := HP.out.boxes
        go_wp2_with fail
        ((with_reducible refine (both_store HP.out.both HP.out.laym (by omega) x sv HSV.out).mono ?_); rintro ee w6 ⟨rfl, hB6, hf6⟩)
        have HP6 := Lib.hid (HP.out.fxl0 h1W (.of_fr hf6 HP.out.mW) hB6)
        clear hf6 hB6 b0 b1 HP d0 d1 d2 d3 d4 d5 d6 x0 x1 x2 x3 x4 x5 x6 HK0 hκ'
        obtain ⟨b0, b1⟩ := HP6.out.boxes
        go_wp2_with fail
        ((with_reducible refine (both_same HP6.out.both).mono ?_); rintro ee w7 ⟨rfl, hb7⟩)
        have HP7 := Lib.hid (HP6.out.below hb7)
        clear HP6 hb7 b0 b1
        go_wp2_with fail
        go_roundw
        case rel => exact ⟨i + 1, rows, by omega, by go_num, Lib.hid ⟨by have := HRL.out; omega, HP7.out.mono (by omega)⟩⟩
        case measure => simp [intOf]; omega
      · have hκa : ((κ : Int) == 0) = false := by simp; omega
        have hκb : ((κ : Int) == 1) = false := by simp; omega
        have hκc : ((κ : Int) == 2) = false := by simp; omega
        have hκw := u8_wrapP (show κ < 256 by omega)
        obtain ⟨A', c', hv', hnc, hcm, hAg⟩ := own_sliceP HP.out.row
        rw [hv'] at HP ⊢
        obtain ⟨M, hM⟩ : ∃ M, rows.length = M := ⟨_, rfl⟩
        have HM2 := Lib.hid hM
        rw [hM] at HP hnc hAg ⊢
        clear hM hv'
        by_cases hM0 : M = 0
        · subst hM0
          clear hAg
          go_wp2_with fail
          go_roundw
          case rel => exact ⟨i + 1, rows, by omega, by go_num, Lib.hid ⟨by have := HRL.out; omega, HP.out.mono (by omega)⟩⟩
          case measure => simp [intOf]; omega
        · obtain ⟨g', rfl⟩ := hAg (by omega)
          obtain ⟨k, hkM, hk⟩ : ∃ k : Nat, k < M ∧ Int.tmod (IntKind.u64.wrap wh) (M : Int) = (k : Int) := by
            have h0 : 0 ≤ IntKind.u64.wrap wh := by rw [IntKind.wrap_u64]; omega
            have h1 := Int.emod_nonneg (IntKind.u64.wrap wh) (b := (M : Int)) (by omega)
            have h2 := Int.emod_lt_of_pos (IntKind.u64.wrap wh) (b := (M : Int)) (by omega)
            refine ⟨(IntKind.u64.wrap wh % (M : Int)).toNat, by omega, ?_⟩
            rw [Int.tmod_eq_emod_of_nonneg h0]
            omega
          obtain ⟨l, hl16, hl⟩ : ∃ l : Nat, l < 16 ∧ Int.tmod (IntKind.u64.wrap lk) 16 = (l : Int) := by
            have h0 : 0 ≤ IntKind.u64.wrap lk := by rw [IntKind.wrap_u64]; omega
            refine ⟨(IntKind.u64.wrap lk % 16).toNat, by omega, ?_⟩
            rw [Int.tmod_eq_emod_of_nonneg h0]
            omega
          have hk0 : (0 : Int) ≤ (k : Int) := by omega
          have hkM' : (k : Int) < (M : Int) := by omega
          have hM0' : (0 : Int) < (M : Int) := by omega
          have hMn : 0 < M := by omega
          have hMw : IntKind.u64.wrap (M : Int) = (M : Int) := by rw [IntKind.wrap_u64]; omega
          have hkw : IntKind.u64.wrap (k : Int) = (k : Int) := by rw [IntKind.wrap_u64]; omega
          have hlw : IntKind.u64.wrap (l : Int) = (l : Int) := by rw [IntKind.wrap_u64]; omega
          have hlv : IntKind.i64.wrap (l : Int) = (l : Int) := by simp [IntKind.wrap, IntKind.bits, IntKind.signed]; omega
          have hMd : decide ((0 : Int) < (M : Int)) = true := decide_eq_true hM0'
          have hMe : decide (0 < M) = true := decide_eq_true hMn
          have hMp : ((M : Int) == 0) = false := by simp; omega
          have hMq : ¬ ((M : Int) = 0) := by omega
          obtain ⟨xj, cs, hxk, kg, hcell⟩ := HP.out.pick HM2.out hkM
          obtain ⟨v0, v1, v2, hxc⟩ := xj.cells_ptr
          have y0 := hcell 0 (by decide)
          have y1 := hcell 1 (by decide)
          have y2 := hcell 2 (by decide)
          rw [hxc] at y0 y1 y2
          simp only [Nat.add_zero, List.getElem?_cons_zero, List.getElem?_cons_succ] at y0 y1 y2
          have HKX := Lib.hid (bq_al9 HK0.out (.cells #[.pointer v0, .pointer v1, .pointer v2] 45))
          have HPB := Lib.hid (HP.out.below ((Below.refl _ _).alloc (Nat.le_refl _) (.cells #[.pointer v0, .pointer v1, .pointer v2] 45)))
          have HT1 := Lib.hid (show Bq (wr.heap.size + 1) 45 [.pointer v0, .pointer v1, .pointer v2] ((wr.alloc (.cells #[.int .u8 kd, .int .i64 wh, .int .i64 lk, .int .u8 x.k, .int .i64 x.a, .int .i64 x.f, .int .u64 sv] 38)).alloc (.cells #[.pointer v0, .pointer v1, .pointer v2] 45)) from by have := Bq.new (wr.alloc (.cells #[.int .u8 kd, .int .i64 wh, .int .i64 lk, .int .u8 x.k, .int .i64 x.a, .int .i64 x.f, .int .u64 sv] 38)) [.pointer v0, .pointer v1, .pointer v2] 45; simpa using this)
          have HXK := Lib.hid (And.intro hxk hxc)
          clear hxk hxc kg hcell HP HK0
          go_upto_region 12 with (fail)
          clear d0 d1 d2 d3 d4 d5 d6 x0 x1 x2 x3 x4 x5 x6 y0 y1 y2 hκ hκa hκb hκc hκw
          revert HKX HPB HT1
          generalize (wr.alloc (.cells #[.int .u8 kd, .int .i64 wh, .int .i64 lk, .int .u8 x.k, .int .i64 x.a, .int .i64 x.f, .int .u64 sv] 38)).alloc (.cells #[.pointer v0, .pointer v1, .pointer v2] 45) = wB
          intro HKX HPB HT1
          generalize wr.heap.size = X at *
          go_wp2_with fail
          go_loopw [12] (fun j w9 => ∃ n : Nat, ∃ rows9 : List JO, ∃ x9 : JO, n ≤ 16 ∧ j = .int .i64 (n : Int) ∧ Hid (PS W p m b T0 (300 + 16 * i + n) rows9 (.slice (some ⟨g', 0, none⟩) M c') w9 ∧ rows9.length = M ∧ rows9[k]? = some x9 ∧ x9.cells = [.pointer v0, .pointer v1, .pointer v2] ∧ Bq (X + 1) 45 [.pointer v0, .pointer v1, .pointer v2] w9 ∧ Bq X 38 [.int .u8 kd, .int .i64 wh, .int .i64 lk, .int .u8 x.k, .int .i64 x.a, .int .i64 x.f, .int .u64 sv] w9)) (fun j _ => 17 - (intOf j).toNat)
          case atStart => exact ⟨0, rows, xj, Nat.zero_le _, rfl, Lib.hid ⟨HPB.out, HM2.out, HXK.out.1, HXK.out.2, HT1.out, HKX.out⟩⟩
          case round =>
            clear HPB HT1 HKX HXK
            obtain ⟨n, rows9, x9, hn16, rfl, hst9⟩ := hrel
            obtain ⟨P9, hl9, hx9, hc9, kT, kX⟩ := hst9.out
            have hgn : (0 : Int) ≤ (n : Int) := by omega
            have x2 := kX.cell 2
            simp only [List.getElem?_cons_zero, List.getElem?_cons_succ] at x2
            have HP9 := Lib.hid P9
            have HL9 := Lib.hid hl9
            have HX9 := Lib.hid hx9
            have HC9 := Lib.hid hc9
            have HT9 := Lib.hid kT
            have HKX9 := Lib.hid kX
            obtain ⟨b0, b1⟩ := P9.boxes
            obtain ⟨t0, t1, t2⟩ := kT.cells3
            clear hst9 P9 hl9 hx9 hc9 kT kX
            by_cases hnl : n ≤ l
            · have hnl' : (n : Int) ≤ (l : Int) := by omega
              have hcall : Calls Tryz.prog 14 #[.agg #[.pointer v0, .pointer v1, .pointer v2], .agg #[.pointer (some ⟨p, 0, none⟩), .pointer (some ⟨b, 0, none⟩)]] wr (StepS W.heap.size p m b (300 + 16 * i + n) x9 wr) := by
                have h := op_any h1W HP9.out.mW HP9.out.low.size (by omega) HP9.out.both HP9.out.lay HP9.out.laym (HP9.out.ops k x9 HX9.out)
                rw [HC9.out] at h
                exact h
              go_wp2_with fail
              ((with_reducible refine hcall.mono ?_); rintro ee w1 ⟨rfl, f1, B1, x', xs, J1⟩)
              have HPN := Lib.hid (HP9.out.step h1W HX9.out f1 B1 xs J1)
              have HTN := Lib.hid (bx_fxl HP9.out.both f1 HT9.out (by decide) (own_noBx (HP9.out.ops k x9 HX9.out).own HT9.out (by decide)))
              have HKN := Lib.hid (bx_fxl HP9.out.both f1 HKX9.out (by decide) (own_noBx (HP9.out.ops k x9 HX9.out).own HKX9.out (by decide)))
              have hk9 : k < rows9.length := (List.getElem?_eq_some_iff.1 HX9.out).1
              have HXN := Lib.hid (show (rows9.set k x')[k]? = some x' from by rw [List.getElem?_set, if_pos rfl, if_pos hk9])
              have HCN := Lib.hid ((JO.sub_cells xs).trans HC9.out)
              clear hcall f1 B1 xs J1 x2 b0 b1 t0 t1 t2
              go_wp2_with fail
              go_roundw
              case rel => exact ⟨n + 1, rows9.set k x', x', by omega, by go_num, Lib.hid ⟨HPN.out.mono (by omega), by rw [List.length_set]; exact HL9.out, HXN.out, HCN.out, HTN.out, HKN.out⟩⟩
              case measure => simp [intOf]; omega
            · have hnl' : ¬ ((n : Int) ≤ (l : Int)) := by omega
              have HP6 := HP9
              clear HP9 t0 t1 t2
              go_wp2_with fail
              ((with_reducible refine (both_same HP6.out.both).mono ?_); rintro ee w7 ⟨rfl, hb7⟩)
              have HP7 := Lib.hid (HP6.out.below hb7)
              clear HP6 hb7 b0 b1
              go_wp2_with fail
              go_roundw
              case rel => exact ⟨i + 1, rows9, by omega, by go_num, Lib.hid ⟨by have := HRL.out; have := HL9.out; have := HM2.out; omega, HP7.out.mono (by omega)⟩⟩
              case measure => simp [intOf]; omega
    · have hge2 : (nn : Int) ≤ (i : Int) := by omega
      have HP := Lib.hid hst.out.2
      obtain ⟨b0, b1⟩ := HP.out.boxes
      clear hst
      go_wp2_with fail
      ((with_reducible refine (both_words HP.out.both (by omega)).mono ?_); rintro ee w6 ⟨rfl, hb6⟩)
      have HP6 := Lib.hid (HP.out.below hb6)
      clear HP hb6 b0 b1
      go_wp2_with fail
      ((with_reducible refine (lives9_run w6 HP6.out.lay HP6.out.laym).mono ?_); rintro ee w7 ⟨rfl, hb7⟩)
      go_wp2_with fail
      go_ret
      exact ⟨rfl, HP6.out.low.trans (hb7.mono HP6.out.low.size)⟩
set_option maxRecDepth 100000 in
theorem play_long (ao0 ao1 : Option Addr) (cap0 nn0 cap1 nn1 : Nat) (W : World) (hL : Lay W) (hM : LayM W) (h : 100 < nn0 ∨ 300 < nn1) :
    Calls Tryz.prog 3 #[.slice ao0 nn0 cap0, .slice ao1 nn1 cap1] W fun e W' => e = .returned (.bool true) ∧ Below W.heap.size W W' := by
  have HL := Lib.hid hL
  have HM := Lib.hid hM
  clear hL hM
  by_cases h0 : 100 < nn0
  · have h0' : (100 : Int) < (nn0 : Int) := by omega
    clear h
    go_enter Tryz.func3, Tryz.ntmps3
    go_wp2_with fail
    ((with_reducible refine (lives9_run W HL.out HM.out).mono ?_); rintro e w4 ⟨rfl, hb⟩)
    go_wp2_with fail
    go_ret
    exact ⟨rfl, hb⟩
  · have h1 : 300 < nn1 := by omega
    have h0' : (nn0 : Int) ≤ 100 := by omega
    have h1' : (300 : Int) < (nn1 : Int) := by omega
    clear h
    go_enter Tryz.func3, Tryz.ntmps3
    go_wp2_with fail
    ((with_reducible refine (lives9_run W HL.out HM.out).mono ?_); rintro e w4 ⟨rfl, hb⟩)
    go_wp2_with fail
    go_ret
    exact ⟨rfl, hb⟩
set_option maxRecDepth 100000 in
set_option maxHeartbeats 4000000 in
theorem play_nil (ao1 : Option Addr) (cap1 nn1 : Nat) (W : World) (hL : Lay W) (hM : LayM W) (hn1 : nn1 ≤ 300)
    (hbeg : Calls Tryz.prog 8 #[.slice ao1 nn1 cap1] W fun e W' => ∃ p m b, e = .returned (.agg #[.pointer (some ⟨p, 0, none⟩), .pointer (some ⟨b, 0, none⟩)]) ∧ Both p m b nn1 W' ∧ W.heap.size ≤ m ∧ m < p ∧ p < b ∧ Below W.heap.size W W') :
    Calls Tryz.prog 3 #[.slice none 0 0, .slice ao1 nn1 cap1] W fun e W' => e = .returned (.bool true) ∧ Below W.heap.size W W' := by
  have HL := Lib.hid hL
  have HM := Lib.hid hM
  have HBG := Lib.hid hbeg
  have hn3 : ¬ ((300 : Int) < (nn1 : Int)) := by omega
  have hn4 : (nn1 : Int) ≤ 300 := by omega
  clear hL hM hbeg
  go_enter Tryz.func3, Tryz.ntmps3
  go_wp2_with fail
  (refine (HBG.out).mono ?_; rintro e w1 ⟨p, m, b, rfl, hB1, hWm, hmp, hpb, hb1⟩)
  have hX : Below w1.heap.size w1 (w1.alloc (.cells #[.pointer (some ⟨p, 0, none⟩), .pointer (some ⟨b, 0, none⟩)] 28)) := (Below.refl _ _).alloc (Nat.le_refl _) _
  have HS := Lib.hid (show PS W p m b w1.heap.size 300 [] (.slice none 0 0) (w1.alloc (.cells #[.pointer (some ⟨p, 0, none⟩), .pointer (some ⟨b, 0, none⟩)] 28)) from
    ⟨(hB1.mono (by omega)).below hX, (HL.out.below hb1).below hX, (HM.out.below hb1).below hX, hb1.trans (hX.mono hb1.size), hWm, Bq.new _ _ _, World.ownsRow_nil _ _ _ _, by simp, by simp⟩)
  clear hB1 hb1 hX HBG
  obtain ⟨b0, b1⟩ := HS.out.boxes
  go_wp2_with fail
  go_loopw [7] (fun j wr => j = .int .i64 0 ∧ wr = w1.alloc (.cells #[.pointer (some ⟨p, 0, none⟩), .pointer (some ⟨b, 0, none⟩)] 28)) (fun _ _ => 0)
  case atStart => exact ⟨rfl, rfl⟩
  case round =>
    obtain ⟨rfl, rfl⟩ := hrel
    go_wp2_with fail
    ((with_reducible refine (both_words HS.out.both (by omega)).mono ?_); rintro ee w6 ⟨rfl, hb6⟩)
    have HP6 := Lib.hid (HS.out.below hb6)
    clear HS hb6 b0 b1
    go_wp2_with fail
    ((with_reducible refine (lives9_run w6 HP6.out.lay HP6.out.laym).mono ?_); rintro ee w7 ⟨rfl, hb7⟩)
    go_wp2_with fail
    go_ret
    exact ⟨rfl, HP6.out.low.trans (hb7.mono HP6.out.low.size)⟩
end Go.Proofs.YtmjcbjcnmgleaaaGreatDoor
