/-
  The law AllocsPlay, walked: it returns true and only makes memory of its own; condition: the tables as laid, the acts and the first words lie as they say.
-/
import Derived.Test.YtlcbinckbkdgdaaGreatDoorZ10
import Derived.Test.YtlcbinckbkdgdaaGreatDoorB14
import Derived.StillTailTactics
import Derived.Deep.QuietTactic
import Derived.BigQuiet
namespace Go.Proofs.YtlcbinckbkdgdaaGreatDoor
open Go.RowKit Go.Maps

theorem cells_newP (w : World) (xs : List Value) (t : TypeId) : ∀ j u, xs[j]? = some u → (w.alloc (.cells xs.toArray t)).cell? ((⟨w.heap.size, 0, none⟩ : Addr).add j) = some u := by
  intro j u hj
  by_cases h : j = 0
  · subst h
    simp [Addr.add, hj]
  · simp [Addr.add, h, hj]
theorem u8_wrapP {k : Nat} (h : k < 256) : IntKind.u8.wrap (k : Int) = (k : Int) := by simp [IntKind.wrap, IntKind.bits, IntKind.signed]; omega
theorem own_sliceP {w : World} {base : Nat} {e : TypeId} {size : Nat} {v : Value} {n : Nat} {xs : List Value} (h : w.ownsRow base e size v n xs) : ∃ A c, v = .slice A n c ∧ n ≤ c ∧ c ≤ 9223372036854775807 ∧ (0 < n → ∃ g, A = some ⟨g, 0, none⟩) := by
  rcases h.2 with ⟨rfl, rfl⟩ | ⟨g, cap, cur, rfl, _, _, hc, hm, _⟩
  · exact ⟨none, 0, rfl, Nat.le_refl _, by omega, fun h => by omega⟩
  · exact ⟨_, cap, rfl, hc, by unfold maxLen at hm; exact hm, fun _ => ⟨g, rfl⟩⟩
theorem JO.cells_six (x : JO) : ∃ v0 v1 v2 v3 v4 v5, x.cells = [v0, v1, v2, v3, v4, v5] := by
  unfold JO.cells
  split <;> exact ⟨_, _, _, _, _, _, rfl⟩
set_option maxRecDepth 100000 in
set_option maxHeartbeats 16000000 in
theorem play_list (g off cap nn : Nat) (c : Nat → AcP) (ao1 : Option Addr) (cap1 nn1 : Nat) (W : World) (hL : Lay W) (hM : LayM W) (hc : ActCells W g off c nn) (hn : nn ≤ 300) (hn1 : nn1 ≤ 300)
    (hbeg : Calls Tryz.prog 5 #[.slice ao1 nn1 cap1] W fun e W' => ∃ p m b, e = .returned (.agg #[.pointer (some ⟨p, 0, none⟩), .pointer (some ⟨b, 0, none⟩)]) ∧ Both p m b nn1 W' ∧ W.heap.size ≤ m ∧ m < p ∧ p < b ∧ Below W.heap.size W W') :
    Calls Tryz.prog 3 #[.slice (some ⟨g, off, none⟩) nn cap, .slice ao1 nn1 cap1] W fun e W' => e = .returned (.bool true) ∧ Below W.heap.size W W' := by
  obtain ⟨i2, hi2, hy0, hy1, hy2⟩ := info_parts infoJ
  have h1W : 1 < W.heap.size := by have := hM.1; have := hL.1; omega
  have HL := Lib.hid hL
  have HM := Lib.hid hM
  have HC := Lib.hid hc
  have HBG := Lib.hid hbeg
  have hn' : ¬ ((300 : Int) < (nn : Int)) := by omega
  have hn2 : (nn : Int) ≤ 300 := by omega
  have hn3 : ¬ ((300 : Int) < (nn1 : Int)) := by omega
  have hn4 : (nn1 : Int) ≤ 300 := by omega
  clear hL hM hc hbeg
  go_enter Tryz.func3, Tryz.ntmps3
  go_wp2_with fail
  (refine (HBG.out).mono ?_; rintro e w1 ⟨p, m, b, rfl, hB1, hWm, hmp, hpb, hb1⟩)
  have hX : Below w1.heap.size w1 (w1.alloc (.cells #[.pointer (some ⟨p, 0, none⟩), .pointer (some ⟨b, 0, none⟩)] 28)) := (Below.refl _ _).alloc (Nat.le_refl _) _
  have HS := Lib.hid (show PS W p m b w1.heap.size (300 + 0) [] (.slice none 0 0) (w1.alloc (.cells #[.pointer (some ⟨p, 0, none⟩), .pointer (some ⟨b, 0, none⟩)] 28)) from
    ⟨(hB1.mono (by omega)).below hX, (HL.out.below hb1).below hX, (HM.out.below hb1).below hX, hb1.trans (hX.mono hb1.size), hWm, Bq.new _ _ _, World.ownsRow_nil _ _ _ _, by simp, by simp⟩)
  clear hB1 hb1 hX HBG
  go_wp2_with fail
  revert HS
  generalize w1.alloc (.cells #[.pointer (some ⟨p, 0, none⟩), .pointer (some ⟨b, 0, none⟩)] 28) = w2
  intro HS
  generalize w1.heap.size = T0 at *
  go_loopw [6, 7] (fun v j wr => ∃ i : Nat, ∃ rows : List JO, i ≤ nn ∧ j = .int .i64 (i : Int) ∧ Hid (rows.length ≤ i ∧ PS W p m b T0 (300 + i) rows v wr)) (fun _ j _ => nn - (intOf j).toNat)
  case atStart => exact ⟨0, [], Nat.zero_le _, rfl, Lib.hid ⟨Nat.le_refl _, HS.out⟩⟩
  case round =>
    clear HS
    obtain ⟨i, rows, hi, rfl, hst⟩ := hrel
    have hge : (0 : Int) ≤ (i : Int) := by omega
    by_cases hlt : i < nn
    · have hlt' : (i : Int) < (nn : Int) := by omega
      obtain ⟨hrl, hps⟩ := hst.out
      obtain ⟨d0, d1, d2, d3, d4, d5, d6⟩ := (HC.out.below hps.low) i hlt
      generalize c i = ac at d0 d1 d2 d3 d4 d5 d6
      obtain ⟨kd, wh, mo, ⟨x, sv, hsv⟩, hkd, hwh, hmo⟩ := ac
      dsimp only at d0 d1 d2 d3 d4 d5 d6
      have hA : Below wr.heap.size wr (wr.alloc (.cells #[.int .u8 kd, .int .i64 wh, .int .u32 mo, .int .u8 x.k, .int .i64 x.a, .int .i64 x.f, .int .u64 sv] 39)) := (Below.refl _ _).alloc (Nat.le_refl _) _
      have k0 : Bq wr.heap.size 39 [.int .u8 kd, .int .i64 wh, .int .u32 mo, .int .u8 x.k, .int .i64 x.a, .int .i64 x.f, .int .u64 sv] (wr.alloc (.cells #[.int .u8 kd, .int .i64 wh, .int .u32 mo, .int .u8 x.k, .int .i64 x.a, .int .i64 x.f, .int .u64 sv] 39)) := Bq.new _ _ _
      have x0 := k0.cell 0
      have x1 := k0.cell 1
      have x2 := k0.cell 2
      have x3 := k0.cell 3
      have x4 := k0.cell 4
      have x5 := k0.cell 5
      have x6 := k0.cell 6
      simp only [List.getElem?_cons_zero, List.getElem?_cons_succ] at x0 x1 x2 x3 x4 x5 x6
      have HP := Lib.hid (hps.below hA)
      have HRL := Lib.hid hrl
      have HSV := Lib.hid hsv
      obtain ⟨κ, hκ8, hκ⟩ : ∃ κ : Nat, κ < 8 ∧ Int.tmod kd 8 = (κ : Int) := by
        refine ⟨(kd % 8).toNat, by omega, ?_⟩
        rw [Int.tmod_eq_emod_of_nonneg hkd.1]
        omega
      have HK0 := Lib.hid k0
      clear hst hps hrl hA k0 hsv hwh hkd
      obtain rfl | rfl | rfl | rfl | hκ4 : κ = 0 ∨ κ = 1 ∨ κ = 2 ∨ κ = 3 ∨ 4 ≤ κ := by omega
      · have hκ' : Int.tmod kd 8 = 0 := hκ
        clear hκ
        go_wp2_with fail
        revert x0 x1 x2 x3 x4 x5 x6 HP HK0
        generalize wr.alloc (.cells #[.int .u8 kd, .int .i64 wh, .int .u32 mo, .int .u8 x.k, .int .i64 x.a, .int .i64 x.f, .int .u64 sv] 39) = wA
        intro x0 x1 x2 x3 x4 x5 x6 HP HK0
        generalize wr.heap.size = X at *
        clear d0 d1 d2 d3 d4 d5 d6 x0 x1 x2 x3 x4 x5 x6 HK0 hκ'
        have HOLD := Lib.hid (HP.out.old (Nat.le_refl wA.heap.size))
        have hnW := HP.out.low.size
        ((with_reducible refine (newAlloc_all wA).mono ?_); rintro ee w3 ⟨q, r, r1, rfl, R3, oq, or, or1, hb3⟩)
        have HP3 := Lib.hid (HP.out.below hb3)
        have HR3 := Lib.hid R3
        have HOQ := Lib.hid oq
        have HOR := Lib.hid or
        have HOR1 := Lib.hid or1
        have h3n := hb3.size
        have h3W : W.heap.size ≤ w3.heap.size := Nat.le_trans hnW h3n
        clear R3 oq or or1 hb3 HP
        generalize wA.heap.size = n0 at *
        go_wp2_with fail
        ((with_reducible refine (refNewAlloc_all (B := W.heap.size) h3W).mono ?_); rintro ee w4 ⟨K, k1, rfl, D4, oK, ok, hb4⟩)
        have HP4 := Lib.hid (HP3.out.below hb4)
        have J4 := new_al (n := n0) hnW (HR3.out.same (hb4.block q HOQ.out.lt) (hb4.block r HOR.out.lt) (hb4.block r1 HOR1.out.lt)) (HOQ.out.same (hb4.block q HOQ.out.lt)) (HOR.out.same (hb4.block r HOR.out.lt)) (HOR1.out.same (hb4.block r1 HOR1.out.lt)) h3n D4 oK ok
        have hfp := new_fp (HOQ.out.same (hb4.block q HOQ.out.lt)) (HOR.out.same (hb4.block r HOR.out.lt)) (HOR1.out.same (hb4.block r1 HOR1.out.lt)) oK ok h3n 0
        have HFP := Lib.hid hfp
        have HA5 := Lib.hid (show Below w4.heap.size w4 (w4.alloc (.cells #[.pointer (some ⟨q, 0, none⟩), .pointer none, .pointer none, .pointer (some ⟨K, 0, none⟩), .pointer none, .pointer none] 49)) from (Below.refl _ _).alloc (Nat.le_refl _) _)
        have HC5 := Lib.hid (cells_newP w4 [.pointer (some ⟨q, 0, none⟩), .pointer none, .pointer none, .pointer (some ⟨K, 0, none⟩), .pointer none, .pointer none] 49)
        have HP5 := Lib.hid (HP4.out.below HA5.out)
        have HJ5 := Lib.hid (J4.below HA5.out)
        clear hfp J4 D4 oK ok
        clear hb4 HP3 HP4
        have hrl3 : rows.length ≤ 300 := by have := HRL.out; omega
        go_wp2_with (at_builtin; go_loud (refine wpList_append_own_at _ rfl (.tmp 53) (.tmp 57) 30 rfl W.heap.size 49 i2 _ 6 48 Tryz.underlying30 hi2 hy0 hy1 hy2 rfl (by decide) _ rows.length (flatJ rows) rfl HP5.out.row ⟨w4.heap.size, 0, none⟩ 1 1 (JO.cells ⟨0, q, r, r1, K, k1, k1⟩) rfl rfl HC5.out (cellsJ_one _) (by unfold maxLen; omega) (by omega) HP5.out.low.size ?_; intro v' w6 h6 g6 _ _; have HP6 := Lib.hid (HP5.out.push (n0 := n0) h1W h6 g6 HJ5.out HFP.out HOLD.out); obtain ⟨b0, b1⟩ := HP6.out.boxes; clear h6 g6))
        go_wp2_with fail
        ((with_reducible refine (both_same HP6.out.both).mono ?_); rintro ee w7 ⟨rfl, hb7⟩)
        have HP7 := Lib.hid (HP6.out.below hb7)
        clear HP6 hb7 b0 b1
        go_wp2_with fail
        go_roundw
        case rel => exact ⟨i + 1, rows ++ [⟨0, q, r, r1, K, k1, k1⟩], by omega, by go_num, Lib.hid ⟨by simp only [List.length_append, List.length_singleton]; have := HRL.out; omega, HP7.out.mono (by omega)⟩⟩
        case measure => simp [intOf]; omega
      · have hκ' : Int.tmod kd 8 = 1 := hκ
        clear hκ
        go_upto_region 15 with (fail)
        revert x0 x1 x2 x3 x4 x5 x6 HP HK0
        generalize wr.alloc (.cells #[.int .u8 kd, .int .i64 wh, .int .u32 mo, .int .u8 x.k, .int .i64 x.a, .int .i64 x.f, .int .u64 sv] 39) = wA
        intro x0 x1 x2 x3 x4 x5 x6 HP HK0
        generalize wr.heap.size = X at *
        have HKd := Lib.hid (HK0.out.below (Below.refl _ wA).drew)
        have HPd := Lib.hid (HP.out.below (Below.refl _ wA).drew)
        clear d0 d1 d2 d3 d4 d5 d6 x0 x1 x2 x3 x4 x5 x6 HK0 hκ' HP
        have hs0 := Lib.hid (show wA.drew.cell? ⟨X, 1, none⟩ = some (.int .i64 wh) ∧ wA.drew.cell? ⟨X, 2, none⟩ = some (.int .u32 mo) from ⟨HKd.out.cell 1, HKd.out.cell 2⟩)
        have hrl3 : rows.length ≤ 300 := by have := HRL.out; omega
        have HOLD := Lib.hid (HPd.out.old (Nat.le_refl wA.drew.heap.size))
        have hnW := HPd.out.low.size
        obtain ⟨n0, hn0⟩ : ∃ n0, wA.drew.heap.size = n0 := ⟨_, rfl⟩
        rw [hn0] at HOLD hnW
        go_region_held3 (fun w9 => w9.cell? ⟨X, 1, none⟩ = some (.int .i64 wh) ∧ w9.cell? ⟨X, 2, none⟩ = some (.int .u32 mo))
          (first | exact hs0.out | exact hS3.out | exact hS4.out | exact hS5.out | exact hS6.out | fail)
          (first
            | (go_at_call 8; (with_reducible refine (newFree_all wh mo _).mono ?_); rintro ee w3 ⟨q, r, r1, rfl, R3, oq, or, or1, hb3⟩; rw [hn0] at oq or or1; have h3n : n0 ≤ w3.heap.size := Nat.le_trans (Nat.le_of_eq hn0.symm) hb3.size; have h3W : W.heap.size ≤ w3.heap.size := Nat.le_trans hnW h3n; have HP3 := Lib.hid (HPd.out.below hb3); have HR3 := Lib.hid R3; have HOQ := Lib.hid oq; have HOR := Lib.hid or; have HOR1 := Lib.hid or1; have HK3 := Lib.hid (HKd.out.below hb3); have hS3 := Lib.hid (show w3.cell? ⟨X, 1, none⟩ = some (.int .i64 wh) ∧ w3.cell? ⟨X, 2, none⟩ = some (.int .u32 mo) from ⟨HK3.out.cell 1, HK3.out.cell 2⟩); clear R3 oq or or1 hb3)
            | (go_at_call 9; (with_reducible refine (refNewFree_all (B := W.heap.size) wh mo h3W).mono ?_); rintro ee w4 ⟨K, k1, rfl, D4, oK, ok, hb4⟩; have HP4 := Lib.hid (HP3.out.below hb4); have J4 := new_fr hmo (n := n0) hnW (HR3.out.same (hb4.block q HOQ.out.lt) (hb4.block r HOR.out.lt) (hb4.block r1 HOR1.out.lt)) (HOQ.out.same (hb4.block q HOQ.out.lt)) (HOR.out.same (hb4.block r HOR.out.lt)) (HOR1.out.same (hb4.block r1 HOR1.out.lt)) h3n D4 oK ok; have hfp := new_fp (HOQ.out.same (hb4.block q HOQ.out.lt)) (HOR.out.same (hb4.block r HOR.out.lt)) (HOR1.out.same (hb4.block r1 HOR1.out.lt)) oK ok h3n 1; have HFP := Lib.hid hfp; have HA5 := Lib.hid (show Below w4.heap.size w4 (w4.alloc (.cells #[.pointer none, .pointer (some ⟨q, 0, none⟩), .pointer none, .pointer none, .pointer (some ⟨K, 0, none⟩), .pointer none] 49)) from (Below.refl _ _).alloc (Nat.le_refl _) _); have HC5 := Lib.hid (cells_newP w4 [.pointer none, .pointer (some ⟨q, 0, none⟩), .pointer none, .pointer none, .pointer (some ⟨K, 0, none⟩), .pointer none] 49); have HP5 := Lib.hid (HP4.out.below HA5.out); have HJ5 := Lib.hid (J4.below HA5.out); clear hfp J4 D4 oK ok; have HK4 := Lib.hid (HK3.out.below hb4); have hS4 := Lib.hid (show w4.cell? ⟨X, 1, none⟩ = some (.int .i64 wh) ∧ w4.cell? ⟨X, 2, none⟩ = some (.int .u32 mo) from ⟨HK4.out.cell 1, HK4.out.cell 2⟩); have HK5 := Lib.hid (HK4.out.below HA5.out); have hS5 := Lib.hid (show (w4.alloc (.cells #[.pointer none, .pointer (some ⟨q, 0, none⟩), .pointer none, .pointer none, .pointer (some ⟨K, 0, none⟩), .pointer none] 49)).cell? ⟨X, 1, none⟩ = some (.int .i64 wh) ∧ (w4.alloc (.cells #[.pointer none, .pointer (some ⟨q, 0, none⟩), .pointer none, .pointer none, .pointer (some ⟨K, 0, none⟩), .pointer none] 49)).cell? ⟨X, 2, none⟩ = some (.int .u32 mo) from ⟨HK5.out.cell 1, HK5.out.cell 2⟩); clear hb4)
            | (refine step_append_at _ rfl (.tmp 61) (.tmp 73) 30 rfl W.heap.size 49 i2 _ 6 48 Tryz.underlying30 hi2 hy0 hy1 hy2 rfl (by decide) _ rows.length (flatJ rows) rfl HP5.out.row ⟨w4.heap.size, 0, none⟩ 1 1 (JO.cells ⟨1, q, r, r1, K, k1, k1⟩) rfl rfl HC5.out (cellsJ_one _) (by unfold maxLen; omega) (by omega) HP5.out.low.size ?_; intro v' w6 h6 g6 _; have HP6 := Lib.hid (HP5.out.push (n0 := n0) h1W h6 g6 HJ5.out HFP.out HOLD.out); have HK6 := Lib.hid (HP5.out.grown_blk g6 HK5.out (by decide)); have hS6 := Lib.hid (show w6.cell? ⟨X, 1, none⟩ = some (.int .i64 wh) ∧ w6.cell? ⟨X, 2, none⟩ = some (.int .u32 mo) from ⟨HK6.out.cell 1, HK6.out.cell 2⟩); obtain ⟨b0, b1⟩ := HP6.out.boxes; clear h6 g6)
            | fail)
        go_wp2_with fail
        ((with_reducible refine (both_same HP6.out.both).mono ?_); rintro ee w7 ⟨rfl, hb7⟩)
        have HP7 := Lib.hid (HP6.out.below hb7)
        clear HP6 hb7 b0 b1
        go_wp2_with fail
        go_roundw
        case rel => exact ⟨i + 1, rows ++ [⟨1, q, r, r1, K, k1, k1⟩], by omega, by go_num, Lib.hid ⟨by simp only [List.length_append, List.length_singleton]; have := HRL.out; omega, HP7.out.mono (by omega)⟩⟩
        case measure => simp [intOf]; omega
      · have hκ' : Int.tmod kd 8 = 2 := hκ
        clear hκ
        go_upto_region 17 with (fail)
        revert x0 x1 x2 x3 x4 x5 x6 HP HK0
        generalize wr.alloc (.cells #[.int .u8 kd, .int .i64 wh, .int .u32 mo, .int .u8 x.k, .int .i64 x.a, .int .i64 x.f, .int .u64 sv] 39) = wA
        intro x0 x1 x2 x3 x4 x5 x6 HP HK0
        generalize wr.heap.size = X at *
        have HKd := Lib.hid (HK0.out.below (Below.refl _ wA).drew)
        have HPd := Lib.hid (HP.out.below (Below.refl _ wA).drew)
        clear d0 d1 d2 d3 d4 d5 d6 x0 x1 x2 x3 x4 x5 x6 HK0 hκ' HP
        have hs0 := Lib.hid (show wA.drew.cell? ⟨X, 1, none⟩ = some (.int .i64 wh) from HKd.out.cell 1)
        have hrl3 : rows.length ≤ 300 := by have := HRL.out; omega
        have HOLD := Lib.hid (HPd.out.old (Nat.le_refl wA.drew.heap.size))
        have hnW := HPd.out.low.size
        obtain ⟨n0, hn0⟩ : ∃ n0, wA.drew.heap.size = n0 := ⟨_, rfl⟩
        rw [hn0] at HOLD hnW
        go_region_held3 (fun w9 => w9.cell? ⟨X, 1, none⟩ = some (.int .i64 wh))
          (first | exact hs0.out | exact hS3.out | exact hS4.out | exact hS5.out | exact hS6.out | fail)
          (first
            | (go_at_call 10; (with_reducible refine (newPark_all wh _).mono ?_); rintro ee w3 ⟨q, r, r1, rfl, R3, oq, or, or1, hb3⟩; rw [hn0] at oq or or1; have h3n : n0 ≤ w3.heap.size := Nat.le_trans (Nat.le_of_eq hn0.symm) hb3.size; have h3W : W.heap.size ≤ w3.heap.size := Nat.le_trans hnW h3n; have HP3 := Lib.hid (HPd.out.below hb3); have HR3 := Lib.hid R3; have HOQ := Lib.hid oq; have HOR := Lib.hid or; have HOR1 := Lib.hid or1; have HK3 := Lib.hid (HKd.out.below hb3); have hS3 := Lib.hid (show w3.cell? ⟨X, 1, none⟩ = some (.int .i64 wh) from HK3.out.cell 1); clear R3 oq or or1 hb3)
            | (go_at_call 11; (with_reducible refine (refNewPark_all (B := W.heap.size) wh h3W).mono ?_); rintro ee w4 ⟨K, k1, rfl, D4, oK, ok, hb4⟩; have HP4 := Lib.hid (HP3.out.below hb4); have J4 := new_pk (n := n0) hnW (HR3.out.same (hb4.block q HOQ.out.lt) (hb4.block r HOR.out.lt)) (HOQ.out.same (hb4.block q HOQ.out.lt)) (HOR.out.same (hb4.block r HOR.out.lt)) (HOR1.out.same (hb4.block r1 HOR1.out.lt)) h3n D4 oK ok; have hfp := new_fp (HOQ.out.same (hb4.block q HOQ.out.lt)) (HOR.out.same (hb4.block r HOR.out.lt)) (HOR1.out.same (hb4.block r1 HOR1.out.lt)) oK ok h3n 2; have HFP := Lib.hid hfp; have HA5 := Lib.hid (show Below w4.heap.size w4 (w4.alloc (.cells #[.pointer none, .pointer none, .pointer (some ⟨q, 0, none⟩), .pointer none, .pointer none, .pointer (some ⟨K, 0, none⟩)] 49)) from (Below.refl _ _).alloc (Nat.le_refl _) _); have HC5 := Lib.hid (cells_newP w4 [.pointer none, .pointer none, .pointer (some ⟨q, 0, none⟩), .pointer none, .pointer none, .pointer (some ⟨K, 0, none⟩)] 49); have HP5 := Lib.hid (HP4.out.below HA5.out); have HJ5 := Lib.hid (J4.below HA5.out); clear hfp J4 D4 oK ok; have HK4 := Lib.hid (HK3.out.below hb4); have hS4 := Lib.hid (show w4.cell? ⟨X, 1, none⟩ = some (.int .i64 wh) from HK4.out.cell 1); have HK5 := Lib.hid (HK4.out.below HA5.out); have hS5 := Lib.hid (show (w4.alloc (.cells #[.pointer none, .pointer none, .pointer (some ⟨q, 0, none⟩), .pointer none, .pointer none, .pointer (some ⟨K, 0, none⟩)] 49)).cell? ⟨X, 1, none⟩ = some (.int .i64 wh) from HK5.out.cell 1); clear hb4)
            | (refine step_append_at _ rfl (.tmp 77) (.tmp 85) 30 rfl W.heap.size 49 i2 _ 6 48 Tryz.underlying30 hi2 hy0 hy1 hy2 rfl (by decide) _ rows.length (flatJ rows) rfl HP5.out.row ⟨w4.heap.size, 0, none⟩ 1 1 (JO.cells ⟨2, q, r, r1, K, k1, k1⟩) rfl rfl HC5.out (cellsJ_one _) (by unfold maxLen; omega) (by omega) HP5.out.low.size ?_; intro v' w6 h6 g6 _; have HP6 := Lib.hid (HP5.out.push (n0 := n0) h1W h6 g6 HJ5.out HFP.out HOLD.out); have HK6 := Lib.hid (HP5.out.grown_blk g6 HK5.out (by decide)); have hS6 := Lib.hid (show w6.cell? ⟨X, 1, none⟩ = some (.int .i64 wh) from HK6.out.cell 1); obtain ⟨b0, b1⟩ := HP6.out.boxes; clear h6 g6)
            | fail)
        go_wp2_with fail
        ((with_reducible refine (both_same HP6.out.both).mono ?_); rintro ee w7 ⟨rfl, hb7⟩)
        have HP7 := Lib.hid (HP6.out.below hb7)
        clear HP6 hb7 b0 b1
        go_wp2_with fail
        go_roundw
        case rel => exact ⟨i + 1, rows ++ [⟨2, q, r, r1, K, k1, k1⟩], by omega, by go_num, Lib.hid ⟨by simp only [List.length_append, List.length_singleton]; have := HRL.out; omega, HP7.out.mono (by omega)⟩⟩
        case measure => simp [intOf]; omega
      · have hκ' : Int.tmod kd 8 = 3 := hκ
        clear hκ
        obtain ⟨b0, b1⟩ := HP.out.boxes
        go_wp2_with fail
        ((with_reducible refine (both_store HP.out.both HP.out.laym (by omega) x sv HSV.out).mono ?_); rintro ee w6 ⟨rfl, hB6, hf6⟩)
        have HP6 := Lib.hid (HP.out.fxl0 h1W (.of_fr hf6 HP.out.mW) hB6)
        clear hf6 hB6 b0 b1 HP d0 d1 d2 d3 d4 d5 d6 x0 x1 x2 x3 x4 x5 x6 HK0 hκ'
        obtain ⟨b0, b1⟩ := HP6.out.boxes
        go_wp2_with fail
        ((with_reducible refine (both_same HP6.out.both).mono ?_); rintro ee w7 ⟨rfl, hb7⟩)
        have HP7 := Lib.hid (HP6.out.below hb7)
        clear HP6 hb7 b0 b1
        go_wp2_with fail
        go_roundw
        case rel => exact ⟨i + 1, rows, by omega, by go_num, Lib.hid ⟨by have := HRL.out; omega, HP7.out.mono (by omega)⟩⟩
        case measure => simp [intOf]; omega
      · have hκa : ((κ : Int) == 0) = false := by simp; omega
        have hκb : ((κ : Int) == 1) = false := by simp; omega
        have hκc : ((κ : Int) == 2) = false := by simp; omega
        have hκd : ((κ : Int) == 3) = false := by simp; omega
        have hκw := u8_wrapP (show κ < 256 by omega)
        obtain ⟨A', c', hv', hnc, hcm, hAg⟩ := own_sliceP HP.out.row
        rw [hv'] at HP ⊢
        obtain ⟨M, hM⟩ : ∃ M, rows.length = M := ⟨_, rfl⟩
        have HM2 := Lib.hid hM
        rw [hM] at HP hnc hAg ⊢
        clear hM hv'
        by_cases hM0 : M = 0
        · subst hM0
          clear hAg
          go_upto_region 10 with (fail)
          go_quiet (fail)
          have HP6 := Lib.hid (HP.out.below (below_drewN' (Below.refl _ _) nq))
          clear HP d0 d1 d2 d3 d4 d5 d6 x0 x1 x2 x3 x4 x5 x6 HK0 hκ hκa hκb hκc hκd hκw
          obtain ⟨b0, b1⟩ := HP6.out.boxes
          go_wp2_with fail
          ((with_reducible refine (both_same HP6.out.both).mono ?_); rintro ee w7 ⟨rfl, hb7⟩)
          have HP7 := Lib.hid (HP6.out.below hb7)
          clear HP6 hb7 b0 b1
          go_wp2_with fail
          go_roundw
          case rel => exact ⟨i + 1, rows, by omega, by go_num, Lib.hid ⟨by have := HRL.out; omega, HP7.out.mono (by omega)⟩⟩
          case measure => simp [intOf]; omega
        · obtain ⟨g', rfl⟩ := hAg (by omega)
          obtain ⟨k, hkM, hk⟩ : ∃ k : Nat, k < M ∧ Int.tmod (IntKind.u64.wrap wh) (M : Int) = (k : Int) := by
            have h0 : 0 ≤ IntKind.u64.wrap wh := by rw [IntKind.wrap_u64]; omega
            have h1 := Int.emod_nonneg (IntKind.u64.wrap wh) (b := (M : Int)) (by omega)
            have h2 := Int.emod_lt_of_pos (IntKind.u64.wrap wh) (b := (M : Int)) (by omega)
            refine ⟨(IntKind.u64.wrap wh % (M : Int)).toNat, by omega, ?_⟩
            rw [Int.tmod_eq_emod_of_nonneg h0]
            omega
          have hk0 : (0 : Int) ≤ (k : Int) := by omega
          have hkM' : (k : Int) < (M : Int) := by omega
          have hM0' : (0 : Int) < (M : Int) := by omega
          have hMn : 0 < M := by omega
          have hMw : IntKind.u64.wrap (M : Int) = (M : Int) := by rw [IntKind.wrap_u64]; omega
          have hkw : IntKind.u64.wrap (k : Int) = (k : Int) := by rw [IntKind.wrap_u64]; omega
          have hMd : decide ((0 : Int) < (M : Int)) = true := decide_eq_true hM0'
          have hMe : decide (0 < M) = true := decide_eq_true hMn
          have hMp : ((M : Int) == 0) = false := by simp; omega
          have hMq : ¬ ((M : Int) = 0) := by omega
          go_upto_region 10 with (fail)
          revert x0 x1 x2 x3 x4 x5 x6 HP HK0
          generalize wr.alloc (.cells #[.int .u8 kd, .int .i64 wh, .int .u32 mo, .int .u8 x.k, .int .i64 x.a, .int .i64 x.f, .int .u64 sv] 39) = wA
          intro x0 x1 x2 x3 x4 x5 x6 HK0 HP
          generalize wr.heap.size = X at *
          have HKd := Lib.hid (HK0.out.below (Below.refl _ wA).drew)
          have HPd := Lib.hid (HP.out.below (Below.refl _ wA).drew)
          clear d0 d1 d2 d3 d4 d5 d6 x0 x1 x2 x3 x4 x5 x6 HK0 HP hκ hκa hκb hκc hκd hκw
          obtain ⟨xj, cs, hxk, kg, hcell⟩ := HPd.out.pick HM2.out hkM
          obtain ⟨v0, v1, v2, v3, v4, v5, hxc⟩ := xj.cells_six
          have y0 := hcell 0 (by decide)
          have y1 := hcell 1 (by decide)
          have y2 := hcell 2 (by decide)
          have y3 := hcell 3 (by decide)
          have y4 := hcell 4 (by decide)
          have y5 := hcell 5 (by decide)
          rw [hxc] at y0 y1 y2 y3 y4 y5
          simp only [Nat.add_zero, List.getElem?_cons_zero, List.getElem?_cons_succ] at y0 y1 y2 y3 y4 y5
          have hcall : Calls Tryz.prog 13 #[.agg #[v0, v1, v2, v3, v4, v5], .agg #[.pointer (some ⟨p, 0, none⟩), .pointer (some ⟨b, 0, none⟩)]] wA.drew (StepS W.heap.size p m b (300 + i) xj wA.drew) := by
            have h := op_any h1W HPd.out.mW (by omega) HPd.out.both HPd.out.lay HPd.out.laym (HPd.out.ops k xj hxk)
            rw [hxc] at h
            exact h
          have HCALL := Lib.hid hcall
          have HXK := Lib.hid hxk
          have HKG := Lib.hid kg
          have hs0 := Lib.hid (show (wA.drew.cell? ⟨g', k * 6, none⟩ = some v0 ∧ wA.drew.cell? ⟨g', k * 6 + 1, none⟩ = some v1 ∧ wA.drew.cell? ⟨g', k * 6 + 2, none⟩ = some v2 ∧ wA.drew.cell? ⟨g', k * 6 + 3, none⟩ = some v3 ∧ wA.drew.cell? ⟨g', k * 6 + 4, none⟩ = some v4 ∧ wA.drew.cell? ⟨g', k * 6 + 5, none⟩ = some v5 ∧ wA.drew.cell? ⟨T0, 0, none⟩ = some (.pointer (some ⟨p, 0, none⟩)) ∧ wA.drew.cell? ⟨T0, 1, none⟩ = some (.pointer (some ⟨b, 0, none⟩)) ∧ wA.drew.cell? ⟨X, 1, none⟩ = some (.int .i64 wh)) from ⟨y0, y1, y2, y3, y4, y5, HPd.out.boxes.1, HPd.out.boxes.2, HKd.out.cell 1⟩)
          clear hcall hxk kg hcell y0 y1 y2 y3 y4 y5 hxc
          go_region_held3 (fun w9 => w9.cell? ⟨g', k * 6, none⟩ = some v0 ∧ w9.cell? ⟨g', k * 6 + 1, none⟩ = some v1 ∧ w9.cell? ⟨g', k * 6 + 2, none⟩ = some v2 ∧ w9.cell? ⟨g', k * 6 + 3, none⟩ = some v3 ∧ w9.cell? ⟨g', k * 6 + 4, none⟩ = some v4 ∧ w9.cell? ⟨g', k * 6 + 5, none⟩ = some v5 ∧ w9.cell? ⟨T0, 0, none⟩ = some (.pointer (some ⟨p, 0, none⟩)) ∧ w9.cell? ⟨T0, 1, none⟩ = some (.pointer (some ⟨b, 0, none⟩)) ∧ w9.cell? ⟨X, 1, none⟩ = some (.int .i64 wh))
            (first | exact hs0.out | exact hS1.out | fail)
            (first
              | (go_at_call 13; (with_reducible refine HCALL.out.mono ?_); rintro ee w1 ⟨rfl, f1, B1, x', xs, J1⟩; have HP6 := Lib.hid (HPd.out.step h1W HXK.out f1 B1 xs J1); have kg1 := bx_fxl HPd.out.both f1 HKG.out (by decide) (own_noBx (HPd.out.ops k xj HXK.out).own HKG.out (by decide)); have kx1 := bx_fxl HPd.out.both f1 HKd.out (by decide) (own_noBx (HPd.out.ops k xj HXK.out).own HKd.out (by decide)); obtain ⟨z0, z1, z2, z3, z4, z5, _, _, _⟩ := hs0.out; obtain ⟨b0, b1⟩ := HP6.out.boxes; have hS1 := Lib.hid (show (w1.cell? ⟨g', k * 6, none⟩ = some v0 ∧ w1.cell? ⟨g', k * 6 + 1, none⟩ = some v1 ∧ w1.cell? ⟨g', k * 6 + 2, none⟩ = some v2 ∧ w1.cell? ⟨g', k * 6 + 3, none⟩ = some v3 ∧ w1.cell? ⟨g', k * 6 + 4, none⟩ = some v4 ∧ w1.cell? ⟨g', k * 6 + 5, none⟩ = some v5 ∧ w1.cell? ⟨T0, 0, none⟩ = some (.pointer (some ⟨p, 0, none⟩)) ∧ w1.cell? ⟨T0, 1, none⟩ = some (.pointer (some ⟨b, 0, none⟩)) ∧ w1.cell? ⟨X, 1, none⟩ = some (.int .i64 wh)) from ⟨(kg1.cell _).trans ((HKG.out.cell _).symm.trans z0), (kg1.cell _).trans ((HKG.out.cell _).symm.trans z1), (kg1.cell _).trans ((HKG.out.cell _).symm.trans z2), (kg1.cell _).trans ((HKG.out.cell _).symm.trans z3), (kg1.cell _).trans ((HKG.out.cell _).symm.trans z4), (kg1.cell _).trans ((HKG.out.cell _).symm.trans z5), b0, b1, kx1.cell 1⟩); clear f1 B1 xs J1 kg1 kx1 z0 z1 z2 z3 z4 z5)
              | fail)
          go_wp2_with fail
          ((with_reducible refine (both_same HP6.out.both).mono ?_); rintro ee w7 ⟨rfl, hb7⟩)
          have HP7 := Lib.hid (HP6.out.below hb7)
          clear HP6 hb7 b0 b1
          go_wp2_with fail
          go_roundw
          case rel => exact ⟨i + 1, rows.set k x', by omega, by go_num, Lib.hid ⟨by rw [List.length_set]; have := HRL.out; omega, HP7.out.mono (by omega)⟩⟩
          case measure => simp [intOf]; omega
    · have hge2 : (nn : Int) ≤ (i : Int) := by omega
      have HP := Lib.hid hst.out.2
      obtain ⟨b0, b1⟩ := HP.out.boxes
      clear hst
      go_wp2_with fail
      ((with_reducible refine (both_words HP.out.both (by omega)).mono ?_); rintro ee w6 ⟨rfl, hb6⟩)
      have HP6 := Lib.hid (HP.out.below hb6)
      clear HP hb6 b0 b1
      go_wp2_with fail
      ((with_reducible refine (lives_any w6 HP6.out.lay HP6.out.laym).mono ?_); rintro ee w7 ⟨rfl, hb7⟩)
      go_wp2_with fail
      go_ret
      exact ⟨rfl, HP6.out.low.trans (hb7.mono HP6.out.low.size)⟩
set_option maxRecDepth 100000 in
theorem play_long (ao0 ao1 : Option Addr) (cap0 nn0 cap1 nn1 : Nat) (W : World) (hL : Lay W) (hM : LayM W) (h : 300 < nn0 ∨ 300 < nn1) :
    Calls Tryz.prog 3 #[.slice ao0 nn0 cap0, .slice ao1 nn1 cap1] W fun e W' => e = .returned (.bool true) ∧ Below W.heap.size W W' := by
  have HL := Lib.hid hL
  have HM := Lib.hid hM
  clear hL hM
  by_cases h0 : 300 < nn0
  · have h0' : (300 : Int) < (nn0 : Int) := by omega
    clear h
    go_enter Tryz.func3, Tryz.ntmps3
    go_wp2_with fail
    ((with_reducible refine (lives_any W HL.out HM.out).mono ?_); rintro e w4 ⟨rfl, hb⟩)
    go_wp2_with fail
    go_ret
    exact ⟨rfl, hb⟩
  · have h1 : 300 < nn1 := by omega
    have h0' : (nn0 : Int) ≤ 300 := by omega
    have h1' : (300 : Int) < (nn1 : Int) := by omega
    clear h
    go_enter Tryz.func3, Tryz.ntmps3
    go_wp2_with fail
    ((with_reducible refine (lives_any W HL.out HM.out).mono ?_); rintro e w4 ⟨rfl, hb⟩)
    go_wp2_with fail
    go_ret
    exact ⟨rfl, hb⟩
set_option maxRecDepth 100000 in
set_option maxHeartbeats 4000000 in
theorem play_nil (ao1 : Option Addr) (cap1 nn1 : Nat) (W : World) (hL : Lay W) (hM : LayM W) (hn1 : nn1 ≤ 300)
    (hbeg : Calls Tryz.prog 5 #[.slice ao1 nn1 cap1] W fun e W' => ∃ p m b, e = .returned (.agg #[.pointer (some ⟨p, 0, none⟩), .pointer (some ⟨b, 0, none⟩)]) ∧ Both p m b nn1 W' ∧ W.heap.size ≤ m ∧ m < p ∧ p < b ∧ Below W.heap.size W W') :
    Calls Tryz.prog 3 #[.slice none 0 0, .slice ao1 nn1 cap1] W fun e W' => e = .returned (.bool true) ∧ Below W.heap.size W W' := by
  have HL := Lib.hid hL
  have HM := Lib.hid hM
  have HBG := Lib.hid hbeg
  have hn3 : ¬ ((300 : Int) < (nn1 : Int)) := by omega
  have hn4 : (nn1 : Int) ≤ 300 := by omega
  clear hL hM hbeg
  go_enter Tryz.func3, Tryz.ntmps3
  go_wp2_with fail
  (refine (HBG.out).mono ?_; rintro e w1 ⟨p, m, b, rfl, hB1, hWm, hmp, hpb, hb1⟩)
  have hX : Below w1.heap.size w1 (w1.alloc (.cells #[.pointer (some ⟨p, 0, none⟩), .pointer (some ⟨b, 0, none⟩)] 28)) := (Below.refl _ _).alloc (Nat.le_refl _) _
  have HS := Lib.hid (show PS W p m b w1.heap.size 300 [] (.slice none 0 0) (w1.alloc (.cells #[.pointer (some ⟨p, 0, none⟩), .pointer (some ⟨b, 0, none⟩)] 28)) from
    ⟨(hB1.mono (by omega)).below hX, (HL.out.below hb1).below hX, (HM.out.below hb1).below hX, hb1.trans (hX.mono hb1.size), hWm, Bq.new _ _ _, World.ownsRow_nil _ _ _ _, by simp, by simp⟩)
  clear hB1 hb1 hX HBG
  obtain ⟨b0, b1⟩ := HS.out.boxes
  go_wp2_with fail
  go_loopw [7] (fun j wr => j = .int .i64 0 ∧ wr = w1.alloc (.cells #[.pointer (some ⟨p, 0, none⟩), .pointer (some ⟨b, 0, none⟩)] 28)) (fun _ _ => 0)
  case atStart => exact ⟨rfl, rfl⟩
  case round =>
    obtain ⟨rfl, rfl⟩ := hrel
    go_wp2_with fail
    ((with_reducible refine (both_words HS.out.both (by omega)).mono ?_); rintro ee w6 ⟨rfl, hb6⟩)
    have HP6 := Lib.hid (HS.out.below hb6)
    clear HS hb6 b0 b1
    go_wp2_with fail
    ((with_reducible refine (lives_any w6 HP6.out.lay HP6.out.laym).mono ?_); rintro ee w7 ⟨rfl, hb7⟩)
    go_wp2_with fail
    go_ret
    exact ⟨rfl, HP6.out.low.trans (hb7.mono HP6.out.low.size)⟩
end Go.Proofs.YtlcbinckbkdgdaaGreatDoor
