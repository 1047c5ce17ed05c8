/-
  The law BlocksPlay, walked: it returns true and only makes memory of its own; condition: the tables as laid, the acts and the first words lie as they say.
-/
import Derived.Test.YtffkjdmpeeagoaaDoorBD5
import Derived.Test.YtffkjdmpeeagoaaDoorBD7
import Derived.Test.YtffkjdmpeeagoaaDoorBA6
namespace Go.Proofs.YtffkjdmpeeagoaaDoor
open Go.RowKit Go.Maps

theorem cells_newP (w : World) (xs : List Value) (t : TypeId) : ∀ j u, xs[j]? = some u → (w.alloc (.cells xs.toArray t)).cell? ((⟨w.heap.size, 0, none⟩ : Addr).add j) = some u := by
  intro j u hj
  by_cases h : j = 0
  · subst h
    simp [Addr.add, hj]
  · simp [Addr.add, h, hj]
theorem u8_wrapP {k : Nat} (h : k < 256) : IntKind.u8.wrap (k : Int) = (k : Int) := by simp [IntKind.wrap, IntKind.bits, IntKind.signed]; omega
theorem own_sliceP {w : World} {base : Nat} {e : TypeId} {size : Nat} {v : Value} {n : Nat} {xs : List Value} (h : w.ownsRow base e size v n xs) : ∃ A c, v = .slice A n c ∧ n ≤ c ∧ c ≤ 9223372036854775807 ∧ (0 < n → ∃ g, A = some ⟨g, 0, none⟩) := by
  rcases h.2 with ⟨rfl, rfl⟩ | ⟨g, cap, cur, rfl, _, _, hc, hm, _⟩
  · exact ⟨none, 0, rfl, Nat.le_refl _, by omega, fun h => by omega⟩
  · exact ⟨_, cap, rfl, hc, by unfold maxLen at hm; exact hm, fun _ => ⟨g, rfl⟩⟩
theorem play_s {w : World} {T0 X g' k : Nat} {a b : Value} {wh : Int} {v0 v1 v2 : Value} (h0 : w.cell? ⟨T0, 0, none⟩ = some a) (h1 : w.cell? ⟨T0, 1, none⟩ = some b) (h2 : w.cell? ⟨X, 1, none⟩ = some (.int .u64 wh)) (y0 : w.cell? ⟨g', k * 3, none⟩ = some v0) (y1 : w.cell? ⟨g', k * 3 + 1, none⟩ = some v1) (y2 : w.cell? ⟨g', k * 3 + 2, none⟩ = some v2) :
    w.drew.cell? ⟨T0, 0, none⟩ = some a ∧ w.drew.cell? ⟨T0, 1, none⟩ = some b ∧ w.drew.cell? ⟨X, 1, none⟩ = some (.int .u64 wh) ∧ w.drew.cell? ⟨g', k * 3, none⟩ = some v0 ∧ w.drew.cell? ⟨g', k * 3 + 1, none⟩ = some v1 ∧ w.drew.cell? ⟨g', k * 3 + 2, none⟩ = some v2 := ⟨h0, h1, h2, y0, y1, y2⟩
theorem play_s2 {W w w' wB : World} {p m b c T0 X g' k : Nat} {x : JO} {a1 b1 : Value} {cs ds : List Value} {wh : Int} {v0 v1 v2 : Value} (h : Both p m b c w) (f : FxL W.heap.size p b x.fp w w') (ho : ∀ y ∈ x.fp, OwnX W.heap.size y w) (kT : Bq T0 28 [a1, b1] w) (kX : Bq X 39 ds wB) (kG : Bq g' 46 cs wB) (hw : w = wB.drew)
    (hs : w.cell? ⟨T0, 0, none⟩ = some a1 ∧ w.cell? ⟨T0, 1, none⟩ = some b1 ∧ w.cell? ⟨X, 1, none⟩ = some (.int .u64 wh) ∧ w.cell? ⟨g', k * 3, none⟩ = some v0 ∧ w.cell? ⟨g', k * 3 + 1, none⟩ = some v1 ∧ w.cell? ⟨g', k * 3 + 2, none⟩ = some v2) :
    w'.cell? ⟨T0, 0, none⟩ = some a1 ∧ w'.cell? ⟨T0, 1, none⟩ = some b1 ∧ w'.cell? ⟨X, 1, none⟩ = some (.int .u64 wh) ∧ w'.cell? ⟨g', k * 3, none⟩ = some v0 ∧ w'.cell? ⟨g', k * 3 + 1, none⟩ = some v1 ∧ w'.cell? ⟨g', k * 3 + 2, none⟩ = some v2 := by
  subst hw
  have kX2 : Bq X 39 ds wB.drew := kX.below (Below.refl _ wB).drew
  have kG2 : Bq g' 46 cs wB.drew := kG.below (Below.refl _ wB).drew
  have sT := bx_fxl h f kT (by decide) (own_noBx ho kT (by decide))
  have sX := bx_fxl h f kX2 (by decide) (own_noBx ho kX2 (by decide))
  have sG := bx_fxl h f kG2 (by decide) (own_noBx ho kG2 (by decide))
  obtain ⟨h0, h1, h2, h3, h4, h5⟩ := hs
  exact ⟨(sT.cell 0).trans ((kT.cell 0).symm.trans h0), (sT.cell 1).trans ((kT.cell 1).symm.trans h1), (sX.cell 1).trans ((kX2.cell 1).symm.trans h2), (sG.cell _).trans ((kG2.cell _).symm.trans h3), (sG.cell _).trans ((kG2.cell _).symm.trans h4), (sG.cell _).trans ((kG2.cell _).symm.trans h5)⟩
theorem JO.cells_ptr (x : JO) : ∃ a0 a1 a2 : Option Addr, x.cells = [.pointer a0, .pointer a1, .pointer a2] := by
  unfold JO.cells
  split <;> exact ⟨_, _, _, rfl⟩
theorem u64_ofP {a : Int} (h : (Lit.int .u64 a).wf = true) : 0 ≤ a ∧ a < 18446744073709551616 := by
  simp [Lit.wf, IntKind.min, IntKind.max, IntKind.signed, IntKind.bits] at h
  omega
theorem World.size_alloc9 (w : World) (o : Obj) : (w.alloc o).heap.size = w.heap.size + 1 := by simp
set_option maxRecDepth 100000 in
set_option maxHeartbeats 16000000 in
theorem play_list (g off cap nn : Nat) (c : Nat → AcP) (ao1 : Option Addr) (cap1 nn1 : Nat) (W : World) (hL : Lay W) (hM : LayM W) (hc : ActCells W g off c nn) (hn : nn ≤ 300) (hn1 : nn1 ≤ 300)
    (hbeg : Calls Tryd.prog 9 #[.slice ao1 nn1 cap1] W fun e W' => ∃ p m b, e = .returned (.agg #[.pointer (some ⟨p, 0, none⟩), .pointer (some ⟨b, 0, none⟩)]) ∧ Both p m b nn1 W' ∧ W.heap.size ≤ m ∧ m < p ∧ p < b ∧ Below W.heap.size W W') :
    Calls Tryd.prog 3 #[.slice (some ⟨g, off, none⟩) nn cap, .slice ao1 nn1 cap1] W fun e W' => e = .returned (.bool true) ∧ Below W.heap.size W W' := by
  obtain ⟨i2, hi2, hy0, hy1, hy2⟩ := info_parts infoJ
  have h1W : 1 < W.heap.size := by have := hM.1; have := hL.1; omega
  have HL := Lib.hid hL
  have HM := Lib.hid hM
  have HC := Lib.hid hc
  have HBG := Lib.hid hbeg
  have hn' : ¬ ((300 : Int) < (nn : Int)) := by omega
  have hn2 : (nn : Int) ≤ 300 := by omega
  have hn3 : ¬ ((300 : Int) < (nn1 : Int)) := by omega
  have hn4 : (nn1 : Int) ≤ 300 := by omega
  clear hL hM hc hbeg
  go_enter Tryd.func3, Tryd.ntmps3
  go_wp2_with fail
  (refine (HBG.out).mono ?_; rintro e w1 ⟨p, m, b, rfl, hB1, hWm, hmp, hpb, hb1⟩)
  have hX : Below w1.heap.size w1 (w1.alloc (.cells #[.pointer (some ⟨p, 0, none⟩), .pointer (some ⟨b, 0, none⟩)] 28)) := (Below.refl _ _).alloc (Nat.le_refl _) _
  have HS := Lib.hid (show PS W p m b w1.heap.size (300 + 0) [] (.slice none 0 0) (w1.alloc (.cells #[.pointer (some ⟨p, 0, none⟩), .pointer (some ⟨b, 0, none⟩)] 28)) from
    ⟨(hB1.mono (by omega)).below hX, (HL.out.below hb1).below hX, (HM.out.below hb1).below hX, hb1.trans (hX.mono hb1.size), hWm, Bq.new _ _ _, World.ownsRow_nil _ _ _ _, by simp, by simp⟩)
  clear hB1 hb1 hX HBG
  go_wp2_with fail
  revert HS
  generalize w1.alloc (.cells #[.pointer (some ⟨p, 0, none⟩), .pointer (some ⟨b, 0, none⟩)] 28) = w2
  intro HS
  generalize w1.heap.size = T0 at *
  go_loopw [6, 7] (fun v j wr => ∃ i : Nat, ∃ rows : List JO, i ≤ nn ∧ j = .int .i64 (i : Int) ∧ Hid (rows.length ≤ i ∧ PS W p m b T0 (300 + i) rows v wr)) (fun _ j _ => nn - (intOf j).toNat)
  case atStart => exact ⟨0, [], Nat.zero_le _, rfl, Lib.hid ⟨Nat.le_refl _, HS.out⟩⟩
  case round =>
    clear HS
    obtain ⟨i, rows, hi, rfl, hst⟩ := hrel
    have hge : (0 : Int) ≤ (i : Int) := by omega
    by_cases hlt : i < nn
    · have hlt' : (i : Int) < (nn : Int) := by omega
      obtain ⟨hrl, hps⟩ := hst.out
      obtain ⟨d0, d1, d2, d3, d4, d5⟩ := (HC.out.below hps.low) i hlt
      generalize c i = ac at d0 d1 d2 d3 d4 d5
      obtain ⟨kd, wh, ⟨x, sv, hsv⟩, hkd, hwh⟩ := ac
      dsimp only at d0 d1 d2 d3 d4 d5
      have hA : Below wr.heap.size wr (wr.alloc (.cells #[.int .u8 kd, .int .u64 wh, .int .u8 x.k, .int .i64 x.a, .int .i64 x.f, .int .u64 sv] 39)) := (Below.refl _ _).alloc (Nat.le_refl _) _
      have k0 : Bq wr.heap.size 39 [.int .u8 kd, .int .u64 wh, .int .u8 x.k, .int .i64 x.a, .int .i64 x.f, .int .u64 sv] (wr.alloc (.cells #[.int .u8 kd, .int .u64 wh, .int .u8 x.k, .int .i64 x.a, .int .i64 x.f, .int .u64 sv] 39)) := Bq.new _ _ _
      have x0 := k0.cell 0
      have x1 := k0.cell 1
      have x2 := k0.cell 2
      have x3 := k0.cell 3
      have x4 := k0.cell 4
      have x5 := k0.cell 5
      simp only [List.getElem?_cons_zero, List.getElem?_cons_succ] at x0 x1 x2 x3 x4 x5
      have HP := Lib.hid (hps.below hA)
      have HRL := Lib.hid hrl
      have HSV := Lib.hid hsv
      have HWH := Lib.hid hwh
      obtain ⟨κ, hκ6, hκ⟩ : ∃ κ : Nat, κ < 6 ∧ Int.tmod kd 6 = (κ : Int) := by
        refine ⟨(kd % 6).toNat, by omega, ?_⟩
        rw [Int.tmod_eq_emod_of_nonneg hkd.1]
        omega
      have HK0 := Lib.hid k0
      clear hst hps hrl hA k0 hsv hwh hkd
      obtain rfl | rfl | rfl | hκ3 : κ = 0 ∨ κ = 1 ∨ κ = 2 ∨ 3 ≤ κ := by omega
      · have hκ' : Int.tmod kd 6 = 0 := hκ
        clear hκ
        go_upto_region 13 with (fail)
        revert x0 x1 x2 x3 x4 x5 HP HK0
        generalize wr.alloc (.cells #[.int .u8 kd, .int .u64 wh, .int .u8 x.k, .int .i64 x.a, .int .i64 x.f, .int .u64 sv] 39) = wA
        intro x0 x1 x2 x3 x4 x5 HP HK0
        generalize wr.heap.size = X at *
        have hnW := HP.out.low.size
        clear d0 d1 d2 d3 d4 d5 x0 x1 x2 x3 x4 x5 HK0 hκ'
        go_wp2_with fail
        ((with_reducible refine (newM_own wA).mono ?_); rintro ee w3 ⟨q, rfl, R3, oq, hb3⟩)
        have HR3 := Lib.hid R3
        have HOQ := Lib.hid (OwnX.mono oq (Nat.le_refl wA.heap.size))
        have HB3 := Lib.hid hb3
        clear R3 oq hb3
        go_wp2_with fail
        ((with_reducible refine (refB_all false w3).mono ?_); rintro ee w4 ⟨K, rfl, D4, oK, hb4⟩)
        have HN : Hid (NewBox W.heap.size wA 0 [.pointer (some ⟨q, 0, none⟩), .pointer none, .pointer (some ⟨K, 0, none⟩)] w4.heap.size q K (w4.alloc (.cells #[.pointer (some ⟨q, 0, none⟩), .pointer none, .pointer (some ⟨K, 0, none⟩)] 46))) := box_new (bl_to9 HB3.out hb4) (jo_new (BNum.new false) (.inl ⟨rfl, rfl⟩) hnW HR3.out HOQ.out (Below.refl _ w3) D4 oK hb4)
        clear D4 oK hb4 HR3 HOQ HB3
        go_upto_region 14 with (fail)
        revert HN
        generalize w4.alloc (.cells #[.pointer (some ⟨q, 0, none⟩), .pointer none, .pointer (some ⟨K, 0, none⟩)] 46) = wc
        generalize w4.heap.size = T
        intro HN
        obtain ⟨J4, hfp⟩ := HN.out.jo
        have HOLD := Lib.hid (HP.out.old (Nat.le_refl wA.heap.size))
        have HP4 := Lib.hid (HP.out.below HN.out.low)
        have HJ4 := Lib.hid J4
        have HFP := Lib.hid hfp
        have HBX := Lib.hid HN.out.box
        obtain ⟨e0, e1, e2⟩ := HN.out.box.cells3
        have hrl3 : rows.length ≤ 300 := by have := HRL.out; omega
        clear J4 hfp HN HP
        have HA5 := Lib.hid (show Below wc.heap.size wc (wc.alloc (.cells #[.pointer (some ⟨q, 0, none⟩), .pointer none, .pointer (some ⟨K, 0, none⟩)] 46)) from (Below.refl _ _).alloc (Nat.le_refl _) _)
        have HC5 := Lib.hid (cells_newP wc [.pointer (some ⟨q, 0, none⟩), .pointer none, .pointer (some ⟨K, 0, none⟩)] 46)
        have HP5 := Lib.hid (HP4.out.below HA5.out)
        have HJ5 := Lib.hid (HJ4.out.below HA5.out)
        clear HP4 HJ4
        go_wp2_with (at_builtin; go_loud (refine wpList_append_own_at _ rfl (.tmp 60) (.tmp 62) 30 rfl W.heap.size 46 i2 _ 3 24 Tryd.underlying30 hi2 hy0 hy1 hy2 rfl (by decide) _ rows.length (flatJ rows) rfl HP5.out.row ⟨wc.heap.size, 0, none⟩ 1 1 (JO.cells ⟨0, q, K⟩) rfl rfl HC5.out (cellsJ_one _) (by unfold maxLen; omega) (by omega) HP5.out.low.size ?_; intro v' w6 h6 g6 _ _; have HP6 := Lib.hid (HP5.out.push (n0 := wA.heap.size) h1W h6 g6 HJ5.out HFP.out HOLD.out); obtain ⟨b0, b1⟩ := HP6.out.boxes; clear h6 g6))
        go_wp2_with fail
        ((with_reducible refine (both_same HP6.out.both).mono ?_); rintro ee w7 ⟨rfl, hb7⟩)
        have HP7 := Lib.hid (HP6.out.below hb7)
        clear HP6 hb7 b0 b1
        go_wp2_with fail
        go_roundw
        case rel => exact ⟨i + 1, rows ++ [⟨0, q, K⟩], by omega, by go_num, Lib.hid ⟨by simp only [List.length_append, List.length_singleton]; have := HRL.out; omega, HP7.out.mono (by omega)⟩⟩
        case measure => simp [intOf]; omega
      · have hκ' : Int.tmod kd 6 = 1 := hκ
        clear hκ
        go_upto_region 18 with (fail)
        revert x0 x1 x2 x3 x4 x5 HP HK0
        generalize wr.alloc (.cells #[.int .u8 kd, .int .u64 wh, .int .u8 x.k, .int .i64 x.a, .int .i64 x.f, .int .u64 sv] 39) = wA
        intro x0 x1 x2 x3 x4 x5 HP HK0
        generalize wr.heap.size = X at *
        have hnW := HP.out.low.size
        clear d0 d1 d2 d3 d4 d5 x0 x1 x2 x3 x4 x5 HK0 hκ'
        go_wp2_with fail
        ((with_reducible refine (newS_own wA).mono ?_); rintro ee w3 ⟨q, rfl, R3, oq, hb3⟩)
        have HR3 := Lib.hid R3
        have HOQ := Lib.hid (OwnX.mono oq (Nat.le_refl wA.heap.size))
        have HB3 := Lib.hid hb3
        clear R3 oq hb3
        go_wp2_with fail
        ((with_reducible refine (refB_all true w3).mono ?_); rintro ee w4 ⟨K, rfl, D4, oK, hb4⟩)
        have HN : Hid (NewBox W.heap.size wA 1 [.pointer none, .pointer (some ⟨q, 0, none⟩), .pointer (some ⟨K, 0, none⟩)] w4.heap.size q K (w4.alloc (.cells #[.pointer none, .pointer (some ⟨q, 0, none⟩), .pointer (some ⟨K, 0, none⟩)] 46))) := box_new (bl_to9 HB3.out hb4) (jo_new (BNum.new true) (.inr ⟨rfl, rfl⟩) hnW HR3.out HOQ.out (Below.refl _ w3) D4 oK hb4)
        clear D4 oK hb4 HR3 HOQ HB3
        go_upto_region 19 with (fail)
        revert HN
        generalize w4.alloc (.cells #[.pointer none, .pointer (some ⟨q, 0, none⟩), .pointer (some ⟨K, 0, none⟩)] 46) = wc
        generalize w4.heap.size = T
        intro HN
        obtain ⟨J4, hfp⟩ := HN.out.jo
        have HOLD := Lib.hid (HP.out.old (Nat.le_refl wA.heap.size))
        have HP4 := Lib.hid (HP.out.below HN.out.low)
        have HJ4 := Lib.hid J4
        have HFP := Lib.hid hfp
        have HBX := Lib.hid HN.out.box
        obtain ⟨e0, e1, e2⟩ := HN.out.box.cells3
        have hrl3 : rows.length ≤ 300 := by have := HRL.out; omega
        clear J4 hfp HN HP
        have HA5 := Lib.hid (show Below wc.heap.size wc (wc.alloc (.cells #[.pointer none, .pointer (some ⟨q, 0, none⟩), .pointer (some ⟨K, 0, none⟩)] 46)) from (Below.refl _ _).alloc (Nat.le_refl _) _)
        have HC5 := Lib.hid (cells_newP wc [.pointer none, .pointer (some ⟨q, 0, none⟩), .pointer (some ⟨K, 0, none⟩)] 46)
        have HP5 := Lib.hid (HP4.out.below HA5.out)
        have HJ5 := Lib.hid (HJ4.out.below HA5.out)
        clear HP4 HJ4
        go_wp2_with (at_builtin; go_loud (refine wpList_append_own_at _ rfl (.tmp 72) (.tmp 74) 30 rfl W.heap.size 46 i2 _ 3 24 Tryd.underlying30 hi2 hy0 hy1 hy2 rfl (by decide) _ rows.length (flatJ rows) rfl HP5.out.row ⟨wc.heap.size, 0, none⟩ 1 1 (JO.cells ⟨1, q, K⟩) rfl rfl HC5.out (cellsJ_one _) (by unfold maxLen; omega) (by omega) HP5.out.low.size ?_; intro v' w6 h6 g6 _ _; have HP6 := Lib.hid (HP5.out.push (n0 := wA.heap.size) h1W h6 g6 HJ5.out HFP.out HOLD.out); obtain ⟨b0, b1⟩ := HP6.out.boxes; clear h6 g6))
        go_wp2_with fail
        ((with_reducible refine (both_same HP6.out.both).mono ?_); rintro ee w7 ⟨rfl, hb7⟩)
        have HP7 := Lib.hid (HP6.out.below hb7)
        clear HP6 hb7 b0 b1
        go_wp2_with fail
        go_roundw
        case rel => exact ⟨i + 1, rows ++ [⟨1, q, K⟩], by omega, by go_num, Lib.hid ⟨by simp only [List.length_append, List.length_singleton]; have := HRL.out; omega, HP7.out.mono (by omega)⟩⟩
        case measure => simp [intOf]; omega
      · have hκ' : Int.tmod kd 6 = 2 := hκ
        clear hκ
        obtain ⟨b0, b1⟩ := HP.out.boxes
        go_wp2_with fail
        ((with_reducible refine (both_store HP.out.both HP.out.laym (by omega) x sv HSV.out).mono ?_); rintro ee w6 ⟨rfl, hB6, hf6⟩)
        have HP6 := Lib.hid (HP.out.fxl0 h1W (.of_fr hf6 HP.out.mW) hB6)
        clear hf6 hB6 b0 b1 HP d0 d1 d2 d3 d4 d5 x0 x1 x2 x3 x4 x5 HK0 hκ'
        obtain ⟨b0, b1⟩ := HP6.out.boxes
        go_wp2_with fail
        ((with_reducible refine (both_same HP6.out.both).mono ?_); rintro ee w7 ⟨rfl, hb7⟩)
        have HP7 := Lib.hid (HP6.out.below hb7)
        clear HP6 hb7 b0 b1
        go_wp2_with fail
        go_roundw
        case rel => exact ⟨i + 1, rows, by omega, by go_num, Lib.hid ⟨by have := HRL.out; omega, HP7.out.mono (by omega)⟩⟩
        case measure => simp [intOf]; omega
      · have hκa : ((κ : Int) == 0) = false := by simp; omega
        have hκb : ((κ : Int) == 1) = false := by simp; omega
        have hκc : ((κ : Int) == 2) = false := by simp; omega
        have hκw := u8_wrapP (show κ < 256 by omega)
        obtain ⟨A', c', hv', hnc, hcm, hAg⟩ := own_sliceP HP.out.row
        rw [hv'] at HP ⊢
        obtain ⟨M, hM⟩ : ∃ M, rows.length = M := ⟨_, rfl⟩
        have HM2 := Lib.hid hM
        rw [hM] at HP hnc hAg ⊢
        clear hM hv'
        by_cases hM0 : M = 0
        · subst hM0
          clear hAg
          go_upto_region 10 with (fail)
          clear d0 d1 d2 d3 d4 d5 x0 x2 x3 x4 x5 HK0 hκ hκa hκb hκc hκw
          revert x1 HP
          generalize wr.alloc (.cells #[.int .u8 kd, .int .u64 wh, .int .u8 x.k, .int .i64 x.a, .int .i64 x.f, .int .u64 sv] 39) = wB
          generalize wr.heap.size = X at *
          intro x1 HP
          go_quiet (fail)
          have HPq := Lib.hid (HP.out.below (below_drewN' (Below.refl _ _) nq))
          obtain ⟨b0, b1⟩ := HPq.out.boxes
          clear HP
          revert HPq b0 b1
          generalize wB.drewN nq = wq
          intro HPq b0 b1
          have HP6 := HPq
          clear HPq
          go_wp2_with fail
          ((with_reducible refine (both_same HP6.out.both).mono ?_); rintro ee w7 ⟨rfl, hb7⟩)
          have HP7 := Lib.hid (HP6.out.below hb7)
          clear HP6 hb7 b0 b1
          go_wp2_with fail
          go_roundw
          case rel => exact ⟨i + 1, rows, by omega, by go_num, Lib.hid ⟨by have := HRL.out; omega, HP7.out.mono (by omega)⟩⟩
          case measure => simp [intOf]; omega
        · obtain ⟨g', rfl⟩ := hAg (by omega)
          obtain ⟨k, hkM, hk⟩ : ∃ k : Nat, k < M ∧ Int.tmod wh (M : Int) = (k : Int) := by
            have h0 : 0 ≤ wh := (u64_ofP HWH.out).1
            have h1 := Int.emod_nonneg wh (b := (M : Int)) (by omega)
            have h2 := Int.emod_lt_of_pos wh (b := (M : Int)) (by omega)
            refine ⟨(wh % (M : Int)).toNat, by omega, ?_⟩
            rw [Int.tmod_eq_emod_of_nonneg h0]
            omega
          have hk0 : (0 : Int) ≤ (k : Int) := by omega
          have hkM' : (k : Int) < (M : Int) := by omega
          have hM0' : (0 : Int) < (M : Int) := by omega
          have hMn : 0 < M := by omega
          have hMw : IntKind.u64.wrap (M : Int) = (M : Int) := by rw [IntKind.wrap_u64]; omega
          have hkw : IntKind.u64.wrap (k : Int) = (k : Int) := by rw [IntKind.wrap_u64]; omega
          have hMd : decide ((0 : Int) < (M : Int)) = true := decide_eq_true hM0'
          have hMe : decide (0 < M) = true := decide_eq_true hMn
          have hMp : ((M : Int) == 0) = false := by simp; omega
          have hMq : ¬ ((M : Int) = 0) := by omega
          go_upto_region 10 with (fail)
          have HKX := HK0
          clear d0 d1 d2 d3 d4 d5 x0 x1 x2 x3 x4 x5 HK0 hκ hκa hκb hκc hκw
          revert HKX HP
          generalize wr.alloc (.cells #[.int .u8 kd, .int .u64 wh, .int .u8 x.k, .int .i64 x.a, .int .i64 x.f, .int .u64 sv] 39) = wB
          generalize wr.heap.size = X at *
          intro HP HKX
          obtain ⟨xj, cs, hxk, kg, hcell⟩ := HP.out.pick HM2.out hkM
          obtain ⟨v0, v1, v2, hxc⟩ := xj.cells_ptr
          have y0 := hcell 0 (by decide)
          have y1 := hcell 1 (by decide)
          have y2 := hcell 2 (by decide)
          rw [hxc] at y0 y1 y2
          simp only [Nat.add_zero, List.getElem?_cons_zero, List.getElem?_cons_succ] at y0 y1 y2
          have HXK := Lib.hid hxk
          have HXC := Lib.hid hxc
          have HKG := Lib.hid kg
          have HPd := Lib.hid (HP.out.below (Below.refl _ wB).drew)
          have hcall : Calls Tryd.prog 14 #[.agg #[.pointer v0, .pointer v1, .pointer v2], .agg #[.pointer (some ⟨p, 0, none⟩), .pointer (some ⟨b, 0, none⟩)]] wB.drew (StepS W.heap.size p m b (300 + i) xj wB.drew) := by
            have h := op_any h1W HPd.out.mW HPd.out.low.size (by omega) HPd.out.both HPd.out.lay HPd.out.laym (HPd.out.ops k xj HXK.out)
            rw [HXC.out] at h
            exact h
          have HCALL := Lib.hid hcall
          obtain ⟨b0, b1⟩ := HP.out.boxes
          have hs0 := Lib.hid (play_s b0 b1 (HKX.out.cell 1) y0 y1 y2)
          clear hxk hxc kg hcell hcall b0 b1 y0 y1 y2
          go_wp2_with fail
          go_region_held3 (fun w9 => w9.cell? ⟨T0, 0, none⟩ = some (.pointer (some ⟨p, 0, none⟩)) ∧ w9.cell? ⟨T0, 1, none⟩ = some (.pointer (some ⟨b, 0, none⟩)) ∧ w9.cell? ⟨X, 1, none⟩ = some (.int .u64 wh) ∧ w9.cell? ⟨g', k * 3, none⟩ = some (.pointer v0) ∧ w9.cell? ⟨g', k * 3 + 1, none⟩ = some (.pointer v1) ∧ w9.cell? ⟨g', k * 3 + 2, none⟩ = some (.pointer v2))
            (first | exact hs0.out | exact hs2.out | fail)
            (first
              | (go_at_call 14; (with_reducible refine HCALL.out.mono ?_); rintro ee w1 ⟨rfl, f1, B1, x', xs, J1⟩; have HP2 := Lib.hid (HPd.out.step h1W HXK.out f1 B1 xs J1); have hs2 := Lib.hid (play_s2 HPd.out.both f1 (HPd.out.ops k xj HXK.out).own HPd.out.box HKX.out HKG.out rfl hs0.out); have HX2 := Lib.hid (show x' = x' from rfl); clear f1 B1 xs J1)
              | fail)
          all_goals
            obtain ⟨b0, b1⟩ := HP2.out.boxes
            have HP6 := HP2
            clear HP2 hs0 hs2
            go_wp2_with fail
            ((with_reducible refine (both_same HP6.out.both).mono ?_); rintro ee w7 ⟨rfl, hb7⟩)
            have HP7 := Lib.hid (HP6.out.below hb7)
            clear HP6 hb7 b0 b1
            go_wp2_with fail
            go_roundw
            case rel => exact ⟨i + 1, rows.set k x', by omega, by go_num, Lib.hid ⟨by have := HRL.out; rw [List.length_set]; omega, HP7.out.mono (by omega)⟩⟩
            case measure => simp [intOf]; omega
    · have hge2 : (nn : Int) ≤ (i : Int) := by omega
      have HP := Lib.hid hst.out.2
      obtain ⟨b0, b1⟩ := HP.out.boxes
      clear hst
      go_wp2_with fail
      ((with_reducible refine (both_words HP.out.both (by omega)).mono ?_); rintro ee w6 ⟨rfl, hb6⟩)
      have HP6 := Lib.hid (HP.out.below hb6)
      clear HP hb6 b0 b1
      go_wp2_with fail
      ((with_reducible refine (lives11_any HP6.out.lay HP6.out.laym).mono ?_); rintro ee w7 ⟨rfl, hb7⟩)
      go_wp2_with fail
      go_ret
      exact ⟨rfl, HP6.out.low.trans (hb7.mono HP6.out.low.size)⟩
set_option maxRecDepth 100000 in
theorem play_long (ao0 ao1 : Option Addr) (cap0 nn0 cap1 nn1 : Nat) (W : World) (hL : Lay W) (hM : LayM W) (h : 300 < nn0 ∨ 300 < nn1) :
    Calls Tryd.prog 3 #[.slice ao0 nn0 cap0, .slice ao1 nn1 cap1] W fun e W' => e = .returned (.bool true) ∧ Below W.heap.size W W' := by
  have HL := Lib.hid hL
  have HM := Lib.hid hM
  clear hL hM
  by_cases h0 : 300 < nn0
  · have h0' : (300 : Int) < (nn0 : Int) := by omega
    clear h
    go_enter Tryd.func3, Tryd.ntmps3
    go_wp2_with fail
    ((with_reducible refine (lives11_any HL.out HM.out).mono ?_); rintro e w4 ⟨rfl, hb⟩)
    go_wp2_with fail
    go_ret
    exact ⟨rfl, hb⟩
  · have h1 : 300 < nn1 := by omega
    have h0' : (nn0 : Int) ≤ 300 := by omega
    have h1' : (300 : Int) < (nn1 : Int) := by omega
    clear h
    go_enter Tryd.func3, Tryd.ntmps3
    go_wp2_with fail
    ((with_reducible refine (lives11_any HL.out HM.out).mono ?_); rintro e w4 ⟨rfl, hb⟩)
    go_wp2_with fail
    go_ret
    exact ⟨rfl, hb⟩
set_option maxRecDepth 100000 in
set_option maxHeartbeats 4000000 in
theorem play_nil (ao1 : Option Addr) (cap1 nn1 : Nat) (W : World) (hL : Lay W) (hM : LayM W) (hn1 : nn1 ≤ 300)
    (hbeg : Calls Tryd.prog 9 #[.slice ao1 nn1 cap1] W fun e W' => ∃ p m b, e = .returned (.agg #[.pointer (some ⟨p, 0, none⟩), .pointer (some ⟨b, 0, none⟩)]) ∧ Both p m b nn1 W' ∧ W.heap.size ≤ m ∧ m < p ∧ p < b ∧ Below W.heap.size W W') :
    Calls Tryd.prog 3 #[.slice none 0 0, .slice ao1 nn1 cap1] W fun e W' => e = .returned (.bool true) ∧ Below W.heap.size W W' := by
  have HL := Lib.hid hL
  have HM := Lib.hid hM
  have HBG := Lib.hid hbeg
  have hn3 : ¬ ((300 : Int) < (nn1 : Int)) := by omega
  have hn4 : (nn1 : Int) ≤ 300 := by omega
  clear hL hM hbeg
  go_enter Tryd.func3, Tryd.ntmps3
  go_wp2_with fail
  (refine (HBG.out).mono ?_; rintro e w1 ⟨p, m, b, rfl, hB1, hWm, hmp, hpb, hb1⟩)
  have hX : Below w1.heap.size w1 (w1.alloc (.cells #[.pointer (some ⟨p, 0, none⟩), .pointer (some ⟨b, 0, none⟩)] 28)) := (Below.refl _ _).alloc (Nat.le_refl _) _
  have HS := Lib.hid (show PS W p m b w1.heap.size 300 [] (.slice none 0 0) (w1.alloc (.cells #[.pointer (some ⟨p, 0, none⟩), .pointer (some ⟨b, 0, none⟩)] 28)) from
    ⟨(hB1.mono (by omega)).below hX, (HL.out.below hb1).below hX, (HM.out.below hb1).below hX, hb1.trans (hX.mono hb1.size), hWm, Bq.new _ _ _, World.ownsRow_nil _ _ _ _, by simp, by simp⟩)
  clear hB1 hb1 hX HBG
  obtain ⟨b0, b1⟩ := HS.out.boxes
  go_wp2_with fail
  go_loopw [7] (fun j wr => j = .int .i64 0 ∧ wr = w1.alloc (.cells #[.pointer (some ⟨p, 0, none⟩), .pointer (some ⟨b, 0, none⟩)] 28)) (fun _ _ => 0)
  case atStart => exact ⟨rfl, rfl⟩
  case round =>
    obtain ⟨rfl, rfl⟩ := hrel
    go_wp2_with fail
    ((with_reducible refine (both_words HS.out.both (by omega)).mono ?_); rintro ee w6 ⟨rfl, hb6⟩)
    have HP6 := Lib.hid (HS.out.below hb6)
    clear HS hb6 b0 b1
    go_wp2_with fail
    ((with_reducible refine (lives11_any HP6.out.lay HP6.out.laym).mono ?_); rintro ee w7 ⟨rfl, hb7⟩)
    go_wp2_with fail
    go_ret
    exact ⟨rfl, HP6.out.low.trans (hb7.mono HP6.out.low.size)⟩
end Go.Proofs.YtffkjdmpeeagoaaDoor
