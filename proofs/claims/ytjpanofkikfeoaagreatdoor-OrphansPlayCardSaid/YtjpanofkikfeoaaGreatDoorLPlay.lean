/-
  The law OrphansPlay, walked: it returns true and only makes memory of its own; condition: the tables as laid, the acts and the first words lie as they say.
-/
import Derived.Test.YtjpanofkikfeoaaGreatDoorOD10
import Derived.Test.YtjpanofkikfeoaaGreatDoorOD11
import Derived.Test.YtjpanofkikfeoaaGreatDoorOL1
import Derived.Deep.DeepCutAuto
import Derived.Deep.RegionHeld3
import Derived.Deep.RegionWith
namespace Go.Proofs.YtjpanofkikfeoaaGreatDoor
open Go.RowKit Go.Maps

theorem cells_newP (w : World) (xs : List Value) (t : TypeId) : ∀ j u, xs[j]? = some u → (w.alloc (.cells xs.toArray t)).cell? ((⟨w.heap.size, 0, none⟩ : Addr).add j) = some u := by
  intro j u hj
  by_cases h : j = 0
  · subst h
    simp [Addr.add, hj]
  · simp [Addr.add, h, hj]
theorem box_put {B n0 T : Nat} {x : JO} {w9 w4 : World} {a b c : Value} (hx : x.cells = [a, b, c]) (HZ : Bq T 46 [.pointer none, .pointer none, .pointer none] w4) (hT : n0 ≤ T) (J : JAt B x w4) (hf : ∀ z ∈ x.fp, n0 ≤ z) (HB : Below n0 w9 w4) :
    NewBox B n0 x T (((w4.setCell ⟨T, 0, none⟩ a).setCell ⟨T, 1, none⟩ b).setCell ⟨T, 2, none⟩ c) ∧ Below n0 w9 (((w4.setCell ⟨T, 0, none⟩ a).setCell ⟨T, 1, none⟩ b).setCell ⟨T, 2, none⟩ c) := by
  have far : ∀ y, y ≠ T → (((w4.setCell ⟨T, 0, none⟩ a).setCell ⟨T, 1, none⟩ b).setCell ⟨T, 2, none⟩ c).heap[y]? = w4.heap[y]? := fun y hy => ((Below.heap_setCell _ ⟨T, 2, none⟩ c y hy).trans (Below.heap_setCell _ ⟨T, 1, none⟩ b y hy)).trans (Below.heap_setCell _ ⟨T, 0, none⟩ a y hy)
  exact ⟨⟨hT, by rw [hx]; exact ((HZ.set 0 a rfl).set 1 b rfl).set 2 c rfl, J.same fun y hy => far y ((J.own y hy).ne HZ rfl), hf⟩, ((HB.setCell (p := ⟨T, 0, none⟩) hT a).setCell (p := ⟨T, 1, none⟩) hT b).setCell (p := ⟨T, 2, none⟩) hT c⟩
theorem box_newP {B n0 : Nat} {x : JO} {w9 w4 : World} {a b c : Value} (hx : x.cells = [a, b, c]) (J : JAt B x w4) (hf : ∀ z ∈ x.fp, n0 ≤ z) (HB : Below w9.heap.size w9 w4) (hn : n0 = w9.heap.size := by rfl) :
    NewBox B n0 x w4.heap.size (w4.alloc (.cells #[a, b, c] 46)) ∧ Below w9.heap.size w9 (w4.alloc (.cells #[a, b, c] 46)) :=
  ⟨⟨by rw [hn]; exact HB.size, by rw [hx]; exact Bq.new w4 [a, b, c] _, J.below ((Below.refl _ _).alloc (Nat.le_refl _) _), hf⟩, HB.alloc HB.size _⟩
theorem u8_wrapP {k : Nat} (h : k < 256) : IntKind.u8.wrap (k : Int) = (k : Int) := by simp [IntKind.wrap, IntKind.bits, IntKind.signed]; omega
theorem own_sliceP {w : World} {base : Nat} {e : TypeId} {size : Nat} {v : Value} {n : Nat} {xs : List Value} (h : w.ownsRow base e size v n xs) : ∃ A c, v = .slice A n c ∧ n ≤ c ∧ c ≤ 9223372036854775807 ∧ (0 < n → ∃ g, A = some ⟨g, 0, none⟩) := by
  rcases h.2 with ⟨rfl, rfl⟩ | ⟨g, cap, cur, rfl, _, _, hc, hm, _⟩
  · exact ⟨none, 0, rfl, Nat.le_refl _, by omega, fun h => by omega⟩
  · exact ⟨_, cap, rfl, hc, by unfold maxLen at hm; exact hm, fun _ => ⟨g, rfl⟩⟩
theorem play_s {w : World} {T0 X g' k : Nat} {a b : Value} {wh : Int} {v0 v1 v2 : Value} (h0 : w.cell? ⟨T0, 0, none⟩ = some a) (h1 : w.cell? ⟨T0, 1, none⟩ = some b) (h2 : w.cell? ⟨X, 1, none⟩ = some (.int .i64 wh)) (y0 : w.cell? ⟨g', k * 3, none⟩ = some v0) (y1 : w.cell? ⟨g', k * 3 + 1, none⟩ = some v1) (y2 : w.cell? ⟨g', k * 3 + 2, none⟩ = some v2) :
    w.drew.cell? ⟨T0, 0, none⟩ = some a ∧ w.drew.cell? ⟨T0, 1, none⟩ = some b ∧ w.drew.cell? ⟨X, 1, none⟩ = some (.int .i64 wh) ∧ w.drew.cell? ⟨g', k * 3, none⟩ = some v0 ∧ w.drew.cell? ⟨g', k * 3 + 1, none⟩ = some v1 ∧ w.drew.cell? ⟨g', k * 3 + 2, none⟩ = some v2 := ⟨h0, h1, h2, y0, y1, y2⟩
theorem play_s2 {W w w' wB : World} {p m b c T0 X g' k : Nat} {x : JO} {a1 b1 : Value} {cs ds : List Value} {wh : Int} {v0 v1 v2 : Value} (h : Both p m b c w) (f : FxL W.heap.size p b x.fp w w') (ho : ∀ y ∈ x.fp, OwnX W.heap.size y w) (kT : Bq T0 28 [a1, b1] w) (kX : Bq X 39 ds wB) (kG : Bq g' 46 cs wB) (hw : w = wB.drew)
    (hs : w.cell? ⟨T0, 0, none⟩ = some a1 ∧ w.cell? ⟨T0, 1, none⟩ = some b1 ∧ w.cell? ⟨X, 1, none⟩ = some (.int .i64 wh) ∧ w.cell? ⟨g', k * 3, none⟩ = some v0 ∧ w.cell? ⟨g', k * 3 + 1, none⟩ = some v1 ∧ w.cell? ⟨g', k * 3 + 2, none⟩ = some v2) :
    w'.cell? ⟨T0, 0, none⟩ = some a1 ∧ w'.cell? ⟨T0, 1, none⟩ = some b1 ∧ w'.cell? ⟨X, 1, none⟩ = some (.int .i64 wh) ∧ w'.cell? ⟨g', k * 3, none⟩ = some v0 ∧ w'.cell? ⟨g', k * 3 + 1, none⟩ = some v1 ∧ w'.cell? ⟨g', k * 3 + 2, none⟩ = some v2 := by
  subst hw
  have kX2 : Bq X 39 ds wB.drew := kX.below (Below.refl _ wB).drew
  have kG2 : Bq g' 46 cs wB.drew := kG.below (Below.refl _ wB).drew
  have sT := bx_fxl h f kT (by decide) (own_noBx ho kT (by decide))
  have sX : Bq X 39 ds w' := by
    obtain ⟨n, D, s, L, P⟩ := h.parts
    obtain ⟨⟨cp, kp⟩, ⟨cb, kb⟩, _⟩ := Pr.blocks (M := ⟨vals L, s⟩) P
    exact f.far X _ _ _ kX2 (by decide) (kX2.ne kp (by decide)) (kX2.ne kb (by decide)) (fun hx => (ho X hx).ne kX2 (by decide) rfl)
  have sG := bx_fxl h f kG2 (by decide) (own_noBx ho kG2 (by decide))
  obtain ⟨h0, h1, h2, h3, h4, h5⟩ := hs
  exact ⟨(sT.cell 0).trans ((kT.cell 0).symm.trans h0), (sT.cell 1).trans ((kT.cell 1).symm.trans h1), (sX.cell 1).trans ((kX2.cell 1).symm.trans h2), (sG.cell _).trans ((kG2.cell _).symm.trans h3), (sG.cell _).trans ((kG2.cell _).symm.trans h4), (sG.cell _).trans ((kG2.cell _).symm.trans h5)⟩
theorem JO.cells_ptr (x : JO) : ∃ a0 a1 a2 : Option Addr, x.cells = [.pointer a0, .pointer a1, .pointer a2] := by
  unfold JO.cells
  split <;> exact ⟨_, _, _, rfl⟩
theorem u64_ofP {a : Int} (h : (Lit.int .u64 a).wf = true) : 0 ≤ a ∧ a < 18446744073709551616 := by
  simp [Lit.wf, IntKind.min, IntKind.max, IntKind.signed, IntKind.bits] at h
  omega
theorem World.size_alloc9 (w : World) (o : Obj) : (w.alloc o).heap.size = w.heap.size + 1 := by simp
set_option maxRecDepth 100000 in
set_option maxHeartbeats 16000000 in
theorem play_list (g off cap nn : Nat) (c : Nat → AcP) (ao1 : Option Addr) (cap1 nn1 : Nat) (W : World) (hL : Lay W) (hM : LayM W) (hc : ActCells W g off c nn) (hn : nn ≤ 300) (hn1 : nn1 ≤ 300)
    (hbeg : Calls Tryz.prog 5 #[.slice ao1 nn1 cap1] W fun e W' => ∃ p m b, e = .returned (.agg #[.pointer (some ⟨p, 0, none⟩), .pointer (some ⟨b, 0, none⟩)]) ∧ Both p m b nn1 W' ∧ W.heap.size ≤ m ∧ m < p ∧ p < b ∧ Below W.heap.size W W') :
    Calls Tryz.prog 3 #[.slice (some ⟨g, off, none⟩) nn cap, .slice ao1 nn1 cap1] W fun e W' => e = .returned (.bool true) ∧ Below W.heap.size W W' := by
  obtain ⟨i2, hi2, hy0, hy1, hy2⟩ := info_parts infoJ
  obtain ⟨i0, hi0, hz0, hz1, hz2⟩ := info_parts infoE
  have h1W : 1 < W.heap.size := by have := hM.1; have := hL.1; omega
  have HL := Lib.hid hL
  have HM := Lib.hid hM
  have HC := Lib.hid hc
  have HBG := Lib.hid hbeg
  have hn' : ¬ ((300 : Int) < (nn : Int)) := by omega
  have hn2 : (nn : Int) ≤ 300 := by omega
  have hn3 : ¬ ((300 : Int) < (nn1 : Int)) := by omega
  have hn4 : (nn1 : Int) ≤ 300 := by omega
  clear hL hM hc hbeg
  go_enter Tryz.func3, Tryz.ntmps3
  go_wp2_with fail
  (refine (HBG.out).mono ?_; rintro e w1 ⟨p, m, b, rfl, hB1, hWm, hmp, hpb, hb1⟩)
  have hX : Below w1.heap.size w1 (w1.alloc (.cells #[.pointer (some ⟨p, 0, none⟩), .pointer (some ⟨b, 0, none⟩)] 28)) := (Below.refl _ _).alloc (Nat.le_refl _) _
  have HS := Lib.hid (show PS W p m b w1.heap.size (300 + 0) [] (.slice none 0 0) (w1.alloc (.cells #[.pointer (some ⟨p, 0, none⟩), .pointer (some ⟨b, 0, none⟩)] 28)) from
    ⟨(hB1.mono (by omega)).below hX, (HL.out.below hb1).below hX, (HM.out.below hb1).below hX, hb1.trans (hX.mono hb1.size), hWm, Bq.new _ _ _, World.ownsRow_nil _ _ _ _, by simp, by simp⟩)
  clear hB1 hb1 hX HBG
  go_wp2_with fail
  revert HS
  generalize w1.alloc (.cells #[.pointer (some ⟨p, 0, none⟩), .pointer (some ⟨b, 0, none⟩)] 28) = w2
  intro HS
  generalize w1.heap.size = T0 at *
  go_loopw [6, 7] (fun v j wr => ∃ i : Nat, ∃ rows : List JO, i ≤ nn ∧ j = .int .i64 (i : Int) ∧ Hid (rows.length ≤ i ∧ PS W p m b T0 (300 + i) rows v wr)) (fun _ j _ => nn - (intOf j).toNat)
  case atStart => exact ⟨0, [], Nat.zero_le _, rfl, Lib.hid ⟨Nat.le_refl _, HS.out⟩⟩
  case round =>
    clear HS
    obtain ⟨i, rows, hi, rfl, hst⟩ := hrel
    have hge : (0 : Int) ≤ (i : Int) := by omega
    by_cases hlt : i < nn
    · have hlt' : (i : Int) < (nn : Int) := by omega
      obtain ⟨hrl, hps⟩ := hst.out
      obtain ⟨⟨d0, d1, d2, d3, d4, d5, d6⟩, hE, hok⟩ := (HC.out.below hps.low) i hlt
      generalize c i = ac at d0 d1 d2 d3 d4 d5 d6 hE hok
      obtain ⟨kd, wh, ax, nx, cx, es, ⟨x, sv, hsv⟩, hkd, hwh⟩ := ac
      dsimp only at d0 d1 d2 d3 d4 d5 d6 hE hok
      obtain rfl : nx = es.length := hE.len
      have hA : Below wr.heap.size wr (wr.alloc (.cells #[.int .u8 kd, .int .i64 wh, .slice ax es.length cx, .int .u8 x.k, .int .i64 x.a, .int .i64 x.f, .int .u64 sv] 39)) := (Below.refl _ _).alloc (Nat.le_refl _) _
      have k0 : Bq wr.heap.size 39 [.int .u8 kd, .int .i64 wh, .slice ax es.length cx, .int .u8 x.k, .int .i64 x.a, .int .i64 x.f, .int .u64 sv] (wr.alloc (.cells #[.int .u8 kd, .int .i64 wh, .slice ax es.length cx, .int .u8 x.k, .int .i64 x.a, .int .i64 x.f, .int .u64 sv] 39)) := Bq.new _ _ _
      have x0 := k0.cell 0
      have x1 := k0.cell 1
      have x2 := k0.cell 2
      have x3 := k0.cell 3
      have x4 := k0.cell 4
      have x5 := k0.cell 5
      have x6 := k0.cell 6
      simp only [List.getElem?_cons_zero, List.getElem?_cons_succ] at x0 x1 x2 x3 x4 x5 x6
      have HP := Lib.hid (hps.below hA)
      have HE := Lib.hid (hE.below hA)
      have HEK := Lib.hid hok
      have HRL := Lib.hid hrl
      have HSV := Lib.hid hsv
      have HWH := Lib.hid hwh
      obtain ⟨κ, hκ6, hκ⟩ : ∃ κ : Nat, κ < 6 ∧ Int.tmod kd 6 = (κ : Int) := by
        refine ⟨(kd % 6).toNat, by omega, ?_⟩
        rw [Int.tmod_eq_emod_of_nonneg hkd.1]
        omega
      have HK0 := Lib.hid k0
      clear hst hps hrl hA k0 hsv hwh hkd hE hok
      by_cases hnx : 20 < es.length
      · have hnx' : (20 : Int) < (es.length : Int) := by omega
        have HLV := Lib.hid (And.intro HP.out.lay (And.intro HP.out.laym HP.out.low))
        clear HP HE HK0 hκ
        go_wp2_with fail
        ((with_reducible refine (lives12_any HLV.out.1 HLV.out.2.1).mono ?_); rintro ee w7 ⟨rfl, hb7⟩)
        go_wp2_with fail
        go_ret
        exact ⟨rfl, HLV.out.2.2.trans (hb7.mono HLV.out.2.2.size)⟩
      have hnx' : (es.length : Int) ≤ 20 := by omega
      have HLE := Lib.hid (show es.length < 100000 by omega)
      obtain rfl | rfl | rfl | hκ3 : κ = 0 ∨ κ = 1 ∨ κ = 2 ∨ 3 ≤ κ := by omega
      · have hκ' : Int.tmod kd 6 = 0 := hκ
        clear hκ
        go_upto_region 15 with (fail)
        revert x0 x1 x2 x3 x4 x5 x6 HP HK0 HE
        generalize wr.alloc (.cells #[.int .u8 kd, .int .i64 wh, .slice ax es.length cx, .int .u8 x.k, .int .i64 x.a, .int .i64 x.f, .int .u64 sv] 39) = wA
        intro x0 x1 x2 x3 x4 x5 x6 HP HE HK0
        generalize wr.heap.size = X at *
        have hnW := HP.out.low.size
        have HKX := HK0
        clear d0 d1 d2 d3 d4 d5 d6 x0 x1 x3 x4 x5 x6 HK0 hκ'
        go_upto_region 16 with (at_builtin; refine wpList_append_ent hi0 hz0 hz1 hz2 rfl (.const (.slice none 0 0)) (.tmp 62) rfl wA.heap.size (.slice none 0 0) [] rfl (OwnE.nil _ _) (.slice ax es.length cx) es rfl HE.out (by have := HLE.out; simp; omega) (Nat.le_refl _) ?_; intro v' w9 h9 g9 _; rw [show ([] : List EP).length + es.length = es.length from Nat.zero_add _, show flatE ([] : List EP) ++ flatE es = flatE es from List.nil_append _] at h9; obtain ⟨A9, c9, rfl⟩ := ownsRow_form h9; have HT9 := Lib.hid (show OwnE w9 wA.heap.size (.slice A9 es.length c9) es from h9); have HB9 := Lib.hid (show Below wA.heap.size wA w9 from (Below.refl _ wA).grown g9 (Nat.le_refl _) fun _ e => by cases e); clear h9 g9)
        clear x2
        have HK9 := Lib.hid (HKX.out.below HB9.out)
        have HE9 := Lib.hid (HE.out.below HB9.out)
        have hnW9 := Nat.le_trans hnW HB9.out.size
        go_cut [10] (fun v10 wx => ∃ T q K P R, v10 = .pointer (some ⟨T, 0, none⟩) ∧ Hid (NewBox W.heap.size w9.heap.size ⟨0, q, K, P, R⟩ T wx ∧ Below w9.heap.size w9 wx))
        case first =>
          have hAD : Below w9.heap.size w9 (w9.alloc (.cells #[.pointer none, .pointer none, .pointer none] 46)).drew := ((Below.refl _ w9).alloc (Nat.le_refl _) _).drew
          have hD : Below w9.heap.size w9 w9.drew := (Below.refl _ w9).drew
          have HSA := Lib.hid (HT9.out.below hAD).see
          have HSB := Lib.hid (HT9.out.below hD).see
          have HAD := Lib.hid hAD
          have HDD := Lib.hid hD
          have HZA := Lib.hid (show Bq w9.heap.size 46 [.pointer none, .pointer none, .pointer none] (w9.alloc (.cells #[.pointer none, .pointer none, .pointer none] 46)).drew from zBox w9)
          have y2 : w9.drew.cell? ⟨X, 2, none⟩ = some (.slice ax es.length cx) := HK9.out.cell 2
          have y2' : (w9.alloc (.cells #[.pointer none, .pointer none, .pointer none] 46)).drew.cell? ⟨X, 2, none⟩ = some (.slice ax es.length cx) := (HK9.out.below hAD).cell 2
          clear hAD hD
          go_region_with (first
            | (go_at_call 6; (with_reducible refine (newGive_all HSA.out HEK.out HLE.out).mono ?_); rintro ee w3 ⟨q, fp, rfl, hf3, R3, hb3⟩; have HB3 := Lib.hid (bl_to9 HAD.out hb3); have HZ3 := Lib.hid (HZA.out.below hb3); have HF3 := Lib.hid (show ∀ y ∈ fp, w9.heap.size ≤ y from fun y hy => Nat.le_trans HAD.out.size (hf3 y hy)); have HR3 := Lib.hid R3; have y3 := (HK9.out.below HB3.out).cell 2; simp only [List.getElem?_cons_zero, List.getElem?_cons_succ] at y3; clear hf3 R3 hb3)
            | (go_at_call 6; (with_reducible refine (newGive_all HSB.out HEK.out HLE.out).mono ?_); rintro ee w3 ⟨q, fp, rfl, hf3, R3, hb3⟩; have HB3 := Lib.hid (bl_to9 HDD.out hb3); have HF3 := Lib.hid (show ∀ y ∈ fp, w9.heap.size ≤ y from fun y hy => Nat.le_trans HDD.out.size (hf3 y hy)); have HR3 := Lib.hid R3; have hA3 := (show Below w3.heap.size w3 (w3.alloc (.cells #[.pointer none, .pointer none, .pointer none] 46)) from (Below.refl _ _).alloc (Nat.le_refl _) _); have HA3 := Lib.hid hA3; have y3 := (HK9.out.below HB3.out).cell 2; have y3' := (HK9.out.below (bl_to9 HB3.out hA3)).cell 2; simp only [List.getElem?_cons_zero, List.getElem?_cons_succ] at y3 y3'; clear hf3 R3 hb3 hA3)
            | (go_at_call 7; (with_reducible refine (docNewG (w := w3) (HE9.out.below HB3.out) HLE.out).mono ?_); rintro ee w4 ⟨K, vv, rfl, D4⟩; have HJ4 := Lib.hid (jo_give (n0 := w9.heap.size) HEK.out HLE.out hnW9 HR3.out HF3.out (Nat.le_refl _) D4.low D4); have HB4 := Lib.hid (bl_to9 HB3.out D4.low); (try (have HZ4 := HZ3.out.below D4.low; obtain ⟨q0, q1, q2⟩ := HZ4.cells3; have z0 := HZ4.free 0; have z1 := HZ4.free 1; have z2 := HZ4.free 2; have HZ := Lib.hid HZ4; clear HZ4)); clear D4)
            | (go_at_call 7; (with_reducible refine (docNewG (w := w3.alloc (.cells #[.pointer none, .pointer none, .pointer none] 46)) (HE9.out.below (bl_to9 HB3.out HA3.out)) HLE.out).mono ?_); rintro ee w4 ⟨K, vv, rfl, D4⟩; have HJ4 := Lib.hid (jo_give (n0 := w9.heap.size) HEK.out HLE.out hnW9 HR3.out HF3.out HA3.out.size (HA3.out.trans (D4.low.mono HA3.out.size)) D4); have HB4 := Lib.hid (bl_to9 (bl_to9 HB3.out HA3.out) D4.low); have HZ4 := (zBox w3).below D4.low; obtain ⟨q0, q1, q2⟩ := HZ4.cells3; have z0 := HZ4.free 0; have z1 := HZ4.free 1; have z2 := HZ4.free 2; have HZ := Lib.hid HZ4; clear HZ4 D4))
          all_goals
            go_wp2_with fail
            go_meet
            obtain ⟨R', J4, hf4⟩ := HJ4.out
            have hf5 : ∀ z ∈ (⟨0, q, K, fp, R'⟩ : JO).fp, w9.heap.size ≤ z := fun z hz => (hf4 z hz).elim id fun h => Nat.le_trans HB3.out.size (by first | exact h | exact Nat.le_trans HA3.out.size h)
            first
              | exact ⟨_, q, K, fp, R', rfl, Lib.hid (box_put (n0 := w9.heap.size) (x := ⟨0, q, K, fp, R'⟩) (a := .pointer (some ⟨q, 0, none⟩)) (b := .pointer none) (c := .pointer (some ⟨K, 0, none⟩)) rfl HZ.out (by first | exact Nat.le_refl _ | exact HB3.out.size) J4 hf5 HB4.out)⟩
              | exact ⟨_, q, K, fp, R', rfl, Lib.hid (box_newP (n0 := w9.heap.size) (x := ⟨0, q, K, fp, R'⟩) (a := .pointer (some ⟨q, 0, none⟩)) (b := .pointer none) (c := .pointer (some ⟨K, 0, none⟩)) rfl J4 hf5 HB4.out)⟩
        case rest =>
          obtain ⟨T, q, K, P, R, rfl, HN⟩ := hcut
          rename World => wb
          have HBX := Lib.hid (show Bq T 46 [.pointer (some ⟨q, 0, none⟩), .pointer none, .pointer (some ⟨K, 0, none⟩)] wb from HN.out.1.box)
          have HTb := Lib.hid (HT9.out.below HN.out.2)
          have HEb := Lib.hid (HE9.out.below HN.out.2)
          have y2 := (HK9.out.below HN.out.2).cell 2
          simp only [List.getElem?_cons_zero, List.getElem?_cons_succ] at y2
          obtain ⟨e0, e1, e2⟩ := HBX.out.cells3
          go_wp2_with fail
          ((with_reducible refine (sameV HTb.out.see HEb.out HLE.out).mono ?_); rintro ee w5 ⟨rfl, hb5⟩)
          have HN5 := Lib.hid (HN.out.1.below hb5)
          have HT5 := Lib.hid (HTb.out.below hb5)
          have HB5 := Lib.hid (bl_to9 HN.out.2 hb5)
          clear hb5 HN HTb HEb HBX y2 e0 e1 e2
          go_wp2_with fail
          ((with_reducible refine (spoil_one HT5.out).mono ?_); rintro ee wc ⟨rfl, hb7, _, hk7⟩)
          have HN7 := Lib.hid (HN5.out.same (Y := wc) fun z h1 h2 => hk7 z h2 fun e => by have := HT9.out.lt e; omega)
          have HB7 := Lib.hid (show Below wA.heap.size wA wc from (HB9.out.trans (HB5.out.mono HB9.out.size)).trans hb7)
          clear hb7 hk7 HN5 HT5 HB5
          have HOLD := Lib.hid (HP.out.old (Nat.le_refl wA.heap.size))
          have HP4 := Lib.hid (HP.out.below HB7.out)
          have HJ4 := Lib.hid HN7.out.jo
          have HFP := Lib.hid (show ∀ z ∈ (⟨0, q, K, P, R⟩ : JO).fp, wA.heap.size ≤ z from fun z hz => Nat.le_trans HB9.out.size (HN7.out.hfp z hz))
          obtain ⟨e0, e1, e2⟩ := (show Bq T 46 [.pointer (some ⟨q, 0, none⟩), .pointer none, .pointer (some ⟨K, 0, none⟩)] wc from HN7.out.box).cells3
          clear HP HN7 HT9 HE9 HK9
          have HA5 := Lib.hid (show Below wc.heap.size wc (wc.alloc (.cells #[.pointer (some ⟨q, 0, none⟩), .pointer none, .pointer (some ⟨K, 0, none⟩)] 46)) from (Below.refl _ _).alloc (Nat.le_refl _) _)
          have HC5 := Lib.hid (cells_newP wc [.pointer (some ⟨q, 0, none⟩), .pointer none, .pointer (some ⟨K, 0, none⟩)] 46)
          have HP5 := Lib.hid (HP4.out.below HA5.out)
          have HJ5 := Lib.hid (HJ4.out.below HA5.out)
          have hrl3 : rows.length ≤ 300 := by have := HRL.out; omega
          clear HP4 HJ4
          go_wp2_with (at_builtin; go_loud (refine wpList_append_own_at _ rfl (.tmp 82) (.tmp 84) 30 rfl W.heap.size 46 i2 _ 3 24 Tryz.underlying30 hi2 hy0 hy1 hy2 rfl (by decide) _ rows.length (flatJ rows) rfl HP5.out.row ⟨wc.heap.size, 0, none⟩ 1 1 (JO.cells ⟨0, q, K, P, R⟩) rfl rfl HC5.out (cellsJ_one _) (by unfold maxLen; omega) (by omega) HP5.out.low.size ?_; intro v' w6 h6 g6 _ _; have HP6 := Lib.hid (HP5.out.push (n0 := wA.heap.size) h1W h6 g6 HJ5.out HFP.out HOLD.out); obtain ⟨b0, b1⟩ := HP6.out.boxes; clear h6 g6))
          go_wp2_with fail
          ((with_reducible refine (both_same HP6.out.both).mono ?_); rintro ee w7 ⟨rfl, hb7⟩)
          have HP7 := Lib.hid (HP6.out.below hb7)
          clear HP6 hb7 b0 b1
          go_wp2_with fail
          go_roundw
          case rel => exact ⟨i + 1, rows ++ [⟨0, q, K, P, R⟩], by omega, by go_num, Lib.hid ⟨by simp only [List.length_append, List.length_singleton]; have := HRL.out; omega, HP7.out.mono (by omega)⟩⟩
          case measure => simp [intOf]; omega
      · have hκ' : Int.tmod kd 6 = 1 := hκ
        clear hκ
        go_upto_region 22 with (fail)
        revert x0 x1 x2 x3 x4 x5 x6 HP HK0 HE
        generalize wr.alloc (.cells #[.int .u8 kd, .int .i64 wh, .slice ax es.length cx, .int .u8 x.k, .int .i64 x.a, .int .i64 x.f, .int .u64 sv] 39) = wA
        intro x0 x1 x2 x3 x4 x5 x6 HP HE HK0
        generalize wr.heap.size = X at *
        have hnW := HP.out.low.size
        clear d0 d1 d2 d3 d4 d5 d6 x0 x1 x2 x3 x4 x5 x6 HK0 hκ' HE
        go_wp2_with fail
        ((with_reducible refine (newTake_all wA).mono ?_); rintro ee w3 ⟨q, fp, rfl, hf3, R3, hb3⟩)
        have HR3 := Lib.hid R3
        have HF3 := Lib.hid hf3
        have HB3 := Lib.hid hb3
        clear R3 hf3 hb3
        go_wp2_with fail
        ((with_reducible refine (docNewT w3).mono ?_); rintro ee w4 ⟨K, rfl, hK4, D4, hb4⟩)
        have HJJ := Lib.hid (jo_take hnW HR3.out HF3.out hb4 hK4 D4)
        have HN := Lib.hid (box_newP (n0 := wA.heap.size) (x := ⟨1, q, K, fp, [K]⟩) (a := .pointer none) (b := .pointer (some ⟨q, 0, none⟩)) (c := .pointer (some ⟨K, 0, none⟩)) rfl HJJ.out.1 HJJ.out.2 (bl_to9 HB3.out hb4))
        clear D4 hb4 hK4 HR3 HF3 HB3 HJJ
        go_upto_region 23 with (fail)
        revert HN
        generalize w4.alloc (.cells #[.pointer none, .pointer (some ⟨q, 0, none⟩), .pointer (some ⟨K, 0, none⟩)] 46) = wc
        generalize w4.heap.size = T
        intro HN
        have HOLD := Lib.hid (HP.out.old (Nat.le_refl wA.heap.size))
        have HP4 := Lib.hid (HP.out.below HN.out.2)
        have HJ4 := Lib.hid HN.out.1.jo
        have HFP := Lib.hid HN.out.1.hfp
        have HBX := Lib.hid HN.out.1.box
        obtain ⟨e0, e1, e2⟩ := (show Bq T 46 [.pointer none, .pointer (some ⟨q, 0, none⟩), .pointer (some ⟨K, 0, none⟩)] wc from HBX.out).cells3
        clear HN HP
        have HA5 := Lib.hid (show Below wc.heap.size wc (wc.alloc (.cells #[.pointer none, .pointer (some ⟨q, 0, none⟩), .pointer (some ⟨K, 0, none⟩)] 46)) from (Below.refl _ _).alloc (Nat.le_refl _) _)
        have HC5 := Lib.hid (cells_newP wc [.pointer none, .pointer (some ⟨q, 0, none⟩), .pointer (some ⟨K, 0, none⟩)] 46)
        have HP5 := Lib.hid (HP4.out.below HA5.out)
        have HJ5 := Lib.hid (HJ4.out.below HA5.out)
        have hrl3 : rows.length ≤ 300 := by have := HRL.out; omega
        clear HP4 HJ4
        go_wp2_with (at_builtin; go_loud (refine wpList_append_own_at _ rfl (.tmp 94) (.tmp 96) 30 rfl W.heap.size 46 i2 _ 3 24 Tryz.underlying30 hi2 hy0 hy1 hy2 rfl (by decide) _ rows.length (flatJ rows) rfl HP5.out.row ⟨wc.heap.size, 0, none⟩ 1 1 (JO.cells ⟨1, q, K, fp, [K]⟩) rfl rfl HC5.out (cellsJ_one _) (by unfold maxLen; omega) (by omega) HP5.out.low.size ?_; intro v' w6 h6 g6 _ _; have HP6 := Lib.hid (HP5.out.push (n0 := wA.heap.size) h1W h6 g6 HJ5.out HFP.out HOLD.out); obtain ⟨b0, b1⟩ := HP6.out.boxes; clear h6 g6))
        go_wp2_with fail
        ((with_reducible refine (both_same HP6.out.both).mono ?_); rintro ee w7 ⟨rfl, hb7⟩)
        have HP7 := Lib.hid (HP6.out.below hb7)
        clear HP6 hb7 b0 b1
        go_wp2_with fail
        go_roundw
        case rel => exact ⟨i + 1, rows ++ [⟨1, q, K, fp, [K]⟩], by omega, by go_num, Lib.hid ⟨by simp only [List.length_append, List.length_singleton]; have := HRL.out; omega, HP7.out.mono (by omega)⟩⟩
        case measure => simp [intOf]; omega
      · have hκ' : Int.tmod kd 6 = 2 := hκ
        clear hκ
        obtain ⟨b0, b1⟩ := HP.out.boxes
        go_wp2_with fail
        ((with_reducible refine (both_store HP.out.both HP.out.laym (by omega) x sv HSV.out).mono ?_); rintro ee w6 ⟨rfl, hB6, hf6⟩)
        have HP6 := Lib.hid (HP.out.fxl0 h1W (.of_fr hf6 HP.out.mW) hB6)
        clear hf6 hB6 b0 b1 HP HE d0 d1 d2 d3 d4 d5 d6 x0 x1 x2 x3 x4 x5 x6 HK0 hκ'
        obtain ⟨b0, b1⟩ := HP6.out.boxes
        go_wp2_with fail
        ((with_reducible refine (both_same HP6.out.both).mono ?_); rintro ee w7 ⟨rfl, hb7⟩)
        have HP7 := Lib.hid (HP6.out.below hb7)
        clear HP6 hb7 b0 b1
        go_wp2_with fail
        go_roundw
        case rel => exact ⟨i + 1, rows, by omega, by go_num, Lib.hid ⟨by have := HRL.out; omega, HP7.out.mono (by omega)⟩⟩
        case measure => simp [intOf]; omega
      · have hκa : ((κ : Int) == 0) = false := by simp; omega
        have hκb : ((κ : Int) == 1) = false := by simp; omega
        have hκc : ((κ : Int) == 2) = false := by simp; omega
        have hκw := u8_wrapP (show κ < 256 by omega)
        obtain ⟨A', c', hv', hnc, hcm, hAg⟩ := own_sliceP HP.out.row
        rw [hv'] at HP ⊢
        obtain ⟨M, hM⟩ : ∃ M, rows.length = M := ⟨_, rfl⟩
        have HM2 := Lib.hid hM
        rw [hM] at HP hnc hAg ⊢
        clear hM hv'
        by_cases hM0 : M = 0
        · subst hM0
          clear hAg
          go_upto_region 12 with (fail)
          clear d0 d1 d2 d3 d4 d5 d6 x0 x2 x3 x4 x5 x6 HK0 hκ hκa hκb hκc hκw HE
          revert x1 HP
          generalize wr.alloc (.cells #[.int .u8 kd, .int .i64 wh, .slice ax es.length cx, .int .u8 x.k, .int .i64 x.a, .int .i64 x.f, .int .u64 sv] 39) = wB
          generalize wr.heap.size = X at *
          intro x1 HP
          go_quiet (fail)
          have HPq := Lib.hid (HP.out.below (below_drewN' (Below.refl _ _) nq))
          obtain ⟨b0, b1⟩ := HPq.out.boxes
          clear HP
          revert HPq b0 b1
          generalize wB.drewN nq = wq
          intro HPq b0 b1
          have HP6 := HPq
          clear HPq
          go_wp2_with fail
          ((with_reducible refine (both_same HP6.out.both).mono ?_); rintro ee w7 ⟨rfl, hb7⟩)
          have HP7 := Lib.hid (HP6.out.below hb7)
          clear HP6 hb7 b0 b1
          go_wp2_with fail
          go_roundw
          case rel => exact ⟨i + 1, rows, by omega, by go_num, Lib.hid ⟨by have := HRL.out; omega, HP7.out.mono (by omega)⟩⟩
          case measure => simp [intOf]; omega
        · obtain ⟨g', rfl⟩ := hAg (by omega)
          obtain ⟨u, hu⟩ : ∃ u : Int, IntKind.u64.wrap wh = u := ⟨_, rfl⟩
          obtain ⟨k, hkM, hk⟩ : ∃ k : Nat, k < M ∧ Int.tmod u (M : Int) = (k : Int) := by
            have h0 : 0 ≤ u := by rw [← hu, IntKind.wrap_u64]; omega
            have h1 := Int.emod_nonneg u (b := (M : Int)) (by omega)
            have h2 := Int.emod_lt_of_pos u (b := (M : Int)) (by omega)
            refine ⟨(u % (M : Int)).toNat, by omega, ?_⟩
            rw [Int.tmod_eq_emod_of_nonneg h0]
            omega
          have hk0 : (0 : Int) ≤ (k : Int) := by omega
          have hkM' : (k : Int) < (M : Int) := by omega
          have hM0' : (0 : Int) < (M : Int) := by omega
          have hMn : 0 < M := by omega
          have hMw : IntKind.u64.wrap (M : Int) = (M : Int) := by rw [IntKind.wrap_u64]; omega
          have hkw : IntKind.u64.wrap (k : Int) = (k : Int) := by rw [IntKind.wrap_u64]; omega
          have hMd : decide ((0 : Int) < (M : Int)) = true := decide_eq_true hM0'
          have hMe : decide (0 < M) = true := decide_eq_true hMn
          have hMp : ((M : Int) == 0) = false := by simp; omega
          have hMq : ¬ ((M : Int) = 0) := by omega
          go_upto_region 12 with (fail)
          have HKX := HK0
          clear d0 d1 d2 d3 d4 d5 d6 x0 x1 x2 x3 x4 x5 x6 HK0 hκ hκa hκb hκc hκw HE
          revert HKX HP
          generalize wr.alloc (.cells #[.int .u8 kd, .int .i64 wh, .slice ax es.length cx, .int .u8 x.k, .int .i64 x.a, .int .i64 x.f, .int .u64 sv] 39) = wB
          generalize wr.heap.size = X at *
          intro HP HKX
          obtain ⟨xj, cs, hxk, kg, hcell⟩ := HP.out.pick HM2.out hkM
          obtain ⟨v0, v1, v2, hxc⟩ := xj.cells_ptr
          have y0 := hcell 0 (by decide)
          have y1 := hcell 1 (by decide)
          have y2 := hcell 2 (by decide)
          rw [hxc] at y0 y1 y2
          simp only [Nat.add_zero, List.getElem?_cons_zero, List.getElem?_cons_succ] at y0 y1 y2
          have HXK := Lib.hid hxk
          have HXC := Lib.hid hxc
          have HKG := Lib.hid kg
          have HPd := Lib.hid (HP.out.below (Below.refl _ wB).drew)
          have hcall : Calls Tryz.prog 13 #[.agg #[.pointer v0, .pointer v1, .pointer v2], .agg #[.pointer (some ⟨p, 0, none⟩), .pointer (some ⟨b, 0, none⟩)]] wB.drew (StepS W.heap.size p m b (300 + i) xj wB.drew) := by
            have h := op_any h1W HPd.out.mW HPd.out.low.size (by omega) HPd.out.both HPd.out.lay HPd.out.laym (HPd.out.ops k xj HXK.out)
            rw [HXC.out] at h
            exact h
          have HCALL := Lib.hid hcall
          obtain ⟨b0, b1⟩ := HP.out.boxes
          have hs0 := Lib.hid (play_s b0 b1 (HKX.out.cell 1) y0 y1 y2)
          clear hxk hxc kg hcell hcall b0 b1 y0 y1 y2
          go_wp2_with fail
          go_region_held3 (fun w9 => w9.cell? ⟨T0, 0, none⟩ = some (.pointer (some ⟨p, 0, none⟩)) ∧ w9.cell? ⟨T0, 1, none⟩ = some (.pointer (some ⟨b, 0, none⟩)) ∧ w9.cell? ⟨X, 1, none⟩ = some (.int .i64 wh) ∧ w9.cell? ⟨g', k * 3, none⟩ = some (.pointer v0) ∧ w9.cell? ⟨g', k * 3 + 1, none⟩ = some (.pointer v1) ∧ w9.cell? ⟨g', k * 3 + 2, none⟩ = some (.pointer v2))
            (first | exact hs0.out | exact hs2.out | fail)
            (first
              | (go_at_call 13; (with_reducible refine HCALL.out.mono ?_); rintro ee w1 ⟨rfl, f1, B1, x', xs, J1⟩; have HP2 := Lib.hid (HPd.out.step h1W HXK.out f1 B1 xs J1); have hs2 := Lib.hid (play_s2 HPd.out.both f1 (HPd.out.ops k xj HXK.out).own HPd.out.box HKX.out HKG.out rfl hs0.out); have HX2 := Lib.hid (show x' = x' from rfl); clear f1 B1 xs J1)
              | fail)
          all_goals
            obtain ⟨b0, b1⟩ := HP2.out.boxes
            have HP6 := HP2
            clear HP2 hs0 hs2
            go_wp2_with fail
            ((with_reducible refine (both_same HP6.out.both).mono ?_); rintro ee w7 ⟨rfl, hb7⟩)
            have HP7 := Lib.hid (HP6.out.below hb7)
            clear HP6 hb7 b0 b1
            go_wp2_with fail
            go_roundw
            case rel => exact ⟨i + 1, rows.set k x', by omega, by go_num, Lib.hid ⟨by have := HRL.out; rw [List.length_set]; omega, HP7.out.mono (by omega)⟩⟩
            case measure => simp [intOf]; omega
    · have hge2 : (nn : Int) ≤ (i : Int) := by omega
      have HP := Lib.hid hst.out.2
      obtain ⟨b0, b1⟩ := HP.out.boxes
      clear hst
      go_wp2_with fail
      ((with_reducible refine (both_words HP.out.both (by omega)).mono ?_); rintro ee w6 ⟨rfl, hb6⟩)
      have HP6 := Lib.hid (HP.out.below hb6)
      clear HP hb6 b0 b1
      go_wp2_with fail
      ((with_reducible refine (lives12_any HP6.out.lay HP6.out.laym).mono ?_); rintro ee w7 ⟨rfl, hb7⟩)
      go_wp2_with fail
      go_ret
      exact ⟨rfl, HP6.out.low.trans (hb7.mono HP6.out.low.size)⟩
set_option maxRecDepth 100000 in
theorem play_long (ao0 ao1 : Option Addr) (cap0 nn0 cap1 nn1 : Nat) (W : World) (hL : Lay W) (hM : LayM W) (h : 300 < nn0 ∨ 300 < nn1) :
    Calls Tryz.prog 3 #[.slice ao0 nn0 cap0, .slice ao1 nn1 cap1] W fun e W' => e = .returned (.bool true) ∧ Below W.heap.size W W' := by
  have HL := Lib.hid hL
  have HM := Lib.hid hM
  clear hL hM
  by_cases h0 : 300 < nn0
  · have h0' : (300 : Int) < (nn0 : Int) := by omega
    clear h
    go_enter Tryz.func3, Tryz.ntmps3
    go_wp2_with fail
    ((with_reducible refine (lives12_any HL.out HM.out).mono ?_); rintro e w4 ⟨rfl, hb⟩)
    go_wp2_with fail
    go_ret
    exact ⟨rfl, hb⟩
  · have h1 : 300 < nn1 := by omega
    have h0' : (nn0 : Int) ≤ 300 := by omega
    have h1' : (300 : Int) < (nn1 : Int) := by omega
    clear h
    go_enter Tryz.func3, Tryz.ntmps3
    go_wp2_with fail
    ((with_reducible refine (lives12_any HL.out HM.out).mono ?_); rintro e w4 ⟨rfl, hb⟩)
    go_wp2_with fail
    go_ret
    exact ⟨rfl, hb⟩
set_option maxRecDepth 100000 in
set_option maxHeartbeats 4000000 in
theorem play_nil (ao1 : Option Addr) (cap1 nn1 : Nat) (W : World) (hL : Lay W) (hM : LayM W) (hn1 : nn1 ≤ 300)
    (hbeg : Calls Tryz.prog 5 #[.slice ao1 nn1 cap1] W fun e W' => ∃ p m b, e = .returned (.agg #[.pointer (some ⟨p, 0, none⟩), .pointer (some ⟨b, 0, none⟩)]) ∧ Both p m b nn1 W' ∧ W.heap.size ≤ m ∧ m < p ∧ p < b ∧ Below W.heap.size W W') :
    Calls Tryz.prog 3 #[.slice none 0 0, .slice ao1 nn1 cap1] W fun e W' => e = .returned (.bool true) ∧ Below W.heap.size W W' := by
  have HL := Lib.hid hL
  have HM := Lib.hid hM
  have HBG := Lib.hid hbeg
  have hn3 : ¬ ((300 : Int) < (nn1 : Int)) := by omega
  have hn4 : (nn1 : Int) ≤ 300 := by omega
  clear hL hM hbeg
  go_enter Tryz.func3, Tryz.ntmps3
  go_wp2_with fail
  (refine (HBG.out).mono ?_; rintro e w1 ⟨p, m, b, rfl, hB1, hWm, hmp, hpb, hb1⟩)
  have hX : Below w1.heap.size w1 (w1.alloc (.cells #[.pointer (some ⟨p, 0, none⟩), .pointer (some ⟨b, 0, none⟩)] 28)) := (Below.refl _ _).alloc (Nat.le_refl _) _
  have HS := Lib.hid (show PS W p m b w1.heap.size 300 [] (.slice none 0 0) (w1.alloc (.cells #[.pointer (some ⟨p, 0, none⟩), .pointer (some ⟨b, 0, none⟩)] 28)) from
    ⟨(hB1.mono (by omega)).below hX, (HL.out.below hb1).below hX, (HM.out.below hb1).below hX, hb1.trans (hX.mono hb1.size), hWm, Bq.new _ _ _, World.ownsRow_nil _ _ _ _, by simp, by simp⟩)
  clear hB1 hb1 hX HBG
  obtain ⟨b0, b1⟩ := HS.out.boxes
  go_wp2_with fail
  go_loopw [7] (fun j wr => j = .int .i64 0 ∧ wr = w1.alloc (.cells #[.pointer (some ⟨p, 0, none⟩), .pointer (some ⟨b, 0, none⟩)] 28)) (fun _ _ => 0)
  case atStart => exact ⟨rfl, rfl⟩
  case round =>
    obtain ⟨rfl, rfl⟩ := hrel
    go_wp2_with fail
    ((with_reducible refine (both_words HS.out.both (by omega)).mono ?_); rintro ee w6 ⟨rfl, hb6⟩)
    have HP6 := Lib.hid (HS.out.below hb6)
    clear HS hb6 b0 b1
    go_wp2_with fail
    ((with_reducible refine (lives12_any HP6.out.lay HP6.out.laym).mono ?_); rintro ee w7 ⟨rfl, hb7⟩)
    go_wp2_with fail
    go_ret
    exact ⟨rfl, HP6.out.low.trans (hb7.mono HP6.out.low.size)⟩
end Go.Proofs.YtjpanofkikfeoaaGreatDoor
