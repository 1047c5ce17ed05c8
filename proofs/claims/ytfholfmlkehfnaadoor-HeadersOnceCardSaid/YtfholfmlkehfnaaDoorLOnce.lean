/-
  The law HeadersOnce walked: it answers true, and changes nothing that was there; conditions: the program's five calls do as the plain side says, where what the program lays lies as laid.
-/
import Derived.Test.YtfholfmlkehfnaaDoorLO1
import Derived.Deep.RegionHeld3
namespace Go.Proofs.YtfholfmlkehfnaaDoor
open Go.RowKit

theorem wrap_i64_small {K : Nat} (h : K ≤ 1000) : IntKind.i64.wrap (K : Int) = (K : Int) := by rw [IntKind.wrap_i64]; omega
theorem wrap64_small {K : Nat} (h : K ≤ 1000) : wrap64 (K : Int) = (K : Int) := by unfold wrap64; omega
set_option maxRecDepth 100000 in
set_option maxHeartbeats 16000000 in
theorem lawOnce {L : World → Prop} (H : HPrg L) (A : Option Addr) (cap : Nat) (l : List Int) (z1 z2 : Int) (w : World) (hL : L w) (hs : Row w A (l.map cV)) (hu : ∀ x ∈ l, U8 x) (h1 : U8 z1) (h2 : U8 z2) (hl : l.length ≤ 200) :
    Calls Tryd.prog 6 #[.slice A l.length cap, .int .u8 z1, .int .u8 z2] w fun e w' => e = .returned (.bool true) ∧ Below w.heap.size w w' := by
  obtain ⟨i0, hi, hz0, hz1, hz2⟩ := info_parts Tryd_infoU
  unfold U8 at h1 h2
  obtain ⟨n, hn⟩ : ∃ n, z1 % 10 = n := ⟨_, rfl⟩
  have n0 : 0 ≤ n := by omega
  have n9 : n ≤ 9 := by omega
  have hm : U32 n := by unfold U32; omega
  have ho0 : HOk 0 0 n := ⟨by decide, by decide, by decide, n0, fun h => by cases h⟩
  have e1 : IntKind.u32.wrap z1 = z1 := by rw [IntKind.wrap_u32]; omega
  have e2 : IntKind.u32.wrap (z1 % 10) = n := by rw [IntKind.wrap_u32]; omega
  have e3 : z1.tmod 10 = n := by rw [Int.tmod_eq_emod_of_nonneg (by omega)]; exact hn
  have e4 : IntKind.u32.wrap n = n := by rw [IntKind.wrap_u32]; omega
  have HL := Lib.hid hL
  have HS := Lib.hid hs
  have HU := Lib.hid hu
  have HM := Lib.hid hm
  have HO0 := Lib.hid ho0
  have HZ2 := Lib.hid h2
  have HNN := Lib.hid hn
  clear hL hs hu hm ho0 h1 h2
  go_enter Tryd.func6, Tryd.ntmps6
  go_wp2_with (go_at_call 17; refine (of_any 0 0 w (H.lay _ HL.out) (by decide) (by decide) ⟨by decide, by decide⟩).mono ?_; rintro e w1 ⟨rfl, hb1⟩)
  have HB1 := Lib.hid hb1
  have HOW := Lib.hid (World.ownsRow_lit (base := w.heap.size) (size := 1) (e := 22) w1 #[uV (hw 0 0)] 1 hb1.size (by unfold maxLen; omega) rfl)
  have HBA := Lib.hid (hb1.alloc hb1.size (.cells #[uV (hw 0 0)] 22))
  have HP0 := Lib.hid (PastOk.start HO0.out HM.out)
  have HV0 := Lib.hid (LiveOk.start HO0.out)
  clear hb1
  go_loopw [8, 9, 10] (fun x v i wr => ∃ (k : Nat) (s g : Int) (ps : List Int), k ≤ l.length ∧ i = .int .i64 (k : Int) ∧ x = .int .u64 (hw s g) ∧ ps.length ≤ k + 1 ∧ wr.ownsRow w.heap.size 22 1 v ps.length (ps.map uV) ∧ HOk s g n ∧ PastOk ps s g n ∧ LiveOk ps s g n ∧ Below w.heap.size w wr) (fun _ _ i _ => l.length - (intOf i).toNat)
  case atStart => exact ⟨0, 0, 0, [hw 0 0], Nat.zero_le _, rfl, rfl, by simp, HOW.out, HO0.out, HP0.out, HV0.out, HBA.out⟩
  case round =>
    obtain ⟨k, s, g, ps, hk, rfl, rfl, hps, hown, ho, hp, hv, hlow⟩ := hrel
    obtain ⟨B, cb, rfl, q1, q2, _⟩ := own_slice hown
    have HR := Lib.hid (⟨hown, hlow⟩ : GAt w ps _ wr)
    have HO := Lib.hid ho
    have HP := Lib.hid hp
    have HV := Lib.hid hv
    have hk0 : (0 : Int) ≤ (k : Int) := by omega
    clear hown ho hp hv hlow
    by_cases hlt : k < l.length
    · have hlt' : (k : Int) < (l.length : Int) := by omega
      obtain ⟨ga, off, rfl, hc⟩ := (HS.out.below (HR.out.low.mono (Nat.le_refl _))).at_ (k := k) (by rw [List.length_map]; exact hlt)
      have y := hc k _ (bytes_at hlt)
      have hbd : U8 (l.getD k 0) := by
        rw [List.getD_eq_getElem?_getD, List.getElem?_eq_getElem hlt]
        exact HU.out _ (List.getElem_mem hlt)
      obtain ⟨z, hz⟩ : ∃ z, l.getD k 0 = z := ⟨_, rfl⟩
      rw [hz] at y hbd
      unfold U8 at hbd
      obtain ⟨z0, z255⟩ := hbd
      obtain ⟨c, hcm⟩ : ∃ c, z % 8 = c := ⟨_, rfl⟩
      have c0 : 0 ≤ c := by omega
      have c8 : c ≤ 7 := by omega
      have hcu : U8 c := ⟨c0, by omega⟩
      have e5 : z.tmod 8 = c := by rw [Int.tmod_eq_emod_of_nonneg z0]; exact hcm
      have e6 : IntKind.u8.wrap c = c := by rw [IntKind.wrap_u8]; omega
      have D1 := Lib.hid (H.done (hw s g) c n wr (H.low _ _ HL.out (HR.out.low.mono (Nat.le_refl _))) (hw_u64 HO.out HM.out) hcu HM.out)
      have HDH := Lib.hid (done_hw (c := c) HO.out HM.out)
      clear hc hz
      cases hd : doneS s g c n with
      | none =>
        rw [HDH.out, hd, Option.map_none, told_none] at D1
        clear hd
        go_wp2_with fail
        refine D1.out.mono ?_
        rintro e w2 ⟨rfl, hb2⟩
        have HB2 := Lib.hid (HR.out.low.trans (hb2.mono HR.out.low.size))
        have HO2 := Lib.hid (own_low HR.out.own hb2)
        clear hb2
        go_wp2_with fail
        go_roundw
        case rel => exact ⟨k + 1, s, g, ps, by omega, by go_num, rfl, by omega, HO2.out, HO.out, HP.out, HV.out, HB2.out⟩
        case measure => simp [intOf]; omega
      | some p =>
        obtain ⟨t, h⟩ := p
        obtain ⟨hst, hot⟩ := step_of HO.out hd
        have HT := Lib.hid hot
        have HPN := Lib.hid (HP.out.step HO.out HM.out hd)
        have HVN := Lib.hid (HV.out.step HO.out hd)
        rw [HDH.out, hd, Option.map_some, told_some] at D1
        clear hd hst hot HDH
        simp only at D1
        go_wp2_with fail
        refine D1.out.mono ?_
        rintro e w2 ⟨rfl, hb2⟩
        have HB2 := Lib.hid (HR.out.low.trans (hb2.mono HR.out.low.size))
        have HO2 := Lib.hid (own_low HR.out.own hb2)
        have HOA := Lib.hid (HO2.out.alloc (.cells #[uV (hw t h)] 22))
        have HBA2 := Lib.hid (HB2.out.alloc HB2.out.size (.cells #[uV (hw t h)] 22))
        clear hb2
        go_wp2_with (at_builtin; refine wpList_append_own _ rfl (.tmp 49) (.tmp 51) _ rfl w.heap.size 22 i0 _ 1 8 Tryd.underlying36 hi hz0 hz1 hz2 rfl (by decide) _ ps.length (ps.map uV) rfl HOA.out ⟨w2.heap.size, 0, Option.none⟩ 1 1 [uV (hw t h)] rfl rfl (cells_new w2 22 [uV (hw t h)]) (fun u hu => by rw [List.mem_singleton.1 hu]; rfl) (by unfold maxLen; omega) (by omega) HBA2.out.size ?_; intro v' w7 hown' hgrow _; have HO7 := Lib.hid hown'; have HG7 := Lib.hid (HBA2.out.grown hgrow HBA2.out.size (fun q hq => (HOA.out.lt q hq).1)); clear hown' hgrow)
        go_roundw
        case rel =>
          refine ⟨k + 1, t, h, ps ++ [hw t h], by omega, by go_num, rfl, by rw [List.length_append, List.length_singleton]; omega, ?_, HT.out, HPN.out, HVN.out, HG7.out⟩
          rw [List.length_append, List.map_append]
          exact HO7.out
        case measure => simp [intOf]; omega
    · have hge : (l.length : Int) ≤ (k : Int) := by omega
      go_wp2_with fail
      have hW1 : Below wr.heap.size wr (wr.alloc (.cells #[.int .i64 0, .int .i64 0, .int .i64 0, .int .i64 0, .int .i64 0, .int .i64 0, .int .i64 0, .int .i64 0, .int .i64 0, .int .i64 0] 45)) := (Below.refl _ _).alloc (Nat.le_refl _) _
      have HQ0 := Lib.hid (heap_alloc_new wr (.cells #[.int .i64 0, .int .i64 0, .int .i64 0, .int .i64 0, .int .i64 0, .int .i64 0, .int .i64 0, .int .i64 0, .int .i64 0, .int .i64 0] 45))
      have HR1 := Lib.hid (⟨own_low HR.out.own hW1, HR.out.low.trans (hW1.mono HR.out.low.size)⟩ : GAt w ps (.slice B ps.length cb) _)
      have hqw : w.heap.size ≤ wr.heap.size := HR.out.low.size
      have HQB := Lib.hid (show ∀ g, (Value.slice B ps.length cb).ownBlock = some g → g ≠ wr.heap.size from fun g hg => by have := (HR.out.own.lt g hg).2; omega)
      have hps1 : ps.length ≤ 201 := by omega
      have HC0 := Lib.hid (LiveC.start ps)
      clear hW1 HR hk hlt hge hps hk0 HO HU HS HP0 HV0 HOW HBA HB1 HO0
      revert HQ0 HR1
      generalize wr.alloc (.cells #[.int .i64 0, .int .i64 0, .int .i64 0, .int .i64 0, .int .i64 0, .int .i64 0, .int .i64 0, .int .i64 0, .int .i64 0, .int .i64 0] 45) = W1
      revert HQB hqw
      generalize wr.heap.size = q
      intro hqw HQB HQ0 HR1
      go_loopw [14] (fun i wq => ∃ (j : Nat) (c : Array Value), j ≤ ps.length ∧ i = .int .i64 (j : Int) ∧ Hid (LiveC c ps j) ∧ Hid (wq.heap[q]? = some (.cells c 45 (0, 0))) ∧ Hid (GAt w ps (.slice B ps.length cb) wq)) (fun i _ => ps.length - (intOf i).toNat)
      case atStart => exact ⟨0, _, Nat.zero_le _, rfl, HC0, HQ0, HR1⟩
      case round =>
        obtain ⟨j, c, hj, rfl, HC, HQ, HR2⟩ := hrel
        have hj0 : (0 : Int) ≤ (j : Int) := by omega
        clear HC0 HQ0 HR1
        by_cases hlt : j < ps.length
        · have hlt' : (j : Int) < (ps.length : Int) := by omega
          obtain ⟨gB, hBe, hg1, hg2⟩ := own_form HR2.out.own (by omega)
          subst hBe
          have yx : wr.cell? ⟨gB, j, none⟩ = some (.int .u64 (ps.getD j 0)) := by
            rw [HR2.out.own.cellAt j (by omega)]
            exact words_at hlt
          have hmem : ps.getD j 0 ∈ ps := by
            rw [List.getD_eq_getElem?_getD, List.getElem?_eq_getElem hlt]
            exact List.getElem_mem hlt
          obtain ⟨a, b, hxe, hab⟩ := HV.out.each _ hmem
          have HXE := Lib.hid hxe
          rw [hxe] at yx
          have CA := Lib.hid (asHeader_hw wr (H.lay _ (H.low _ _ HL.out (HR2.out.low.mono (Nat.le_refl _)))) hab HM.out)
          have hbn : b ≤ n := hab.gm
          have hb0 : 0 ≤ b := hab.g0
          have HAB := Lib.hid hab
          clear hmem hxe hab hg1 hg2
          by_cases ha : a = 1
          · subst ha
            obtain ⟨bN, rfl⟩ : ∃ bN : Nat, b = (bN : Int) := ⟨b.toNat, by omega⟩
            have hb10 : bN < 10 := by omega
            have hbi : (bN : Int) < 10 := by omega
            obtain ⟨V, hV⟩ : ∃ V : Nat, liveN (ps.take j) (bN : Int) = V := ⟨_, rfl⟩
            have hV1 : V ≤ 1 := by have h1 := liveN_le ps j (bN : Int); have h2 := HV.out.once (bN : Int); omega
            have eV : IntKind.i64.wrap ((V : Int) + 1) = (V : Int) + 1 := by rw [IntKind.wrap_i64]; omega
            have HVV := Lib.hid hV
            clear hV
            go_wp2_with (go_at_call 18; refine CA.out.mono ?_; rintro e w3 ⟨rfl, hb3⟩; have HQ3 := Lib.hid ((hb3.block q (Array.getElem?_eq_some_iff.1 HQ.out).1).trans HQ.out); have HO3 := Lib.hid (own_low HR2.out.own hb3); have HB3 := Lib.hid (HR2.out.low.trans (hb3.mono HR2.out.low.size)); clear hb3; have yq : w3.cell? ⟨q, bN, none⟩ = some (.int .i64 (V : Int)) := (by rw [cell_of_row _ _ _ _ _ _ HQ3.out, HC.out.at_ bN hb10, HVV.out]); have fq : w3.frozen? ⟨q, bN, none⟩ = false := frozen_of_row _ _ _ _ _ HQ3.out)
            go_roundw
            case rel =>
              have hp3 := put_setCell HQ3.out bN (.int .i64 ((V : Int) + 1))
              refine ⟨j + 1, _, by omega, by go_num, Lib.hid (HC.out.push hlt hb10 HXE.out _ (by rw [HVV.out])), Lib.hid hp3.at_, Lib.hid ⟨own_same HO3.out fun g hg => hp3.far g (HQB.out g hg), hp3.below HB3.out hqw⟩⟩
            case measure => simp [intOf]; omega
          · have hab1 : (a == 1) = false := beq_eq_false_iff_ne.2 ha
            have HSK := Lib.hid (HC.out.skip hlt (fun g e => by rw [HXE.out] at e; unfold hw at e; have := HAB.out.s0; have := HAB.out.s4; omega))
            go_wp2_with (go_at_call 18; refine CA.out.mono ?_; rintro e w3 ⟨rfl, hb3⟩; have HQ3 := Lib.hid ((hb3.block q (Array.getElem?_eq_some_iff.1 HQ.out).1).trans HQ.out); have HO3 := Lib.hid (own_low HR2.out.own hb3); have HB3 := Lib.hid (HR2.out.low.trans (hb3.mono HR2.out.low.size)); clear hb3)
            go_roundw
            case rel => exact ⟨j + 1, c, by omega, by go_num, HSK, HQ3, Lib.hid ⟨HO3.out, HB3.out⟩⟩
            case measure => simp [intOf]; omega
        · have hge : (ps.length : Int) ≤ (j : Int) := by omega
          have HC2 := Lib.hid (show ∀ i : Nat, i < 10 → c[i]? = some (.int .i64 ((liveN ps (i : Int) : Nat) : Int)) from fun i hi => by
            have := HC.out.at_ i hi
            rwa [show j = ps.length by omega, List.take_length] at this)
          go_wp2_with fail
          clear HC hj hlt hge hj0
          go_loopw [17] (fun i wq => wq = wr ∧ ∃ j2 : Nat, j2 ≤ 10 ∧ i = .int .i64 (j2 : Int)) (fun i _ => 10 - (intOf i).toNat)
          case atStart => exact ⟨rfl, 0, by omega, rfl⟩
          case round =>
            obtain ⟨rfl, j2, hj2, rfl⟩ := hrel
            have hj0 : (0 : Int) ≤ (j2 : Int) := by omega
            by_cases hlt : j2 < 10
            · have hlt' : (j2 : Int) < 10 := by omega
              obtain ⟨V, hV⟩ : ∃ V : Nat, liveN ps (j2 : Int) = V := ⟨_, rfl⟩
              have hV1 : V ≤ 1 := by have h2 := HV.out.once (j2 : Int); omega
              have hV2 : (V : Int) ≤ 1 := by omega
              have yq : wr.cell? ⟨q, j2, none⟩ = some (.int .i64 (V : Int)) := by rw [cell_of_row _ _ _ _ _ _ HQ.out, HC2.out j2 hlt, hV]
              clear hV
              go_wp2_with fail
              go_roundw
              case rel => exact ⟨trivial, j2 + 1, by omega, by go_num⟩
              case measure => simp [intOf]; omega
            · have hge : (10 : Int) ≤ (j2 : Int) := by omega
              have hpos := HP.out.pos
              obtain ⟨gB, hBe, hg1, hg2⟩ := own_form HR2.out.own hpos
              subst hBe
              obtain ⟨K, hK⟩ : ∃ K, z2.toNat % ps.length = K := ⟨_, rfl⟩
              have hKl : K < ps.length := by rw [← hK]; exact Nat.mod_lt _ hpos
              have hz2 := HZ2.out
              have e7 : wrap64 z2 = z2 := by unfold wrap64; omega
              have e8 : z2.tmod (ps.length : Int) = (K : Int) := by
                rw [Int.tmod_eq_emod_of_nonneg hz2.1, ← hK]
                obtain ⟨Z, rfl⟩ : ∃ Z : Nat, z2 = (Z : Int) := ⟨z2.toNat, by omega⟩
                rfl
              have hpne : ¬ ps = [] := fun e => by rw [e] at hpos; simp at hpos
              have hK0 : (0 : Int) ≤ (K : Int) := by omega
              have hK1 : (K : Int) < (ps.length : Int) := by omega
              obtain ⟨K1, hK1e⟩ : ∃ K1, K + 1 = K1 := ⟨_, rfl⟩
              have hK2 : (K1 : Int) ≤ (ps.length : Int) := by omega
              have hK3 : (K1 : Int) ≤ (cb : Int) := by omega
              have hK4 : (0 : Int) ≤ (K1 : Int) := by omega
              have e9 : (K : Int) + 1 = (K1 : Int) := by omega
              have HKL := Lib.hid (show K1 ≤ ps.length by omega)
              have HTKf := Lib.hid (show (ps.take K1).length ≤ 1000 by rw [List.length_take]; omega)
              have HTK2f := Lib.hid (fun x : Int => (show (ps.take K1 ++ [x]).length ≤ 1001 by rw [List.length_append, List.length_take, List.length_singleton]; omega))
              have HKE := Lib.hid hK1e
              have yx : wr.cell? ⟨gB, K, none⟩ = some (.int .u64 (ps.getD K 0)) := by
                rw [HR2.out.own.cellAt K (by omega)]
                exact words_at hKl
              have HTW := Lib.hid (show pastH (twiceC ps K) n = K1 by rw [twice_past HP.out HV.out HM.out hKl]; exact hK1e)
              have HTL := Lib.hid (twice_length hKl)
              have HKU := Lib.hid (HP.out.u)
              have HCB := Lib.hid q1
              have HUT := Lib.hid (show ∀ z ∈ twiceC ps K, U64 z from fun z hz => by
                unfold twiceC at hz
                rcases List.mem_append.1 hz with hz | hz
                · rcases List.mem_append.1 hz with hz | hz
                  · exact HP.out.u z (List.mem_of_mem_take hz)
                  · rw [List.mem_singleton.1 hz]; exact getD_u64 HP.out.u K
                · exact HP.out.u z (List.mem_of_mem_drop hz))
              have HOWN := Lib.hid HR2.out.own
              have HLOW := Lib.hid HR2.out.low
              have hps10 : ps.length ≤ 1000 := by omega
              have hK1le : K1 ≤ 1000 := by omega
              have e12 := wrap_i64_small hK1le
              have e13 := wrap64_small hK1le
              clear hK1le hK1e hK hz2 hg1 hg2 HC2 HQ HR2 HQB hqw hlt hj2
              go_wp2_with fail
              obtain ⟨x, hx⟩ : ∃ x, ps.getD K 0 = x := ⟨_, rfl⟩
              rw [hx] at yx
              have HX := Lib.hid hx
              have HYX := Lib.hid yx
              have HTK := Lib.hid (HTKf.out)
              have HTK2 := Lib.hid (HTK2f.out x)
              clear hx hj0 hge
              go_region_held3 (fun w8 => w8.cell? ⟨gB, K, none⟩ = some (.int .u64 x) ∧ Hid (Below wr.heap.size wr w8))
                (first | assumption | exact SOn.of HYX.out (Below.refl _ _).drew | exact SOn.of HYX.out G3.out | exact SOn.of HYX.out G2.out | exact SOn.of HYX.out G1.out | exact SOn.of HYX.out (G1.out.alloc G1.out.size _) | exact SOn.of HYX.out (((Below.refl _ _).drew).alloc (Nat.le_refl _) _))
                (first
                  | (refine appA (w0 := wr) (sl := ps) (k := K1) rfl (.const (.slice none 0 0)) (.tmp 93) rfl ?_ HOWN.out HKL.out hps10 _ rfl rfl ?_; (refine SOn.bel (g := gB) (k := K) (x := x) ?_; assumption); intro v1 w9 h1 hb1 hB1; have P1 := Lib.hid (show w9.ownsRow wr.heap.size 22 1 v1 (ps.take (K1)).length ((ps.take (K1)).map uV) by rw [List.length_take, Nat.min_eq_left HKL.out]; exact h1); have G1b := Lib.hid hb1; have G1 := Lib.hid hB1; clear h1 hb1 hB1)
                  | (refine appB (w0 := wr) (y := x) rfl (.tmp 94) (.tmp 99) rfl ?_ (ps.take (K1)) HTK.out P1.out ?_ _ rfl rfl ?_; (refine SOn.bel (g := gB) (k := K) (x := x) ?_; assumption); exact (G1b.out.block _ (by simp)).trans (World.alloc_heap_new _ _); intro v2 w9 h2 hb2; have P2 := Lib.hid (show w9.ownsRow wr.heap.size 22 1 v2 (ps.take (K1) ++ [x]).length ((ps.take (K1) ++ [x]).map uV) by rw [List.length_append]; exact h2); have G2 := Lib.hid hb2; clear h2 hb2)
                  | (refine appB (w0 := wr) (y := x) rfl (.tmp 94) (.tmp 99) rfl ?_ (ps.take (K1)) HTK.out (P1.out.alloc _) (World.alloc_heap_new _ _) _ rfl rfl ?_; (refine SOn.bel (g := gB) (k := K) (x := x) ?_; assumption); intro v2 w9 h2 hb2; have P2 := Lib.hid (show w9.ownsRow wr.heap.size 22 1 v2 (ps.take (K1) ++ [x]).length ((ps.take (K1) ++ [x]).map uV) by rw [List.length_append]; exact h2); have G2 := Lib.hid hb2; clear h2 hb2)
                  | (refine appC (w0 := wr) (sl := ps) (k := K1) rfl (.tmp 100) (.tmp 104) rfl ?_ HOWN.out HKL.out hps10 (ps.take (K1) ++ [x]) HTK2.out P2.out _ rfl HCB.out rfl ?_; (refine SOn.bel (g := gB) (k := K) (x := x) ?_; assumption); intro v3 w9 h3 hb3; have P3 := Lib.hid h3; have G3 := Lib.hid hb3; clear h3 hb3))
              all_goals
                have HTE := Lib.hid (show ps.take K1 ++ [x] ++ ps.drop K1 = twiceC ps K by unfold twiceC; rw [HX.out, HKE.out])
                rw [HTE.out] at P3
                obtain ⟨B3, c3, rfl, r1, r2, _⟩ := own_slice P3.out
                have HB9 := Lib.hid (HLOW.out.trans (G3.out.mono HLOW.out.size))
                have CP := Lib.hid (H.past B3 c3 (twiceC ps K) n w9 (H.low _ _ HL.out (HB9.out.mono (Nat.le_refl _))) (row_of_own P3.out) (fun z hz => HUT.out z hz) HM.out r1 r2 (by rw [HTL.out]; omega))
                rw [HTW.out] at CP
                clear P1 P2 G1 G2 G1b HTE
                go_wp2_with (first
                  | (go_at_call 15; refine CP.out.mono ?_; rintro e wa ⟨rfl, hba⟩; have HBa := Lib.hid (HB9.out.trans (hba.mono HB9.out.size)); have HLa := Lib.hid (H.low _ _ HL.out (HBa.out.mono (Nat.le_refl _))); clear hba)
                  | (go_at_call 14; refine (lives_any H _ HLa.out).mono ?_; rintro e wb ⟨rfl, hbb⟩; have HBb := Lib.hid (HBa.out.trans (hbb.mono HBa.out.size)); clear hbb))
                all_goals
                  go_ret
                  exact ⟨rfl, HBb.out⟩
theorem lawOnce_long {L : World → Prop} (H : HPrg L) (z1 z2 : Int) (A : Option Addr) (m cap : Nat) (w : World) (hL : L w) (hm : 200 < m) :
    Calls Tryd.prog 6 #[.slice A m cap, .int .u8 z1, .int .u8 z2] w fun e w' => e = .returned (.bool true) ∧ Below w.heap.size w w' := by
  have HL := Lib.hid hL
  clear hL
  have hmi : (200 : Int) < (m : Int) := by omega
  go_enter Tryd.func6, Tryd.ntmps6
  go_wp2_with (go_at_call 14; refine (lives_any H _ HL.out).mono ?_; rintro e w4 ⟨rfl, hb4⟩)
  go_ret
  exact ⟨rfl, hb4⟩
end Go.Proofs.YtfholfmlkehfnaaDoor
