/-
  The law FreesStack, walked: it returns true and only makes memory of its own; condition: the tables as laid, the list lies as it says.
-/
import Derived.Test.YtipgidkpjilhoaaDoorH3
import Derived.Test.YtipgidkpjilhoaaDoorFCore
namespace Go.Proofs.YtipgidkpjilhoaaDoor
open Go.RowKit Go.Maps

set_option maxRecDepth 100000 in
theorem stack_long (A : Option Addr) (cap nn : Nat) (W : World) (hL : Lay W) (hM : LayM W) (hn : 60 < nn) :
    Calls Tryd.prog 6 #[.slice A nn cap] W fun e W' => e = .returned (.bool true) ∧ Below W.heap.size W W' := by
  have HL := Lib.hid hL
  have HM := Lib.hid hM
  have hn' : (60 : Int) < (nn : Int) := by omega
  clear hL hM
  go_enter Tryd.func6, Tryd.ntmps6
  go_wp2_with fail
  ((with_reducible refine (lives_any W HL.out HM.out).mono ?_); rintro e w4 ⟨rfl, hb⟩)
  go_wp2_with fail
  go_ret
  exact ⟨rfl, hb⟩
theorem take_rev {s : List Int} {i : Nat} (h : i < s.length) (hn : s.Nodup) (hin : ∀ z ∈ s, 0 ≤ z ∧ z < 256) : 0 ≤ s.getD i 0 ∧ s.getD i 0 < 256 ∧ s.getD i 0 ∉ (s.take i).reverse ∧ (s.take (i + 1)).reverse = s.getD i 0 :: (s.take i).reverse := by
  have hg : s.getD i 0 = s[i] := by simp [List.getD_eq_getElem?_getD, List.getElem?_eq_getElem h]
  have hm : s.take (i + 1) = s.take i ++ [s[i]] := by
    rw [List.take_add_one, List.getElem?_eq_getElem h]
    rfl
  have hz := hin s[i] (List.getElem_mem h)
  have hnd := hn.sublist (List.take_sublist (i + 1) s)
  rw [hm, List.nodup_append] at hnd
  rw [hg, hm, List.reverse_append]
  refine ⟨hz.1, hz.2, fun hx => ?_, rfl⟩
  exact hnd.2.2 s[i] (List.mem_reverse.1 hx) s[i] (by simp) rfl
set_option maxRecDepth 100000 in
set_option maxHeartbeats 16000000 in
theorem stack_any (A : Option Addr) (cap : Nat) (l : List Int) (W : World) (hL : Lay W) (hM : LayM W) (hs : Row W A (l.map fun z => .int .u8 z)) (hu : ∀ z ∈ l, U8 z) :
    Calls Tryd.prog 6 #[.slice A l.length cap] W fun e W' => e = .returned (.bool true) ∧ Below W.heap.size W W' := by
  by_cases hn : l.length ≤ 60
  case neg => exact stack_long A cap l.length W hL hM (by omega)
  obtain ⟨i0, hi, hz0, hz1, hz2⟩ := info_parts Tryd_infoI
  have hn' : (l.length : Int) ≤ 60 := by omega
  have HL := Lib.hid hL
  have HM := Lib.hid hM
  have HU := Lib.hid hu
  have HS := Lib.hid hs
  have h1W := hM.1
  have HDD := Lib.hid (ddp_spec l (fun z hz => hu z hz))
  clear hL hM hu hs
  go_enter Tryd.func6, Tryd.ntmps6
  go_wp2_with fail
  go_loopw [3, 4] (fun v j wr => ∃ k : Nat, k ≤ l.length ∧ j = .int .i64 (k : Int) ∧ Hid (wr.ownsRow W.heap.size 3 1 v (ddp (l.take k)).length ((ddp (l.take k)).map iV) ∧ Below W.heap.size W wr)) (fun _ j _ => l.length - (intOf j).toNat)
  case atStart => exact ⟨0, Nat.zero_le _, rfl, Lib.hid ⟨World.ownsRow_nil _ _ _ _, Below.refl _ _⟩⟩
  case round =>
    obtain ⟨k, hk, rfl, hr⟩ := hrel
    by_cases hlt : k < l.length
    · obtain ⟨hown, hlow⟩ := hr.out
      obtain ⟨g, off, rfl, hc⟩ := (HS.out.below (hlow.mono (Nat.le_refl _))).at_ (k := k) (by rw [List.length_map]; exact hlt)
      have hy : wr.cell? ⟨g, off + k, none⟩ = some (.int .u8 (l.getD k 0)) := hc k _ (by simp [List.getD_eq_getElem?_getD, List.getElem?_eq_getElem hlt])
      have hz := HU.out (l.getD k 0) (by rw [List.getD_eq_getElem?_getD, List.getElem?_eq_getElem hlt]; simp)
      have HT := Lib.hid (ddp_take hlt)
      have HLN := Lib.hid (ddp_len l k)
      clear hc
      generalize l.getD k 0 = z at hy hz HT
      have hlt' : (k : Int) < (l.length : Int) := by omega
      have hge : (0 : Int) ≤ (k : Int) := by omega
      generalize ddp (l.take k) = s at hown HT HLN
      have hs60 : s.length ≤ 60 := by have := HLN.out; omega
      obtain ⟨B, c, rfl, hnc, hcm, _⟩ := own_slice hown
      have HO := Lib.hid hown
      have HLW := Lib.hid hlow
      have hwz : IntKind.i64.wrap z = z := by simp [IntKind.wrap, IntKind.bits]; obtain ⟨a, b⟩ := hz; omega
      clear hr hown hlow hz
      go_wp2_with fail
      rename World => w0
      go_loopw [5, 6] (fun hv j wq => ∃ m d : Nat, m ≤ s.length ∧ hv = .bool (decide (z ∈ s.take m)) ∧ j = .int .i64 (m : Int) ∧ wq = w0.drewN d) (fun _ j _ => s.length - (intOf j).toNat)
      case atStart => exact ⟨0, 0, Nat.zero_le _, by simp, rfl, rfl⟩
      case round =>
        obtain ⟨m, d, hm, rfl, rfl, rfl⟩ := hrel
        by_cases hlt2 : m < s.length
        · obtain ⟨g2, rfl, _, _⟩ := own_form HO.out (by omega)
          have y2 : w0.cell? ⟨g2, m, none⟩ = some (.int .i64 (s.getD m 0)) := (HO.out.cellAt m (by omega)).trans (ints_at 0 hlt2)
          have HE := Lib.hid (mem_take_succ hlt2 z)
          have hlt2' : (m : Int) < (s.length : Int) := by omega
          have hge2 : (0 : Int) ≤ (m : Int) := by omega
          generalize s.getD m 0 = y at y2 HE
          generalize hhb : decide (z ∈ s.take m) = hb at HE
          clear hhb
          cases hb
          · go_wp2
            go_quiet (fail)
            go_wp2
            go_roundw
            case rel => exact ⟨m + 1, d + nq, by omega, by rw [HE.out]; simp, by go_num, rfl⟩
            case measure => simp [intOf]; omega
          · go_wp2
            go_quiet (fail)
            go_wp2
            go_roundw
            case rel => exact ⟨m + 1, d + nq, by omega, by rw [HE.out]; simp, by go_num, rfl⟩
            case measure => simp [intOf]; omega
        · have hlt2' : (s.length : Int) ≤ (m : Int) := by omega
          have hms : s.take m = s := List.take_of_length_le (by omega)
          rw [hms]
          clear hms
          by_cases hz : z ∈ s
          · have hd : decide (z ∈ s) = true := by simpa using hz
            have HA := Lib.hid (show addN s z = s from if_pos hz)
            rw [hd]
            clear hd hz
            go_wp2_with fail
            go_roundw
            case rel => exact ⟨k + 1, by omega, by go_num, Lib.hid ⟨by rw [HT.out, HA.out]; exact own_low HO.out (below_drewN' (Below.refl _ _) d), HLW.out.trans ((below_drewN' (Below.refl _ _) d).mono HLW.out.size)⟩⟩
            case measure => simp [intOf]; omega
          · have hd : decide (z ∈ s) = false := by simpa using hz
            have HA := Lib.hid (show addN s z = s ++ [z] from if_neg hz)
            rw [hd]
            clear hd hz
            have HO2 := Lib.hid ((own_low HO.out (below_drewN' (Below.refl w0.heap.size w0) d)).alloc (.cells #[.int .i64 z] 3))
            have HB2 := Lib.hid ((HLW.out.trans ((below_drewN' (Below.refl w0.heap.size w0) d).mono HLW.out.size)).alloc HLW.out.size (.cells #[.int .i64 z] 3))
            have HC2 := Lib.hid (cells_new (w0.drewN d) [.int .i64 z] 3)
            go_wp2_with (at_builtin; refine wpList_append_own _ rfl (.tmp 64) (.tmp 70) _ rfl W.heap.size 3 i0 _ 1 8 Tryd.underlying71 hi hz0 hz1 hz2 rfl (by decide) (.slice B s.length c) s.length (s.map iV) rfl HO2.out ⟨w0.heap.size, 0, none⟩ 1 1 [.int .i64 z] rfl rfl HC2.out (fun u hu => by rw [List.mem_singleton.1 hu]; rfl) (by unfold maxLen; omega) (by omega) HB2.out.size ?_; intro v' w4 hown' hgrow _; have HO4 := Lib.hid hown'; have HG := Lib.hid (HB2.out.grown hgrow HB2.out.size (fun k hk => (HO2.out.lt k hk).1)); clear hown' hgrow)
            go_roundw
            case rel => exact ⟨k + 1, by omega, by go_num, Lib.hid ⟨by rw [HT.out, HA.out, List.length_append, List.map_append]; exact HO4.out, HG.out⟩⟩
            case measure => simp [intOf]; omega
    · have hge : (l.length : Int) ≤ (k : Int) := by omega
      have hkl : l.take k = l := List.take_of_length_le (by omega)
      have hr2 := hr.out
      rw [hkl] at hr2
      have HLN := Lib.hid (ddp_len l l.length)
      rw [List.take_length] at HLN
      obtain ⟨hown, hlow⟩ := hr2
      obtain ⟨B, c, rfl, hnc, hcm, _⟩ := own_slice hown
      have hs60 : (ddp l).length ≤ 60 := by have := HLN.out; omega
      generalize ddp l = s at hown HDD hnc hs60
      have HO := Lib.hid hown
      have HLW := Lib.hid hlow
      clear hr hown hlow hkl HLN
      go_wp2_with fail
      ((with_reducible refine (new_fm (HL.out.below HLW.out) (HM.out.below HLW.out)).mono ?_); rintro e w1 ⟨p, b, rfl, F1, hb1, hwb, hbp⟩)
      have HK := Lib.hid (show SK W p b 0 [] 0 (.slice B s.length c) s w1 from ⟨⟨0, M0, Nat.le_refl _, F1, Stk.start⟩, HLW.out.trans (hb1.mono HLW.out.size), own_low HO.out hb1, by have := HLW.out.size; omega, by have := HLW.out.size; omega⟩)
      have hpW : W.heap.size ≤ p := HK.out.hp
      have hbW : W.heap.size ≤ b := HK.out.hb
      clear F1 hb1 HO HLW hwb hbp
      clear hz0 hz1 hz2 hi hlt hge
      go_wp2_with fail
      have h1p : 1 < p := HK.out.sm.p1.1
      have h1b : 1 < b := HK.out.sm.p1.2
      obtain ⟨hnd, hin⟩ := HDD.out
      have HND := Lib.hid hnd
      have HIN := Lib.hid hin
      clear hnd hin HDD
      go_loopw [8] (fun j wr => ∃ i : Nat, i ≤ s.length ∧ j = .int .i64 (i : Int) ∧ Hid (SK W p b (3 * i) (s.take i).reverse i (.slice B s.length c) s wr)) (fun j _ => s.length - (intOf j).toNat)
      case atStart => exact ⟨0, Nat.zero_le _, rfl, HK⟩
      case round =>
        clear HK
        obtain ⟨i, hi, rfl, HK⟩ := hrel
        by_cases hlt : i < s.length
        · obtain ⟨g2, rfl, _, _⟩ := own_form HK.out.row (by omega)
          have y2 : wr.cell? ⟨g2, i, none⟩ = some (.int .i64 (s.getD i 0)) := (HK.out.row.cellAt i (by omega)).trans (ints_at 0 hlt)
          have hlt' : (i : Int) < (s.length : Int) := by omega
          have hge : (0 : Int) ≤ (i : Int) := by omega
          obtain ⟨hx0, hx1, hxn, hrv⟩ := take_rev hlt HND.out HIN.out
          have HX := Lib.hid hxn
          have HRV := Lib.hid hrv
          clear hxn hrv
          generalize s.getD i 0 = x at y2 hx0 hx1 HX HRV
          generalize (s.take i).reverse = r at HK HX HRV
          have hWw : W.heap.size ≤ wr.heap.size := HK.out.low.size
          go_wp2_with fail
          ((with_reducible refine (newPush_any x hx0 hx1 wr).mono ?_); rintro e w2 ⟨rfl, o2, hb2, hs2⟩)
          have HK2 := Lib.hid (HK.out.below hb2)
          have HO2 := Lib.hid o2
          clear o2 hb2 hs2 HK y2
          generalize wr.heap.size = q at *
          have h1q : 1 < q := by omega
          go_wp2_with fail
          refine wp_loop_rounds 4 ?_
          rw [rounds_succ]
          go_wp2_with fail
          ((with_reducible refine (push_a h1q HK2.out.sm (by omega) HO2.out).mono ?_); rintro e w3 ⟨rfl, o3, s3, k3⟩)
          have HK3 := Lib.hid (HK2.out.step HO2.out (by decide) hWw s3 k3)
          have HO3 := Lib.hid o3
          clear o3 s3 k3 HK2 HO2
          go_wp2_with fail
          rw [rounds_succ]
          go_wp2_with fail
          ((with_reducible refine (push_b h1q HK3.out.sm (by omega) HX.out hx0 hx1 HO3.out).mono ?_); rintro e w4 ⟨rfl, o4, s4, k4⟩)
          have HK4 := Lib.hid (HK3.out.step HO3.out (by decide) hWw s4.sm k4)
          have HO4 := Lib.hid o4
          have HS4 := Lib.hid s4
          clear o4 s4 k4 HK3 HO3
          go_wp2_with fail
          rw [rounds_succ]
          go_wp2_with fail
          ((with_reducible refine (push_c h1q HS4.out (by omega) HX.out hx0 hx1 (by omega) HO4.out).mono ?_); rintro e w5 ⟨rfl, o5, s5, k5⟩)
          have HK5 := Lib.hid (HK4.out.step HO4.out (by decide) hWw s5 k5)
          clear o5 s5 k5 HK4 HO4 HS4
          go_wp2_with fail
          rw [rounds_succ]
          go_wp2_with fail
          go_roundw
          case rel => exact ⟨i + 1, by omega, by go_num, Lib.hid (by rw [HRV.out]; exact_mod_cast HK5.out.mono (by omega))⟩
          case measure => simp [intOf]; omega
        · have hge : (s.length : Int) ≤ (i : Int) := by omega
          have hil : i = s.length := by omega
          have HK0 := HK.out
          rw [hil, List.take_length] at HK0
          have HKL := Lib.hid HK0
          clear HK0 HK hil
          rename World => w6
          have hlen0 : s.length ≤ 60 := hs60
          obtain ⟨m0, hm0⟩ : ∃ m0, s.length = m0 := ⟨_, rfl⟩
          have HSL0 := Lib.hid hm0
          have HK6 := Lib.hid HKL.out
          clear HKL
          by_cases hbig : s.length ≤ 1
          · obtain ⟨m, hm⟩ : ∃ m, s.length = m := ⟨_, rfl⟩
            have HSL := Lib.hid hm
            have hts : s.take m = s := List.take_of_length_le (by omega)
            have hm1 : m ≤ 1 := by omega
            rw [hm] at hge hlt hi hs60 HK6 ⊢
            clear hm hbig HSL0 hm0 hlen0
            have HK7 := Lib.hid (show SK W p b (3 * m) (s.take m).reverse (m : Int) (.slice B m c) s w6 by rw [hts]; exact HK6.out)
            clear HK6 hts
            rename World => w7
            have HKD : Hid (SK W p b 300 (s.take m).reverse ((m : Int)) (.slice B m c) s w7) := Lib.hid (by simpa using HK7.out.mono (show _ ≤ 300 by omega))
            clear HK7 
            go_wp2_with fail
            go_loopw [28] (fun j wr => ∃ k : Nat, k ≤ m ∧ j = .int .i64 ((k : Int) - 1) ∧ Hid (SK W p b (300 + 3 * (m - k)) (s.take k).reverse ((m : Int) + ((m : Int) - (k : Int))) (.slice B m c) s wr)) (fun j _ => (intOf j + 1).toNat)
            case atStart => exact ⟨m, Nat.le_refl _, by go_num, Lib.hid (by simpa using HKD.out)⟩
            case round =>
              clear HKD
              obtain ⟨k, hk, rfl, HK20⟩ := hrel
              rename World => w20
              by_cases hk0 : 0 < k
              · obtain ⟨i, rfl⟩ : ∃ i, k = i + 1 := ⟨k - 1, by omega⟩
                rw [show ((i + 1 : Nat) : Int) - 1 = (i : Int) by omega]
                have his : i < s.length := by have := HSL.out; omega
                obtain ⟨g2, rfl, _, _⟩ := own_form2 HK20.out.row (by omega)
                have y2 : w20.cell? ⟨g2, i, none⟩ = some (.int .i64 (s.getD i 0)) := (own_cell2 HK20.out.row his).trans (ints_at 0 his)
                have hge : (0 : Int) ≤ (i : Int) := by omega
                have him : (i : Int) < (m : Int) := by omega
                obtain ⟨hx0, hx1, _, hrv⟩ := take_rev his HND.out HIN.out
                rw [hrv] at HK20
                clear hrv
                generalize hxe : s.getD i 0 = x at y2 hx0 hx1 HK20
                have HXE := Lib.hid hxe
                clear hxe
                have HE := Lib.hid (show (m : Int) + ((m : Int) - ((i + 1 : Nat) : Int)) + 1 = (m : Int) + ((m : Int) - (i : Int)) by omega)
                have hTb : (m : Int) + ((m : Int) - ((i + 1 : Nat) : Int)) + 1 < 1000000 := by omega
                generalize (m : Int) + ((m : Int) - ((i + 1 : Nat) : Int)) = Tk at HK20 HE hTb
                go_wp2_with fail
                ((with_reducible refine (newPop_any w20).mono ?_); rintro e w21 ⟨rfl, o21, hb21, hs21⟩)
                have hWz : W.heap.size ≤ w20.heap.size := HK20.out.low.size
                have HK21 := Lib.hid (HK20.out.below hb21)
                have HOz21 := Lib.hid o21
                clear HK20  o21 hb21 hs21
                generalize w20.heap.size = qz at *
                have h1z : 1 < qz := by omega
                go_wp2_with fail
                refine wp_loop_rounds 4 ?_
                rw [rounds_succ]
                go_wp2_with fail
                ((with_reducible refine (pop_a h1z HK21.out.sm (by omega) HOz21.out).mono ?_); rintro e w22 ⟨rfl, o22, s22, k22⟩)
                have HK22 := Lib.hid (HK21.out.step HOz21.out (by decide) hWz s22 k22)
                have HOz22 := Lib.hid o22
                clear HK21 HOz21 o22 s22 k22
                go_wp2_with fail
                rw [rounds_succ]
                go_wp2_with fail
                ((with_reducible refine (pop_b h1z HK22.out.sm (by omega) HOz22.out).mono ?_); rintro e w23 ⟨rfl, o23, s23, k23⟩)
                have HK23 := Lib.hid (HK22.out.step HOz22.out (by decide) hWz s23 k23)
                have HOz23 := Lib.hid o23
                clear HK22 HOz22 o23 s23 k23
                go_wp2_with fail
                rw [rounds_succ]
                go_wp2_with fail
                ((with_reducible refine (pop_c h1z HK23.out.sm (by omega) (by omega) HOz23.out).mono ?_); rintro e w24 ⟨rfl, o24, s24, k24⟩)
                have HK24 := Lib.hid (HK23.out.step HOz23.out (by decide) hWz s24 k24)
                have HOz24 := Lib.hid o24
                clear HK23 HOz23 o24 s24 k24
                go_wp2_with fail
                rw [rounds_succ]
                have htop : wSlot (headW x Tk) = x := slot_head x Tk (by omega) hx1
                have hgot := got_slot HK24.out.sm.lay (head_u64 x Tk) (by rw [htop]; exact hx0) HOz24.out
                rw [htop] at hgot
                clear htop y2
                go_wp2_with fail
                ((with_reducible refine hgot.mono ?_); rintro e w25 ⟨rfl, j25, rfl⟩)
                have HX := Lib.hid (show Below w24.heap.size w24 (w24.drewN j25) from below_drewN' (Below.refl _ _) j25)
                have HK25 := Lib.hid (HK24.out.below HX.out)
                clear HK24 HOz24 HX hgot
                revert HK25
                generalize w24.drewN j25 = w25
                intro HK25
                have y2 : w25.cell? ⟨g2, i, none⟩ = some (.int .i64 x) := (own_cell2 HK25.out.row his).trans ((ints_at 0 his).trans (by rw [HXE.out]))
                go_wp2_with fail
                go_roundw
                case rel => exact ⟨i, by omega, by go_num, Lib.hid (by rw [← HE.out]; exact HK25.out.mono (by omega))⟩
                case measure => simp [intOf]
              · have hk1 : k = 0 := by omega
                subst hk1
                go_wp2_with fail
                ((with_reducible refine (lives_any w20 HK20.out.sm.lay HK20.out.sm.laym).mono ?_); rintro e w21 ⟨rfl, hb⟩)
                go_wp2_with fail
                go_ret
                exact ⟨rfl, HK20.out.low.trans (hb.mono HK20.out.low.size)⟩
          · obtain ⟨m, hm⟩ : ∃ m, s.length = m + 2 := ⟨s.length - 2, by omega⟩
            have HSL := Lib.hid (show m ≤ s.length by omega)
            have hs2 : m < s.length := by omega
            obtain ⟨x, y, hrv, hy⟩ := two_rev hm
            rw [hm] at hge hlt hi hs60 HK6 ⊢
            rw [hrv] at HK6
            have HY := Lib.hid hy
            have HLT := Lib.hid hs2
            have hmc : m ≤ c := by omega
            have hcz : ¬ c = 0 := by omega
            have hlp : 0 < s.length := by omega
            clear hm hrv hy hbig HSL0 hm0 hlen0 hs2
            obtain ⟨g2, rfl, _, _⟩ := own_form2 HK6.out.row hlp
            have hnx := HK6.out.sm.nd
            have hxr : x ∉ (s.take m).reverse := fun h => (List.nodup_cons.1 hnx).1 (List.mem_cons_of_mem _ h)
            obtain ⟨hx0, hx1⟩ := HK6.out.sm.first
            clear hnx hlp
            have hm60 : m + 2 ≤ 60 := hs60
            have hc2 : (2 : Int) ≤ ((m + 2 : Nat) : Int) := by omega
            obtain ⟨T, hT⟩ : ∃ T : Int, ((m + 2 : Nat) : Int) = T := ⟨_, rfl⟩
            have HT := Lib.hid hT
            rw [hT] at HK6
            have hT0 : 0 ≤ T := by omega
            have hT1 : T < 100 := by omega
            clear hT
            go_wp2_with fail
            ((with_reducible refine (newPop_any w6).mono ?_); rintro e w7 ⟨rfl, o7, hb7, hs7⟩)
            have hWo : W.heap.size ≤ w6.heap.size := HK6.out.low.size
            have HK7 := Lib.hid (HK6.out.below hb7)
            have HOo7 := Lib.hid o7
            clear HK6  o7 hb7 hs7
            generalize w6.heap.size = qo at *
            have h1o : 1 < qo := by omega
            go_wp2_with fail
            ((with_reducible refine (pop_a h1o HK7.out.sm (by omega) HOo7.out).mono ?_); rintro e w8 ⟨rfl, o8, s8, k8⟩)
            have HK8 := Lib.hid (HK7.out.step HOo7.out (by decide) hWo s8 k8)
            have HOo8 := Lib.hid o8
            clear HK7 HOo7 o8 s8 k8
            go_wp2_with fail
            ((with_reducible refine (pop_b h1o HK8.out.sm (by omega) HOo8.out).mono ?_); rintro e w9 ⟨rfl, o9, s9, k9⟩)
            have HK9 := Lib.hid (HK8.out.step HOo8.out (by decide) hWo s9 k9)
            have HOo9 := Lib.hid o9
            clear HK8 HOo8 o9 s9 k9
            go_wp2_with fail
            ((with_reducible refine (newPop_any w9).mono ?_); rintro e w10 ⟨rfl, o10, hb10, hs10⟩)
            have hWp : W.heap.size ≤ w9.heap.size := HK9.out.low.size
            have hneop : qo < w9.heap.size := HOo9.out.lt
            have HK10 := Lib.hid (HK9.out.below hb10)
            have HOo10 := Lib.hid (HOo9.out.below hb10)
            have HOp10 := Lib.hid o10
            clear HK9 HOo9 o10 hb10 hs10
            generalize w9.heap.size = qp at *
            have h1p : 1 < qp := by omega
            go_wp2_with fail
            ((with_reducible refine (newPop_any w10).mono ?_); rintro e w11 ⟨rfl, o11, hb11, hs11⟩)
            have hWq : W.heap.size ≤ w10.heap.size := HK10.out.low.size
            have hneoq : qo < w10.heap.size := HOo10.out.lt
            have hnepq : qp < w10.heap.size := HOp10.out.lt
            have HK11 := Lib.hid (HK10.out.below hb11)
            have HOo11 := Lib.hid (HOo10.out.below hb11)
            have HOp11 := Lib.hid (HOp10.out.below hb11)
            have HOq11 := Lib.hid o11
            clear HK10 HOo10 HOp10 o11 hb11 hs11
            generalize w10.heap.size = qq at *
            have h1q : 1 < qq := by omega
            go_wp2_with fail
            refine wp_loop_rounds 4 ?_
            rw [rounds_succ]
            go_wp2_with fail
            ((with_reducible refine (pop_a h1p HK11.out.sm (by omega) HOp11.out).mono ?_); rintro e w12 ⟨rfl, o12, s12, k12⟩)
            have HK12 := Lib.hid (HK11.out.step HOp11.out (by decide) hWp s12 k12)
            have HOo12 := Lib.hid (HK11.out.sm.aside HOo11.out (by decide) (by omega) k12)
            have HOq12 := Lib.hid (HK11.out.sm.aside HOq11.out (by decide) (by omega) k12)
            have HOp12 := Lib.hid o12
            clear HK11 HOo11 HOp11 HOq11 o12 s12 k12
            go_wp2_with fail
            rw [rounds_succ]
            go_wp2_with fail
            ((with_reducible refine (pop_b h1p HK12.out.sm (by omega) HOp12.out).mono ?_); rintro e w13 ⟨rfl, o13, s13, k13⟩)
            have HK13 := Lib.hid (HK12.out.step HOp12.out (by decide) hWp s13 k13)
            have HOo13 := Lib.hid (HK12.out.sm.aside HOo12.out (by decide) (by omega) k13)
            have HOq13 := Lib.hid (HK12.out.sm.aside HOq12.out (by decide) (by omega) k13)
            have HOp13 := Lib.hid o13
            clear HK12 HOo12 HOp12 HOq12 o13 s13 k13
            go_wp2_with fail
            rw [rounds_succ]
            go_wp2_with fail
            ((with_reducible refine (pop_c h1p HK13.out.sm (by omega) (by omega) HOp13.out).mono ?_); rintro e w14 ⟨rfl, o14, s14, k14⟩)
            have HK14 := Lib.hid (HK13.out.step HOp13.out (by decide) hWp s14 k14)
            have HOo14 := Lib.hid (HK13.out.sm.aside HOo13.out (by decide) (by omega) k14)
            have HOq14 := Lib.hid (HK13.out.sm.aside HOq13.out (by decide) (by omega) k14)
            have HOp14 := Lib.hid o14
            clear HK13 HOo13 HOp13 HOq13 o14 s14 k14
            go_wp2_with fail
            rw [rounds_succ]
            obtain ⟨hy0, hy1⟩ := HK14.out.sm.first
            go_wp2_with fail
            refine wp_loop_rounds 4 ?_
            rw [rounds_succ]
            go_wp2_with fail
            ((with_reducible refine (pop_a h1q HK14.out.sm (by omega) HOq14.out).mono ?_); rintro e w15 ⟨rfl, o15, s15, k15⟩)
            have HK15 := Lib.hid (HK14.out.step HOq14.out (by decide) hWq s15 k15)
            have HOo15 := Lib.hid (HK14.out.sm.aside HOo14.out (by decide) (by omega) k15)
            have HOp15 := Lib.hid (HK14.out.sm.aside HOp14.out (by decide) (by omega) k15)
            have HOq15 := Lib.hid o15
            clear HK14 HOo14 HOp14 HOq14 o15 s15 k15
            go_wp2_with fail
            rw [rounds_succ]
            go_wp2_with fail
            ((with_reducible refine (pop_b h1q HK15.out.sm (by omega) HOq15.out).mono ?_); rintro e w16 ⟨rfl, o16, s16, k16⟩)
            have HK16 := Lib.hid (HK15.out.step HOq15.out (by decide) hWq s16 k16)
            have HOo16 := Lib.hid (HK15.out.sm.aside HOo15.out (by decide) (by omega) k16)
            have HOp16 := Lib.hid (HK15.out.sm.aside HOp15.out (by decide) (by omega) k16)
            have HOq16 := Lib.hid o16
            clear HK15 HOo15 HOp15 HOq15 o16 s16 k16
            go_wp2_with fail
            rw [rounds_succ]
            go_wp2_with fail
            ((with_reducible refine (pop_c h1q HK16.out.sm (by omega) (by omega) HOq16.out).mono ?_); rintro e w17 ⟨rfl, o17, s17, k17⟩)
            have HK17 := Lib.hid (HK16.out.step HOq16.out (by decide) hWq s17 k17)
            have HOo17 := Lib.hid (HK16.out.sm.aside HOo16.out (by decide) (by omega) k17)
            have HOp17 := Lib.hid (HK16.out.sm.aside HOp16.out (by decide) (by omega) k17)
            have HOq17 := Lib.hid o17
            clear HK16 HOo16 HOp16 HOq16 o17 s17 k17
            go_wp2_with fail
            rw [rounds_succ]
            have hgp := got_slot HK17.out.sm.lay (head_u64 x T) (by rw [slot_head x T (by omega) hx1]; exact hx0) HOp17.out
            rw [slot_head x T (by omega) hx1] at hgp
            clear HOp17
            go_wp2_with fail
            ((with_reducible refine (hgp).mono ?_); rintro e w18 ⟨rfl, j18, rfl⟩)
            have HX18 := Lib.hid (show Below w17.heap.size w17 (w17.drewN j18) from below_drewN' (Below.refl _ _) j18)
            have HK18 := Lib.hid (HK17.out.below HX18.out)
            have HOo18 := Lib.hid (HOo17.out.below HX18.out)
            have HOq18 := Lib.hid (HOq17.out.below HX18.out)
            clear HK17 HOo17 HOq17 HX18
            revert HK18 HOo18 HOq18
            generalize w17.drewN j18 = w18
            intro HK18 HOo18 HOq18
            clear hgp
            have hgq := got_slot HK18.out.sm.lay (head_u64 y (T + 1)) (by rw [slot_head y (T + 1) (by omega) hy1]; exact hy0) HOq18.out
            rw [slot_head y (T + 1) (by omega) hy1] at hgq
            clear HOq18
            go_wp2_with fail
            ((with_reducible refine (hgq).mono ?_); rintro e w19 ⟨rfl, j19, rfl⟩)
            have HX19 := Lib.hid (show Below w18.heap.size w18 (w18.drewN j19) from below_drewN' (Below.refl _ _) j19)
            have HK19 := Lib.hid (HK18.out.below HX19.out)
            have HOo19 := Lib.hid (HOo18.out.below HX19.out)
            clear HK18 HOo18 HX19
            revert HK19 HOo19
            generalize w18.drewN j19 = w19
            intro HK19 HOo19
            clear hgq
            go_wp2_with fail
            ((with_reducible refine (newPush_any x hx0 hx1 w19).mono ?_); rintro e w20 ⟨rfl, o20, hb20, hs20⟩)
            have hWb : W.heap.size ≤ w19.heap.size := HK19.out.low.size
            have hneob : qo < w19.heap.size := HOo19.out.lt
            have HK20 := Lib.hid (HK19.out.below hb20)
            have HOo20 := Lib.hid (HOo19.out.below hb20)
            have HOb20 := Lib.hid o20
            clear HK19 HOo19 o20 hb20 hs20
            generalize w19.heap.size = qb at *
            have h1b : 1 < qb := by omega
            go_wp2_with fail
            refine wp_loop_rounds 4 ?_
            rw [rounds_succ]
            go_wp2_with fail
            ((with_reducible refine (push_a h1b HK20.out.sm (by omega) HOb20.out).mono ?_); rintro e w21 ⟨rfl, o21, s21, k21⟩)
            have HK21 := Lib.hid (HK20.out.step HOb20.out (by decide) hWb s21 k21)
            have HOo21 := Lib.hid (HK20.out.sm.aside HOo20.out (by decide) (by omega) k21)
            have HOb21 := Lib.hid o21
            clear HK20 HOo20 HOb20 o21 s21 k21
            go_wp2_with fail
            rw [rounds_succ]
            go_wp2_with fail
            ((with_reducible refine (push_b h1b HK21.out.sm (by omega) hxr hx0 hx1 HOb21.out).mono ?_); rintro e w22 ⟨rfl, o22, s22, k22⟩)
            have HK22 := Lib.hid (HK21.out.step HOb21.out (by decide) hWb s22.sm k22)
            have HS22 := Lib.hid s22
            have HOo22 := Lib.hid (HK21.out.sm.aside HOo21.out (by decide) (by omega) k22)
            have HOb22 := Lib.hid o22
            clear HK21 HOo21 HOb21 o22 s22 k22
            go_wp2_with fail
            rw [rounds_succ]
            go_wp2_with fail
            ((with_reducible refine (push_c h1b HS22.out (by omega) hxr hx0 hx1 (by omega) HOb22.out).mono ?_); rintro e w23 ⟨rfl, o23, s23, k23⟩)
            have HK23 := Lib.hid (HK22.out.step HOb22.out (by decide) hWb s23 k23)
            have HOo23 := Lib.hid (HK22.out.sm.aside HOo22.out (by decide) (by omega) k23)
            have HOb23 := Lib.hid o23
            clear HK22 HOo22 HOb22 o23 s23 k23
            go_wp2_with fail
            rw [rounds_succ]
            clear HS22
            clear HOb23
            go_wp2_with fail
            ((with_reducible refine (got_run (by decide) HOo23.out).mono ?_); rintro e w' ⟨rfl, rfl⟩)
            have hne : headW (topOf (x :: (s.take m).reverse)) (T + 1 + 1 + 1) ≠ headW x T := head_ne (by omega) (by omega) (by omega) (by omega) (by omega)
            go_wp2_with fail
            ((with_reducible refine (pop_late h1o HK23.out.sm (by omega) (head_u64 x T) hne HOo23.out).mono ?_); rintro e w24 ⟨rfl, o24, s24, k24⟩)
            have HK24 := Lib.hid (HK23.out.step HOo23.out (by decide) hWo s24 k24)
            have HOo24 := Lib.hid o24
            clear HK23 HOo23 o24 s24 k24
            clear hne
            clear HOo24
            have y3 : w24.cell? ⟨g2, m, none⟩ = some (.int .i64 y) := (own_cell2 HK24.out.row HLT.out).trans ((ints_at 0 HLT.out).trans (by rw [HY.out]))
            go_wp2_with fail
            ((with_reducible refine (newPop_any w24).mono ?_); rintro e w25 ⟨rfl, o25, hb25, hs25⟩)
            have hWa : W.heap.size ≤ w24.heap.size := HK24.out.low.size
            have HK25 := Lib.hid (HK24.out.below hb25)
            have HOa25 := Lib.hid o25
            clear HK24  o25 hb25 hs25
            generalize w24.heap.size = qa at *
            have h1a : 1 < qa := by omega
            clear y3
            go_wp2_with fail
            refine wp_loop_rounds 4 ?_
            rw [rounds_succ]
            go_wp2_with fail
            ((with_reducible refine (pop_a h1a HK25.out.sm (by omega) HOa25.out).mono ?_); rintro e w26 ⟨rfl, o26, s26, k26⟩)
            have HK26 := Lib.hid (HK25.out.step HOa25.out (by decide) hWa s26 k26)
            have HOa26 := Lib.hid o26
            clear HK25 HOa25 o26 s26 k26
            go_wp2_with fail
            rw [rounds_succ]
            go_wp2_with fail
            ((with_reducible refine (pop_b h1a HK26.out.sm (by omega) HOa26.out).mono ?_); rintro e w27 ⟨rfl, o27, s27, k27⟩)
            have HK27 := Lib.hid (HK26.out.step HOa26.out (by decide) hWa s27 k27)
            have HOa27 := Lib.hid o27
            clear HK26 HOa26 o27 s27 k27
            go_wp2_with fail
            rw [rounds_succ]
            go_wp2_with fail
            ((with_reducible refine (pop_c h1a HK27.out.sm (by omega) (by omega) HOa27.out).mono ?_); rintro e w28 ⟨rfl, o28, s28, k28⟩)
            have HK28 := Lib.hid (HK27.out.step HOa27.out (by decide) hWa s28 k28)
            have HOa28 := Lib.hid o28
            clear HK27 HOa27 o28 s28 k28
            go_wp2_with fail
            rw [rounds_succ]
            clear HOa28
            go_wp2_with fail
            ((with_reducible refine (sm_load HK28.out.sm (by omega)).mono ?_); rintro e w29 ⟨rfl, s29, k29⟩)
            have HK29 := Lib.hid (HK28.out.only s29 k29)
            clear HK28 s29 k29
            have hah := asHead_any _ w29 HK29.out.sm.lay (head_u64 (topOf (s.take m).reverse) (T + 1 + 1 + 1 + 1))
            rw [HK29.out.sm.top, HK29.out.sm.tag] at hah
            go_wp2_with fail
            ((with_reducible refine (hah).mono ?_); rintro e w30 ⟨rfl, j30, rfl⟩)
            have HX30 := Lib.hid (show Below w29.heap.size w29 (w29.drewN j30) from below_drewN' (Below.refl _ _) j30)
            have HK30 := Lib.hid (HK29.out.below HX30.out)
            clear HK29  HX30
            revert HK30 
            generalize w29.drewN j30 = w30
            intro HK30 
            clear hah
            have HT0 := HT.out
            subst HT0
            have hcmp : (((m : Int) + 2 + 1 + 1 + 1 + 1) != (m : Int) + 2 + 4) = false := by rw [bne_eq_false_iff_eq]; omega
            have HKD : Hid (SK W p b 500 (s.take m).reverse (((m + 2 : Nat) : Int) + 1 + 1 + 1 + 1) (.slice (some ⟨g2, 0, none⟩) (m + 2) c) s w30) := Lib.hid (by simpa using HK30.out.mono (show _ ≤ 500 by omega))
            clear HK30 
            go_wp2_with fail
            go_loopw [28] (fun j wr => ∃ k : Nat, k ≤ m ∧ j = .int .i64 ((k : Int) - 1) ∧ Hid (SK W p b (500 + 3 * (m - k)) (s.take k).reverse (((m + 2 : Nat) : Int) + 1 + 1 + 1 + 1 + ((m : Int) - (k : Int))) (.slice (some ⟨g2, 0, none⟩) (m + 2) c) s wr)) (fun j _ => (intOf j + 1).toNat)
            case atStart => exact ⟨m, Nat.le_refl _, by go_num, Lib.hid (by simpa using HKD.out)⟩
            case round =>
              clear HKD
              obtain ⟨k, hk, rfl, HK20⟩ := hrel
              rename World => w20
              by_cases hk0 : 0 < k
              · obtain ⟨i, rfl⟩ : ∃ i, k = i + 1 := ⟨k - 1, by omega⟩
                rw [show ((i + 1 : Nat) : Int) - 1 = (i : Int) by omega]
                have his : i < s.length := by have := HSL.out; omega
                have y2 : w20.cell? ⟨g2, i, none⟩ = some (.int .i64 (s.getD i 0)) := (own_cell2 HK20.out.row his).trans (ints_at 0 his)
                have hge : (0 : Int) ≤ (i : Int) := by omega
                have him : (i : Int) < (m : Int) := by omega
                obtain ⟨hx0, hx1, _, hrv⟩ := take_rev his HND.out HIN.out
                rw [hrv] at HK20
                clear hrv
                generalize hxe : s.getD i 0 = x at y2 hx0 hx1 HK20
                have HXE := Lib.hid hxe
                clear hxe
                have HE := Lib.hid (show ((m + 2 : Nat) : Int) + 1 + 1 + 1 + 1 + ((m : Int) - ((i + 1 : Nat) : Int)) + 1 = ((m + 2 : Nat) : Int) + 1 + 1 + 1 + 1 + ((m : Int) - (i : Int)) by omega)
                have hTb : ((m + 2 : Nat) : Int) + 1 + 1 + 1 + 1 + ((m : Int) - ((i + 1 : Nat) : Int)) + 1 < 1000000 := by omega
                generalize ((m + 2 : Nat) : Int) + 1 + 1 + 1 + 1 + ((m : Int) - ((i + 1 : Nat) : Int)) = Tk at HK20 HE hTb
                go_wp2_with fail
                ((with_reducible refine (newPop_any w20).mono ?_); rintro e w21 ⟨rfl, o21, hb21, hs21⟩)
                have hWz : W.heap.size ≤ w20.heap.size := HK20.out.low.size
                have HK21 := Lib.hid (HK20.out.below hb21)
                have HOz21 := Lib.hid o21
                clear HK20  o21 hb21 hs21
                generalize w20.heap.size = qz at *
                have h1z : 1 < qz := by omega
                go_wp2_with fail
                refine wp_loop_rounds 4 ?_
                rw [rounds_succ]
                go_wp2_with fail
                ((with_reducible refine (pop_a h1z HK21.out.sm (by omega) HOz21.out).mono ?_); rintro e w22 ⟨rfl, o22, s22, k22⟩)
                have HK22 := Lib.hid (HK21.out.step HOz21.out (by decide) hWz s22 k22)
                have HOz22 := Lib.hid o22
                clear HK21 HOz21 o22 s22 k22
                go_wp2_with fail
                rw [rounds_succ]
                go_wp2_with fail
                ((with_reducible refine (pop_b h1z HK22.out.sm (by omega) HOz22.out).mono ?_); rintro e w23 ⟨rfl, o23, s23, k23⟩)
                have HK23 := Lib.hid (HK22.out.step HOz22.out (by decide) hWz s23 k23)
                have HOz23 := Lib.hid o23
                clear HK22 HOz22 o23 s23 k23
                go_wp2_with fail
                rw [rounds_succ]
                go_wp2_with fail
                ((with_reducible refine (pop_c h1z HK23.out.sm (by omega) (by omega) HOz23.out).mono ?_); rintro e w24 ⟨rfl, o24, s24, k24⟩)
                have HK24 := Lib.hid (HK23.out.step HOz23.out (by decide) hWz s24 k24)
                have HOz24 := Lib.hid o24
                clear HK23 HOz23 o24 s24 k24
                go_wp2_with fail
                rw [rounds_succ]
                have htop : wSlot (headW x Tk) = x := slot_head x Tk (by omega) hx1
                have hgot := got_slot HK24.out.sm.lay (head_u64 x Tk) (by rw [htop]; exact hx0) HOz24.out
                rw [htop] at hgot
                clear htop y2
                go_wp2_with fail
                ((with_reducible refine hgot.mono ?_); rintro e w25 ⟨rfl, j25, rfl⟩)
                have HX := Lib.hid (show Below w24.heap.size w24 (w24.drewN j25) from below_drewN' (Below.refl _ _) j25)
                have HK25 := Lib.hid (HK24.out.below HX.out)
                clear HK24 HOz24 HX hgot
                revert HK25
                generalize w24.drewN j25 = w25
                intro HK25
                have y2 : w25.cell? ⟨g2, i, none⟩ = some (.int .i64 x) := (own_cell2 HK25.out.row his).trans ((ints_at 0 his).trans (by rw [HXE.out]))
                go_wp2_with fail
                go_roundw
                case rel => exact ⟨i, by omega, by go_num, Lib.hid (by rw [← HE.out]; exact HK25.out.mono (by omega))⟩
                case measure => simp [intOf]
              · have hk1 : k = 0 := by omega
                subst hk1
                go_wp2_with fail
                ((with_reducible refine (lives_any w20 HK20.out.sm.lay HK20.out.sm.laym).mono ?_); rintro e w21 ⟨rfl, hb⟩)
                go_wp2_with fail
                go_ret
                exact ⟨rfl, HK20.out.low.trans (hb.mono HK20.out.low.size)⟩
end Go.Proofs.YtipgidkpjilhoaaDoor
