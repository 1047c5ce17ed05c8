/-
  The law HeadersGrow walked: it answers true, and changes nothing that was there; conditions: the program's five calls do as the plain side says, where what the program lays lies as laid.
-/
import Derived.Test.YtfholfmlkehfnaaDoorHE3
namespace Go.Proofs.YtfholfmlkehfnaaDoor
open Go.RowKit

theorem asHeader_hw {s g most : Int} (w : World) (hL : Lay w) (ho : HOk s g most) (hm : U32 most) : Calls Tryd.prog 18 #[.int .u64 (hw s g)] w fun e w' => e = .returned (.tuple #[.int .u8 s, .int .u32 g]) ∧ Below w.heap.size w w' := by
  have h := asHeader_any (hw s g) w hL (hw_u64 ho hm)
  rw [fld_s, fld_g, hw_s ho, hw_g ho hm, show stS s = s by unfold stS; rw [if_neg (by have := ho.s4; omega)]] at h
  refine h.mono ?_
  rintro e w' ⟨rfl, n, rfl⟩
  exact ⟨rfl, drewN_below w n⟩
/-- A past that may be, up to a header. -/
structure PastOk (ps : List Int) (s g most : Int) : Prop where
  pos : 0 < ps.length
  last : ps.getD (ps.length - 1) 0 = hw s g
  ok : ∀ j, j < ps.length → okAt ps most j = true
  u : ∀ x ∈ ps, U64 x
theorem getD_left {ps : List Int} {x : Int} {j : Nat} (h : j < ps.length) : (ps ++ [x]).getD j 0 = ps.getD j 0 := by
  rw [List.getD_eq_getElem?_getD, List.getD_eq_getElem?_getD, List.getElem?_append_left h]
theorem getD_end (ps : List Int) (x : Int) : (ps ++ [x]).getD ps.length 0 = x := by
  rw [List.getD_eq_getElem?_getD, List.getElem?_append_right (Nat.le_refl _), Nat.sub_self]
  rfl
theorem okAt_left {ps : List Int} {x most : Int} {j : Nat} (h : j < ps.length) : okAt (ps ++ [x]) most j = okAt ps most j := by
  unfold okAt
  rw [getD_left h, getD_left (show 0 < ps.length by omega), getD_left (show j - 1 < ps.length by omega)]
theorem PastOk.start {s g most : Int} (ho : HOk s g most) (hm : U32 most) : PastOk [hw s g] s g most := by
  refine ⟨by simp, rfl, fun j hj => ?_, fun x hx => by rw [List.mem_singleton.1 hx]; exact hw_u64 ho hm⟩
  obtain rfl : j = 0 := by simpa using hj
  exact may_hw ho hm
theorem PastOk.step {ps : List Int} {s g c t h most : Int} (hp : PastOk ps s g most) (ho : HOk s g most) (hm : U32 most) (hd : doneS s g c most = some (t, h)) : PastOk (ps ++ [hw t h]) t h most := by
  obtain ⟨hst, hot⟩ := step_of ho hd
  refine ⟨by simp, ?_, fun j hj => ?_, fun x hx => ?_⟩
  · rw [List.length_append, List.length_singleton, Nat.add_sub_cancel, getD_end]
  · rw [List.length_append, List.length_singleton] at hj
    rcases Nat.lt_or_ge j ps.length with h1 | h1
    · rw [okAt_left h1]
      exact hp.ok j h1
    · obtain rfl : j = ps.length := by omega
      have hpos := hp.pos
      unfold okAt
      rw [if_neg (by omega), getD_end, getD_left (show ps.length - 1 < ps.length by omega), hp.last, of_done (c := c) ho hm (by rw [done_hw ho hm, hd]; rfl)]
      have := hst.c1
      exact decide_eq_true (by omega)
  · rcases List.mem_append.1 hx with hx | hx
    · exact hp.u x hx
    · rw [List.mem_singleton.1 hx]
      exact hw_u64 hot hm
theorem PastOk.all {ps : List Int} {s g most : Int} (hp : PastOk ps s g most) : pastH ps most = ps.length := past_all hp.ok
theorem past_bad {x most : Int} (h : mayH x most = false) : pastH [x] most = 0 := past_first (by simp) h (fun j hj => by omega)
theorem may_over {g most : Int} (hg : U32 g) (h : most < g) : mayH (hw 0 g) most = false := by
  obtain ⟨g0, g1⟩ := hg
  unfold mayH
  rw [decide_eq_false_iff_not]
  unfold hw
  omega
/-- What stands between two rounds. -/
structure GAt (w0 : World) (ps : List Int) (v : Value) (w : World) : Prop where
  own : w.ownsRow w0.heap.size 22 1 v ps.length (ps.map uV)
  low : Below w0.heap.size w0 w
set_option maxRecDepth 100000 in
set_option maxHeartbeats 16000000 in
theorem lawGrow {L : World → Prop} (H : HPrg L) (A : Option Addr) (cap : Nat) (l : List Int) (first most : Int) (w : World) (hL : L w) (hs : Row w A (l.map cV)) (hu : ∀ x ∈ l, U8 x) (hf : U32 first) (hm : U32 most) (hl : l.length ≤ 200) (hfm : first ≤ most) :
    Calls Tryd.prog 5 #[.slice A l.length cap, .int .u32 first, .int .u32 most] w fun e w' => e = .returned (.bool true) ∧ Below w.heap.size w w' := by
  obtain ⟨i0, hi, hz0, hz1, hz2⟩ := info_parts Tryd_infoU
  have hf' := hf
  have hm' := hm
  unfold U32 at hf' hm'
  obtain ⟨f0, f1⟩ := hf'
  obtain ⟨m0, m1⟩ := hm'
  have ho0 : HOk 0 first most := ⟨by decide, by decide, f0, hfm, fun h => by cases h⟩
  have HL := Lib.hid hL
  have HS := Lib.hid hs
  have HU := Lib.hid hu
  have HF := Lib.hid hf
  have HM := Lib.hid hm
  have HO0 := Lib.hid ho0
  clear hL hs hu hf hm ho0
  go_enter Tryd.func5, Tryd.ntmps5
  go_wp2_with fail
  refine (of_any 0 first w (H.lay _ HL.out) (by decide) (by decide) HF.out).mono ?_
  rintro e w1 ⟨rfl, hb1⟩
  have HB1 := Lib.hid hb1
  have HOW := Lib.hid (World.ownsRow_lit (base := w.heap.size) (size := 1) (e := 22) w1 #[uV (hw 0 first)] 1 hb1.size (by unfold maxLen; omega) rfl)
  have HBA := Lib.hid (hb1.alloc hb1.size (.cells #[uV (hw 0 first)] 22))
  have HP0 := Lib.hid (PastOk.start HO0.out HM.out)
  clear hb1
  go_wp2_with fail
  go_loopw [7, 8, 9] (fun x v i wr => ∃ (k : Nat) (s g : Int) (ps : List Int), k ≤ l.length ∧ i = .int .i64 (k : Int) ∧ x = .int .u64 (hw s g) ∧ ps.length ≤ k + 1 ∧ wr.ownsRow w.heap.size 22 1 v ps.length (ps.map uV) ∧ HOk s g most ∧ PastOk ps s g most ∧ Below w.heap.size w wr) (fun _ _ i _ => l.length - (intOf i).toNat)
  case atStart => exact ⟨0, 0, first, [hw 0 first], Nat.zero_le _, rfl, rfl, by simp, HOW.out, HO0.out, HP0.out, HBA.out⟩
  case round =>
    obtain ⟨k, s, g, ps, hk, rfl, rfl, hps, hown, ho, hp, hlow⟩ := hrel
    obtain ⟨B, cb, rfl, q1, q2, _⟩ := own_slice hown
    have HR := Lib.hid (⟨hown, hlow⟩ : GAt w ps _ wr)
    have HO := Lib.hid ho
    have HP := Lib.hid hp
    have hk0 : (0 : Int) ≤ (k : Int) := by omega
    clear hown ho hp hlow
    by_cases hlt : k < l.length
    · have hlt' : (k : Int) < (l.length : Int) := by omega
      obtain ⟨ga, off, rfl, hc⟩ := (HS.out.below (HR.out.low.mono (Nat.le_refl _))).at_ (k := k) (by rw [List.length_map]; exact hlt)
      have y := hc k _ (bytes_at hlt)
      have hbd : U8 (l.getD k 0) := by
        rw [List.getD_eq_getElem?_getD, List.getElem?_eq_getElem hlt]
        exact HU.out _ (List.getElem_mem hlt)
      obtain ⟨z, hz⟩ : ∃ z, l.getD k 0 = z := ⟨_, rfl⟩
      rw [hz] at y hbd
      unfold U8 at hbd
      obtain ⟨z0, z1⟩ := hbd
      obtain ⟨c, hcm⟩ : ∃ c, z % 9 = c := ⟨_, rfl⟩
      have c0 : 0 ≤ c := by omega
      have c8 : c ≤ 8 := by omega
      have hcu : U8 c := ⟨c0, by omega⟩
      have D1 : Hid (∀ W, Below w.heap.size w W → Calls Tryd.prog 11 #[.int .u64 (hw s g), .int .u8 c, .int .u32 most] W fun e w' => e = .returned (toldW (doneH (hw s g) c most)) ∧ Below W.heap.size W w') := Lib.hid (fun W h => H.done (hw s g) c most W (H.low _ _ HL.out (h.mono (Nat.le_refl _))) (hw_u64 HO.out HM.out) hcu HM.out)
      have HDH := Lib.hid (done_hw (c := c) HO.out HM.out)
      clear hc hz
      cases hd : doneS s g c most with
      | none =>
        rw [HDH.out, hd, Option.map_none, told_none] at D1
        clear hd
        go_wp2_with fail
        refine (D1.out wr HR.out.low).mono ?_
        rintro e w2 ⟨rfl, hb2⟩
        have HB2 := Lib.hid (HR.out.low.trans (hb2.mono HR.out.low.size))
        have HO2 := Lib.hid (own_low HR.out.own hb2)
        clear hb2
        go_wp2_with fail
        go_roundw
        case rel => exact ⟨k + 1, s, g, ps, by omega, by go_num, rfl, by omega, HO2.out, HO.out, HP.out, HB2.out⟩
        case measure => simp [intOf]; omega
      | some p =>
        obtain ⟨t, h⟩ := p
        obtain ⟨hst, hot⟩ := step_of HO.out hd
        have HT := Lib.hid hot
        have HPN := Lib.hid (HP.out.step HO.out HM.out hd)
        have hdone : doneH (hw s g) c most = some (hw t h) := by rw [HDH.out, hd]; rfl
        rw [hdone, told_some] at D1
        have D2 : Hid (∀ W, Below w.heap.size w W → Calls Tryd.prog 9 #[.int .u64 (hw s g), .int .u64 (hw t h), .int .u32 most] W fun e w' => e = .returned (.int .u8 c) ∧ Below W.heap.size W w') := Lib.hid (fun W hW => by
          have h1 := H.of (hw s g) (hw t h) most W (H.low _ _ HL.out (hW.mono (Nat.le_refl _))) (hw_u64 HO.out HM.out) (hw_u64 HT.out HM.out) HM.out
          rw [of_done HO.out HM.out hdone] at h1
          exact h1)
        have D3 : Hid (∀ W, Below w.heap.size w W → Calls Tryd.prog 7 #[.int .u64 (hw t h), .int .u32 most] W fun e w' => e = .returned (.bool true) ∧ Below W.heap.size W w') := Lib.hid (fun W hW => by
          have h1 := H.may (hw t h) most W (H.low _ _ HL.out (hW.mono (Nat.le_refl _))) (hw_u64 HT.out HM.out) HM.out
          rw [may_hw HT.out HM.out] at h1
          exact h1)
        have g0 := HO.out.g0
        have gm := HO.out.gm
        have s0 := HO.out.s0
        have halive := hst.alive
        have hsb : (s == 4) = false := beq_eq_false_iff_ne.2 halive
        have hup := hst.up
        have hhm := hst.hm
        have hgo : (t == 4) = (c == 5) := by
          have h1 := hst.gone
          rw [Bool.eq_iff_iff, beq_iff_eq, beq_iff_eq]
          exact h1
        have hgg : ((c == 5) != (c == 5)) = false := bne_self_eq_false _
        have hcc : (c != c) = false := bne_self_eq_false _
        clear hd hst hot hdone halive HDH
        by_cases hc34 : c = 3 ∨ c = 4
        · rw [if_pos hc34] at hup
          subst hup
          have hsub : g + 1 - g = 1 := by omega
          have hlg : g ≤ g + 1 := by omega
          rcases hc34 with rfl | rfl
          · go_wp2_with fail
            refine (D1.out wr HR.out.low).mono ?_
            rintro e w2 ⟨rfl, hb2⟩
            have HB2 := Lib.hid (HR.out.low.trans (hb2.mono HR.out.low.size))
            have HO2 := Lib.hid (own_low HR.out.own hb2)
            clear hb2
            go_wp2_with fail
            refine (asHeader_hw w2 (H.lay _ (H.low _ _ HL.out (HB2.out.mono (Nat.le_refl _)))) HO.out HM.out).mono ?_
            rintro e w3 ⟨rfl, hb3⟩
            have HB3 := Lib.hid (HB2.out.trans (hb3.mono HB2.out.size))
            have HO3 := Lib.hid (own_low HO2.out hb3)
            clear hb3 HB2 HO2
            go_wp2_with fail
            refine (asHeader_hw w3 (H.lay _ (H.low _ _ HL.out (HB3.out.mono (Nat.le_refl _)))) HT.out HM.out).mono ?_
            rintro e w4 ⟨rfl, hb4⟩
            have HB4 := Lib.hid (HB3.out.trans (hb4.mono HB3.out.size))
            have HO4 := Lib.hid (own_low HO3.out hb4)
            clear hb4 HB3 HO3
            go_wp2_with fail
            refine (D2.out w4 HB4.out).mono ?_
            rintro e w5 ⟨rfl, hb5⟩
            have HB5 := Lib.hid (HB4.out.trans (hb5.mono HB4.out.size))
            have HO5 := Lib.hid (own_low HO4.out hb5)
            clear hb5 HB4 HO4
            go_wp2_with fail
            refine (D3.out w5 HB5.out).mono ?_
            rintro e w6 ⟨rfl, hb6⟩
            have HB6 := Lib.hid (HB5.out.trans (hb6.mono HB5.out.size))
            have HO6 := Lib.hid (own_low HO5.out hb6)
            have HOA := Lib.hid (HO6.out.alloc (.cells #[uV (hw t (g + 1))] 22))
            have HBA := Lib.hid (HB6.out.alloc HB6.out.size (.cells #[uV (hw t (g + 1))] 22))
            clear hb6 HB5 HO5 HO6 HB6
            go_wp2_with (at_builtin; refine wpList_append_own _ rfl (.tmp 105) (.tmp 107) _ rfl w.heap.size 22 i0 _ 1 8 Tryd.underlying36 hi hz0 hz1 hz2 rfl (by decide) _ ps.length (ps.map uV) rfl HOA.out ⟨w6.heap.size, 0, Option.none⟩ 1 1 [uV (hw t (g + 1))] rfl rfl (cells_new w6 22 [uV (hw t (g + 1))]) (fun u hu => by rw [List.mem_singleton.1 hu]; rfl) (by unfold maxLen; omega) (by omega) HBA.out.size ?_; intro v' w7 hown' hgrow _; have HO7 := Lib.hid hown'; have HG7 := Lib.hid (HBA.out.grown hgrow HBA.out.size (fun k hk => (HOA.out.lt k hk).1)); clear hown' hgrow)
            go_roundw
            case rel =>
              refine ⟨k + 1, t, (g + 1), ps ++ [hw t (g + 1)], by omega, by go_num, rfl, by rw [List.length_append, List.length_singleton]; omega, ?_, HT.out, HPN.out, HG7.out⟩
              rw [List.length_append, List.map_append]
              exact HO7.out
            case measure => simp [intOf]; omega

          · go_wp2_with fail
            refine (D1.out wr HR.out.low).mono ?_
            rintro e w2 ⟨rfl, hb2⟩
            have HB2 := Lib.hid (HR.out.low.trans (hb2.mono HR.out.low.size))
            have HO2 := Lib.hid (own_low HR.out.own hb2)
            clear hb2
            go_wp2_with fail
            refine (asHeader_hw w2 (H.lay _ (H.low _ _ HL.out (HB2.out.mono (Nat.le_refl _)))) HO.out HM.out).mono ?_
            rintro e w3 ⟨rfl, hb3⟩
            have HB3 := Lib.hid (HB2.out.trans (hb3.mono HB2.out.size))
            have HO3 := Lib.hid (own_low HO2.out hb3)
            clear hb3 HB2 HO2
            go_wp2_with fail
            refine (asHeader_hw w3 (H.lay _ (H.low _ _ HL.out (HB3.out.mono (Nat.le_refl _)))) HT.out HM.out).mono ?_
            rintro e w4 ⟨rfl, hb4⟩
            have HB4 := Lib.hid (HB3.out.trans (hb4.mono HB3.out.size))
            have HO4 := Lib.hid (own_low HO3.out hb4)
            clear hb4 HB3 HO3
            go_wp2_with fail
            refine (D2.out w4 HB4.out).mono ?_
            rintro e w5 ⟨rfl, hb5⟩
            have HB5 := Lib.hid (HB4.out.trans (hb5.mono HB4.out.size))
            have HO5 := Lib.hid (own_low HO4.out hb5)
            clear hb5 HB4 HO4
            go_wp2_with fail
            refine (D3.out w5 HB5.out).mono ?_
            rintro e w6 ⟨rfl, hb6⟩
            have HB6 := Lib.hid (HB5.out.trans (hb6.mono HB5.out.size))
            have HO6 := Lib.hid (own_low HO5.out hb6)
            have HOA := Lib.hid (HO6.out.alloc (.cells #[uV (hw t (g + 1))] 22))
            have HBA := Lib.hid (HB6.out.alloc HB6.out.size (.cells #[uV (hw t (g + 1))] 22))
            clear hb6 HB5 HO5 HO6 HB6
            go_wp2_with (at_builtin; refine wpList_append_own _ rfl (.tmp 105) (.tmp 107) _ rfl w.heap.size 22 i0 _ 1 8 Tryd.underlying36 hi hz0 hz1 hz2 rfl (by decide) _ ps.length (ps.map uV) rfl HOA.out ⟨w6.heap.size, 0, Option.none⟩ 1 1 [uV (hw t (g + 1))] rfl rfl (cells_new w6 22 [uV (hw t (g + 1))]) (fun u hu => by rw [List.mem_singleton.1 hu]; rfl) (by unfold maxLen; omega) (by omega) HBA.out.size ?_; intro v' w7 hown' hgrow _; have HO7 := Lib.hid hown'; have HG7 := Lib.hid (HBA.out.grown hgrow HBA.out.size (fun k hk => (HOA.out.lt k hk).1)); clear hown' hgrow)
            go_roundw
            case rel =>
              refine ⟨k + 1, t, (g + 1), ps ++ [hw t (g + 1)], by omega, by go_num, rfl, by rw [List.length_append, List.length_singleton]; omega, ?_, HT.out, HPN.out, HG7.out⟩
              rw [List.length_append, List.map_append]
              exact HO7.out
            case measure => simp [intOf]; omega

        · rw [if_neg hc34, Int.add_zero] at hup
          subst hup
          have hc3 : (c == 3) = false := beq_eq_false_iff_ne.2 (by omega)
          have hc4 : (c == 4) = false := beq_eq_false_iff_ne.2 (by omega)
          have hsub : h - h = 0 := by omega
          go_wp2_with fail
          refine (D1.out wr HR.out.low).mono ?_
          rintro e w2 ⟨rfl, hb2⟩
          have HB2 := Lib.hid (HR.out.low.trans (hb2.mono HR.out.low.size))
          have HO2 := Lib.hid (own_low HR.out.own hb2)
          clear hb2
          go_wp2_with fail
          refine (asHeader_hw w2 (H.lay _ (H.low _ _ HL.out (HB2.out.mono (Nat.le_refl _)))) HO.out HM.out).mono ?_
          rintro e w3 ⟨rfl, hb3⟩
          have HB3 := Lib.hid (HB2.out.trans (hb3.mono HB2.out.size))
          have HO3 := Lib.hid (own_low HO2.out hb3)
          clear hb3 HB2 HO2
          go_wp2_with fail
          refine (asHeader_hw w3 (H.lay _ (H.low _ _ HL.out (HB3.out.mono (Nat.le_refl _)))) HT.out HM.out).mono ?_
          rintro e w4 ⟨rfl, hb4⟩
          have HB4 := Lib.hid (HB3.out.trans (hb4.mono HB3.out.size))
          have HO4 := Lib.hid (own_low HO3.out hb4)
          clear hb4 HB3 HO3
          go_wp2_with fail
          refine (D2.out w4 HB4.out).mono ?_
          rintro e w5 ⟨rfl, hb5⟩
          have HB5 := Lib.hid (HB4.out.trans (hb5.mono HB4.out.size))
          have HO5 := Lib.hid (own_low HO4.out hb5)
          clear hb5 HB4 HO4
          go_wp2_with fail
          refine (D3.out w5 HB5.out).mono ?_
          rintro e w6 ⟨rfl, hb6⟩
          have HB6 := Lib.hid (HB5.out.trans (hb6.mono HB5.out.size))
          have HO6 := Lib.hid (own_low HO5.out hb6)
          have HOA := Lib.hid (HO6.out.alloc (.cells #[uV (hw t h)] 22))
          have HBA := Lib.hid (HB6.out.alloc HB6.out.size (.cells #[uV (hw t h)] 22))
          clear hb6 HB5 HO5 HO6 HB6
          go_wp2_with (at_builtin; refine wpList_append_own _ rfl (.tmp 105) (.tmp 107) _ rfl w.heap.size 22 i0 _ 1 8 Tryd.underlying36 hi hz0 hz1 hz2 rfl (by decide) _ ps.length (ps.map uV) rfl HOA.out ⟨w6.heap.size, 0, Option.none⟩ 1 1 [uV (hw t h)] rfl rfl (cells_new w6 22 [uV (hw t h)]) (fun u hu => by rw [List.mem_singleton.1 hu]; rfl) (by unfold maxLen; omega) (by omega) HBA.out.size ?_; intro v' w7 hown' hgrow _; have HO7 := Lib.hid hown'; have HG7 := Lib.hid (HBA.out.grown hgrow HBA.out.size (fun k hk => (HOA.out.lt k hk).1)); clear hown' hgrow)
          go_roundw
          case rel =>
            refine ⟨k + 1, t, h, ps ++ [hw t h], by omega, by go_num, rfl, by rw [List.length_append, List.length_singleton]; omega, ?_, HT.out, HPN.out, HG7.out⟩
            rw [List.length_append, List.map_append]
            exact HO7.out
          case measure => simp [intOf]; omega

    · have hge : (l.length : Int) ≤ (k : Int) := by omega
      have HPA := Lib.hid HP.out.all
      have hfm' : first ≤ most := hfm
      go_wp2_with fail
      refine (H.past B cb ps most wr (H.low _ _ HL.out (HR.out.low.mono (Nat.le_refl _))) (row_of_own HR.out.own) HP.out.u HM.out q1 q2 (by omega)).mono ?_
      rintro e w2 ⟨rfl, hb2⟩
      rw [HPA.out]
      have HB2 := Lib.hid (HR.out.low.trans (hb2.mono HR.out.low.size))
      have HL2 := Lib.hid (H.low _ _ HL.out (HB2.out.mono (Nat.le_refl _)))
      clear hb2
      go_wp2_with (go_at_call 14; refine (lives_any H _ HL2.out).mono ?_; rintro e w4 ⟨rfl, hb4⟩; have HL4 := Lib.hid (HB2.out.trans (hb4.mono HB2.out.size)); clear hb4)
      go_ret
      exact ⟨rfl, HL4.out⟩
set_option maxRecDepth 100000 in
set_option maxHeartbeats 4000000 in
theorem lawGrow_over {L : World → Prop} (H : HPrg L) (A : Option Addr) (cap : Nat) (l : List Int) (first most : Int) (w : World) (hL : L w) (hs : Row w A (l.map cV)) (hu : ∀ x ∈ l, U8 x) (hf : U32 first) (hm : U32 most) (hl : l.length ≤ 200) (hfm : most < first) :
    Calls Tryd.prog 5 #[.slice A l.length cap, .int .u32 first, .int .u32 most] w fun e w' => e = .returned (.bool true) ∧ Below w.heap.size w w' := by
  have hmay := may_over hf hfm
  have HL := Lib.hid hL
  have HS := Lib.hid hs
  have HU := Lib.hid hu
  have HM := Lib.hid hm
  have hwu : U64 (hw 0 first) := by
    obtain ⟨f0, f1⟩ := hf
    unfold hw U64
    omega
  have HWU := Lib.hid hwu
  have D1 : Hid (∀ c W, U8 c → Below w.heap.size w W → Calls Tryd.prog 11 #[.int .u64 (hw 0 first), .int .u8 c, .int .u32 most] W fun e w' => e = .returned (.tuple #[.int .u64 0, .bool false]) ∧ Below W.heap.size W w') := Lib.hid (fun c W hc h => by
    have h1 := H.done (hw 0 first) c most W (H.low _ _ HL.out (h.mono (Nat.le_refl _))) hwu hc HM.out
    rw [done_no hmay, told_none] at h1
    exact h1)
  have HP := Lib.hid (past_bad hmay)
  have C1 := Lib.hid (of_any 0 first w (H.lay _ HL.out) (by decide) (by decide) hf)
  clear hL hs hu hm hf hmay hwu
  go_enter Tryd.func5, Tryd.ntmps5
  go_wp2_with fail
  refine C1.out.mono ?_
  rintro e w1 ⟨rfl, hb1⟩
  have HBA := Lib.hid (hb1.alloc hb1.size (.cells #[uV (hw 0 first)] 22))
  have HR0 := Lib.hid (row_new w1 22 ([hw 0 first].map uV))
  clear hb1
  go_wp2_with fail
  change Code.wp _ _ _ _ (w1.alloc (.cells ([hw 0 first].map uV).toArray 22))
  have HBA2 := Lib.hid (show Below w.heap.size w (w1.alloc (.cells ([hw 0 first].map uV).toArray 22)) from HBA.out)
  clear HBA
  revert HR0 HBA2
  generalize w1.alloc (.cells ([hw 0 first].map uV).toArray 22) = w2
  intro HR0 HBA2
  obtain ⟨q, hq⟩ : ∃ q, w1.heap.size = q := ⟨_, rfl⟩
  rw [hq] at HR0 ⊢
  clear hq
  go_loopw [7, 8, 9] (fun x v i wr => ∃ k : Nat, k ≤ l.length ∧ i = .int .i64 (k : Int) ∧ x = .int .u64 (hw 0 first) ∧ v = .slice (some ⟨q, 0, Option.none⟩) 1 1 ∧ Below w2.heap.size w2 wr) (fun _ _ i _ => l.length - (intOf i).toNat)
  case atStart => exact ⟨0, Nat.zero_le _, rfl, rfl, rfl, Below.refl _ _⟩
  case round =>
    obtain ⟨k, hk, rfl, rfl, rfl, hr⟩ := hrel
    have HR := Lib.hid hr
    have HB := Lib.hid (HBA2.out.trans (hr.mono HBA2.out.size))
    have hk0 : (0 : Int) ≤ (k : Int) := by omega
    clear hr
    by_cases hlt : k < l.length
    · have hlt' : (k : Int) < (l.length : Int) := by omega
      obtain ⟨ga, off, rfl, hc⟩ := (HS.out.below (HB.out.mono (Nat.le_refl _))).at_ (k := k) (by rw [List.length_map]; exact hlt)
      have y := hc k _ (bytes_at hlt)
      have hbd : U8 (l.getD k 0) := by
        rw [List.getD_eq_getElem?_getD, List.getElem?_eq_getElem hlt]
        exact HU.out _ (List.getElem_mem hlt)
      obtain ⟨z, hz⟩ : ∃ z, l.getD k 0 = z := ⟨_, rfl⟩
      rw [hz] at y hbd
      unfold U8 at hbd
      obtain ⟨z0, z1⟩ := hbd
      obtain ⟨c, hcm⟩ : ∃ c, z % 9 = c := ⟨_, rfl⟩
      have hcu : U8 c := ⟨by omega, by omega⟩
      have HCU := Lib.hid hcu
      clear hc hz hcu
      go_wp2_with fail
      refine (D1.out c wr HCU.out HB.out).mono ?_
      rintro e w3 ⟨rfl, hb3⟩
      have HR3 := Lib.hid (HR.out.trans (hb3.mono HR.out.size))
      clear hb3
      go_wp2_with fail
      go_roundw
      case rel => exact ⟨k + 1, by omega, by go_num, rfl, rfl, HR3.out⟩
      case measure => simp [intOf]; omega
    · have hge : (l.length : Int) ≤ (k : Int) := by omega
      go_wp2_with fail
      refine (H.past (some ⟨q, 0, Option.none⟩) 1 [hw 0 first] most wr (H.low _ _ HL.out (HB.out.mono (Nat.le_refl _))) (HR0.out.below HR.out) (fun x hx => by rw [List.mem_singleton.1 hx]; exact HWU.out) HM.out (by simp) (by omega) (by simp)).mono ?_
      rintro e w3 ⟨rfl, hb3⟩
      rw [HP.out]
      have HB3 := Lib.hid (HB.out.trans (hb3.mono HB.out.size))
      have HL3 := Lib.hid (H.low _ _ HL.out (HB3.out.mono (Nat.le_refl _)))
      clear hb3
      go_wp2_with (go_at_call 14; refine (lives_any H _ HL3.out).mono ?_; rintro e w4 ⟨rfl, hb4⟩; have HL4 := Lib.hid (HB3.out.trans (hb4.mono HB3.out.size)); clear hb4)
      go_ret
      exact ⟨rfl, HL4.out⟩
set_option maxHeartbeats 1000000 in
theorem lawGrow_long {L : World → Prop} (H : HPrg L) (first most : Int) (A : Option Addr) (m cap : Nat) (w : World) (hL : L w) (hm : 200 < m) :
    Calls Tryd.prog 5 #[.slice A m cap, .int .u32 first, .int .u32 most] w fun e w' => e = .returned (.bool true) ∧ Below w.heap.size w w' := by
  have HL := Lib.hid hL
  clear hL
  go_enter Tryd.func5, Tryd.ntmps5
  go_wp2_with (go_at_call 14; refine (lives_any H _ HL.out).mono ?_; rintro e w4 ⟨rfl, hb4⟩; have HL4 := Lib.hid hb4; clear hb4)
  go_ret
  exact ⟨rfl, HL4.out⟩
end Go.Proofs.YtfholfmlkehfnaaDoor
