/-
  The law ScriptsJoin walked: it answers true, and changes nothing that was there; conditions: the table of sizes reads as the program lays it; the bytes lie as it says.
-/
import Derived.Test.YtlgfdemggkiojaaDoorJ1
import Derived.Deep.DeepCutAuto
namespace Go.Proofs.YtlgfdemggkiojaaDoor
open Go.RowKit

set_option maxRecDepth 100000 in
set_option maxHeartbeats 8000000 in
theorem lawJoin (A1 A2 : Option Addr) (cap1 cap2 : Nat) (xs ys : List UInt8) (w : World) (hlay : Lay w) (hs1 : Sl w A1 xs) (hn1 : xs.length ≤ cap1) (hc1 : cap1 ≤ 9223372036854775807) (hcap1 : A1 = none → cap1 = 0)
    (hs2 : Sl w A2 ys) (hn2 : ys.length ≤ cap2) (hc2 : cap2 ≤ 9223372036854775807) (hcap2 : A2 = none → cap2 = 0) (hx : xs.length ≤ 1500) (hy : ys.length ≤ 1500) :
    Calls Tryd.prog 7 #[.slice A1 xs.length cap1, .slice A2 ys.length cap2] w fun e w' => e = .returned (.bool true) ∧ Below w.heap.size w w' := by
  have HLAY := Lib.hid hlay
  have HS1 := Lib.hid hs1
  have HS2 := Lib.hid hs2
  have HCAP1 := Lib.hid hcap1
  have HCAP2 := Lib.hid hcap2
  have hxl := parseC_length xs
  have hyl := parseC_length ys
  clear hlay hs1 hs2 hcap1 hcap2
  go_enter Tryd.func7, Tryd.ntmps7
  go_wp2_with fail
  refine (parse_s A1 cap1 xs w HLAY.out HS1.out hn1 hc1).mono ?_
  rintro e w1 ⟨A5, rfl, hs5, hb1⟩
  have HB1 := Lib.hid hb1
  have HS5 := Lib.hid hs5
  clear hs5 hb1
  go_wp2_with fail
  refine (parse_s A2 cap2 ys w1 (HLAY.out.below (HB1.out.mono (Nat.le_refl _))) (HS2.out.below (HB1.out.mono (Nat.le_refl _))) hn2 hc2).mono ?_
  rintro e w2 ⟨A6, rfl, hs6, hb2⟩
  have HB2 := Lib.hid (HB1.out.trans (hb2.mono HB1.out.size))
  have HS5b := Lib.hid (HS5.out.below hb2)
  have HS6 := Lib.hid hs6
  clear hs6 hb2 HS5 HB1
  go_upto_if 26 with (fail)
  go_cut [5] (fun s5 wx => s5 = .slice A5 (parseC xs).length (parseC xs).length ∧ WholeLast xs (parseC xs) ∧ Below w2.heap.size w2 wx)
  case first =>
    have hgoodW : WholeLast xs (parseC xs) → WholeLast xs (parseC xs) := id
    by_cases hL0 : (parseC xs).length = 0
    · have hnil : WholeLast xs (parseC xs) := fun c hc => by
        rw [List.eq_nil_of_length_eq_zero hL0] at hc
        cases hc
      have HNIL := Lib.hid hnil
      clear hnil hgoodW
      go_wp2_with fail
      go_meet
      exact ⟨by rw [hL0], HNIL.out, Below.refl _ _⟩
    · obtain ⟨K, hK⟩ : ∃ K, (parseC xs).length = K + 1 := ⟨(parseC xs).length - 1, by omega⟩
      obtain ⟨⟨kd, fr, u, a, t, s, o, ky, vl⟩, hcc⟩ : ∃ c, (parseC xs)[K]? = some c := ⟨_, List.getElem?_eq_getElem (by omega)⟩
      obtain ⟨p, d, hca⟩ := cover_of hcc
      have hlast : ∀ c, (parseC xs).getLast? = some c → c = ⟨kd, fr, u, a, t, s, o, ky, vl⟩ := fun c h => by
        rw [List.getLast?_eq_getElem?, hK, Nat.add_sub_cancel, hcc] at h
        exact (Option.some.inj h).symm
      obtain ⟨g5, off5, rfl, hcm⟩ := HS5b.out (fun e => by rw [e] at hK; simp at hK)
      obtain ⟨a0, a1, a2, a3, a4, a5, a6, a7, a8⟩ := hcm K _ hcc
      have hmx := take_most xs (by omega)
      obtain ⟨g1, off1, rfl, hb1⟩ := HS1.out (fun e => by have h := hca.lt; rw [hmx, e] at h; simp at h)
      have hfr := hca.fr
      have hu := hca.to
      have hd1 := hca.d1
      have hle := hca.le
      have hplt := hca.lt
      rw [hmx] at hle hplt
      have y := hb1.below HB2.out p hplt
      have hyb := hb1
      dsimp only at a0 a1 a2 a3 a4 a5 a6 a7 a8 hfr hu
      subst hfr
      have hu1 : (p : Int) < u := by omega
      have hu2 : u ≤ 65536 := by omega
      have hp0 : (0 : Int) ≤ (p : Int) := by omega
      have hpa : (p : Int) < (xs.length : Int) := by omega
      have hK0 : (0 : Int) ≤ (K : Int) := by omega
      have HLAST := Lib.hid hlast
      have HUD := Lib.hid hu
      have HKE := Lib.hid hK
      have hKb : K ≤ 65535 := by omega
      rw [hK]
      have HYB := Lib.hid hyb
      clear hcc hca hcm hmx hlast hu hb1 hyb y hgoodW hxl hL0
      have hsuc : ((K + 1 : Nat) : Int) = (K : Int) + 1 := by omega
      have HBX := Lib.hid (show Below w2.heap.size w2 (w2.alloc (.cells #[.int .u8 kd, .int .i64 p, .int .i64 u, .int .i64 a, .int .i64 t, .int .u8 s, .int .u8 o, .int .u64 ky, .int .u64 vl] 34)) from (Below.refl _ _).alloc (Nat.le_refl _) _)
      have HSUC := Lib.hid hsuc
      clear hK hsuc
      by_cases hkd : kd = 0
      · subst hkd
        have HBW := Lib.hid (HB2.out.trans (HBX.out.mono HB2.out.size))
        have y2 : (w2.alloc (.cells #[.int .u8 0, .int .i64 p, .int .i64 u, .int .i64 a, .int .i64 t, .int .u8 s, .int .u8 o, .int .u64 ky, .int .u64 vl] 34)).cell? ⟨g1, off1 + p, none⟩ = some (.int .u8 (byt xs p)) := HYB.out.below (HBW.out.mono (Nat.le_refl _)) p hplt
        by_cases hgt : 1 < u - (p : Int)
        · go_wp2_with (go_at_call 8; refine (lives_any _ (HLAY.out.below (HBW.out.mono (Nat.le_refl _)))).mono ?_; rintro e w4 ⟨rfl, hb4⟩; have HL4 := Lib.hid (HBW.out.trans (hb4.mono HBW.out.size)); clear hb4)
          go_ret; exact ⟨rfl, HL4.out⟩
        · have hgt' : u - (p : Int) ≤ 1 := by omega
          by_cases hby : byt xs p < 136
          · go_wp2_with (go_at_call 8; refine (lives_any _ (HLAY.out.below (HBW.out.mono (Nat.le_refl _)))).mono ?_; rintro e w4 ⟨rfl, hb4⟩; have HL4 := Lib.hid (HBW.out.trans (hb4.mono HBW.out.size)); clear hb4)
            go_ret; exact ⟨rfl, HL4.out⟩
          · have hw : WholeLast xs (parseC xs) := fun c hc => by
              rw [HLAST.out c hc]
              exact .inr ⟨hgt', show 136 ≤ byt xs ((p : Int)).toNat by rw [show ((p : Int)).toNat = p from rfl]; omega⟩
            have HW := Lib.hid hw
            clear hw
            go_wp2_with fail
            go_meet
            exact ⟨by rw [HKE.out], HW.out, HBX.out⟩
      · have hw : WholeLast xs (parseC xs) := fun c hc => by
          rw [HLAST.out c hc]
          exact .inl hkd
        have HW := Lib.hid hw
        clear hw
        go_wp2_with fail
        go_meet
        exact ⟨by rw [HKE.out], HW.out, HBX.out⟩
  case rest =>
    obtain ⟨rfl, hwl, hbc⟩ := hcut
    have hjoin := parse_join hx hy hwl
    have hjl : (parseC (xs ++ ys)).length = (parseC xs).length + (parseC ys).length := by rw [hjoin, List.length_append, List.length_map]
    have HJ := Lib.hid hjoin
    have HJL := Lib.hid hjl
    have HBC := Lib.hid (HB2.out.trans (hbc.mono HB2.out.size))
    have HS5c := Lib.hid (HS5b.out.below hbc)
    have HS6c := Lib.hid (HS6.out.below hbc)
    clear hwl hbc HS5b HS6 hjl hjoin HB2
    go_wp2_with (first
      | (at_builtin; refine append_byts rfl (.const (.slice none 0 0)) (.tmp 53) rfl wc.heap.size _ [] rfl (World.ownsRow_nil _ _ _ _) A1 cap1 xs rfl (HS1.out.below (HBC.out.mono (Nat.le_refl _))) HCAP1.out (by simp; omega) (Nat.le_refl _) ?_; intro v3 w3 ho3 hb3; rw [List.nil_append] at ho3; have HO3 := Lib.hid ho3; have HB3 := Lib.hid hb3; clear ho3 hb3)
      | (at_builtin; refine append_byts rfl (.tmp 54) (.tmp 55) rfl wc.heap.size _ xs rfl HO3.out A2 cap2 ys rfl (HS2.out.below ((HBC.out.trans (HB3.out.mono HBC.out.size)).mono (Nat.le_refl _))) HCAP2.out (by omega) HB3.out.size ?_; intro v4 w4 ho4 hb4; obtain ⟨A7, c7, rfl, q1, q2, _⟩ := own_slice ho4; have HO4 := Lib.hid ho4; have HB4 := Lib.hid (HB3.out.trans hb4); clear ho4 hb4))
    have hnb : xs.length + ys.length = (xs ++ ys).length := by rw [List.length_append]
    rw [hnb]
    refine (parse_s A7 c7 (xs ++ ys) w4 (HLAY.out.below ((HBC.out.trans (HB4.out.mono HBC.out.size)).mono (Nat.le_refl _))) (sl_of_own HO4.out) q1 q2).mono ?_
    rintro e w5 ⟨A9, rfl, hs9, hb5⟩
    rw [HJL.out]
    rw [HJ.out] at hs9
    have HB5 := Lib.hid (HB4.out.trans (hb5.mono HB4.out.size))
    have HS5d := Lib.hid (HS5c.out.below HB5.out)
    have HS6d := Lib.hid (HS6c.out.below HB5.out)
    have HS9 := Lib.hid hs9
    have HBW := Lib.hid (HBC.out.trans (HB5.out.mono HBC.out.size))
    clear hnb hs9 hb5 HO4 HB4 HO3 HB3 q1 q2 HS5c HS6c HJ HJL HBC HB5 HS1 HS2 HCAP1 HCAP2
    go_wp2_with fail
    go_loopw [9] (fun i wr => ∃ k : Nat, k ≤ (parseC xs).length + (parseC ys).length ∧ i = .int .i64 (k : Int) ∧ Below w5.heap.size w5 wr) (fun i _ => (parseC xs).length + (parseC ys).length - (intOf i).toNat)
    case atStart => exact ⟨0, Nat.zero_le _, rfl, Below.refl _ _⟩
    case round =>
      obtain ⟨k, hk, rfl, hr⟩ := hrel
      have HR := Lib.hid hr
      clear hr
      by_cases hlt : k < (parseC xs).length
      · obtain ⟨⟨kd, fr, u, a, t, s, o, ky, vl⟩, hcc⟩ : ∃ c, (parseC xs)[k]? = some c := ⟨_, List.getElem?_eq_getElem hlt⟩
        have hcn : (parseC xs ++ (parseC ys).map (·.shift xs.length))[k]? = some ⟨kd, fr, u, a, t, s, o, ky, vl⟩ := by rw [List.getElem?_append_left hlt]; exact hcc
        obtain ⟨g5, off5, rfl, hcm5⟩ := HS5d.out (fun e => by rw [e] at hlt; simp at hlt)
        obtain ⟨g9, off9, rfl, hcm9⟩ := HS9.out (fun e => by rw [e] at hcn; simp at hcn)
        obtain ⟨a0, a1, a2, a3, a4, a5, a6, a7, a8⟩ := hcm5.below (w' := wr) HR.out k _ hcc
        obtain ⟨b0, b1, b2, b3, b4, b5, b6, b7, b8⟩ := hcm9.below (w' := wr) HR.out k _ hcn
        dsimp only at a0 a1 a2 a3 a4 a5 a6 a7 a8 b0 b1 b2 b3 b4 b5 b6 b7 b8
        have hnq := neq34_self kd fr u a t s o ky vl
        have hlt1 : (k : Int) < (((parseC xs).length : Nat) : Int) := by omega
        have hlt2 : (k : Int) < ((parseC xs).length : Int) + ((parseC ys).length : Int) := by omega
        have hge : (0 : Int) ≤ (k : Int) := by omega
        clear hcc hcn hcm5 hcm9
        go_wp2_with fail
        go_quiet (fail)
        go_wp2_with fail
        go_roundw
        case rel => exact ⟨k + 1, by omega, by go_num, below_drewN' HR.out _⟩
        case measure => simp [intOf]; omega
      · by_cases hlt2 : k < (parseC xs).length + (parseC ys).length
        · obtain ⟨j, rfl⟩ : ∃ j, k = (parseC xs).length + j := ⟨k - (parseC xs).length, by omega⟩
          have hj : j < (parseC ys).length := by omega
          obtain ⟨⟨kd, fr, u, a, t, s, o, ky, vl⟩, hcc⟩ : ∃ c, (parseC ys)[j]? = some c := ⟨_, List.getElem?_eq_getElem hj⟩
          obtain ⟨p, d, hca⟩ := cover_of hcc
          have hcn : (parseC xs ++ (parseC ys).map (·.shift xs.length))[(parseC xs).length + j]? = some ((⟨kd, fr, u, a, t, s, o, ky, vl⟩ : Cm).shift xs.length) := by
            rw [List.getElem?_append_right (by omega), Nat.add_sub_cancel_left, List.getElem?_map, hcc]
            rfl
          obtain ⟨g6, off6, rfl, hcm6⟩ := HS6d.out (fun e => by rw [e] at hj; simp at hj)
          obtain ⟨g9, off9, rfl, hcm9⟩ := HS9.out (fun e => by rw [e] at hcn; simp at hcn)
          obtain ⟨a0, a1, a2, a3, a4, a5, a6, a7, a8⟩ := hcm6.below (w' := wr) HR.out j _ hcc
          have hfr := hca.fr
          have hu := hca.to
          have hle := hca.le
          have hplt := hca.lt
          rw [take_most ys (by omega)] at hle hplt
          dsimp only at a0 a1 a2 a3 a4 a5 a6 a7 a8 hfr hu
          subst hfr
          have hu0 : 0 ≤ u := by omega
          have hu2 : u ≤ 65536 := by omega
          have hp0 : (0 : Int) ≤ (p : Int) := by omega
          have hp2 : (p : Int) ≤ 65536 := by omega
          have hnq := neq34_self kd (p + xs.length) (u + xs.length) a t s o ky vl
          have HCN := Lib.hid hcn
          have HCM9 := Lib.hid hcm9
          clear hcc hcn hcm6 hcm9 hca hu hle hplt
          have hnlt : ¬ ((parseC xs).length : Int) + (j : Int) < ((parseC xs).length : Int) := by omega
          have hlt3 : ((parseC xs).length : Int) + (j : Int) < ((parseC xs).length : Int) + ((parseC ys).length : Int) := by omega
          have hge : (0 : Int) ≤ ((parseC xs).length : Int) + (j : Int) := by omega
          have hsub : ((parseC xs).length : Int) + (j : Int) - ((parseC xs).length : Int) = (j : Int) := by omega
          have htn : (((parseC xs).length : Int) + (j : Int)).toNat = (parseC xs).length + j := by omega
          have hj' : (j : Int) < ((parseC ys).length : Int) := by omega
          have hj0 : (0 : Int) ≤ (j : Int) := by omega
          go_wp2_with fail
          have hb6 : Below wr.heap.size wr (wr.alloc (.cells #[.int .u8 kd, .int .i64 (p + xs.length), .int .i64 (u + xs.length), .int .i64 a, .int .i64 t, .int .u8 s, .int .u8 o, .int .u64 ky, .int .u64 vl] 34)) := (Below.refl _ _).alloc (Nat.le_refl _) _
          have bx := Box9.new wr 34 (.int .u8 kd) (.int .i64 (p + xs.length)) (.int .i64 (u + xs.length)) (.int .i64 a) (.int .i64 t) (.int .u8 s) (.int .u8 o) (.int .u64 ky) (.int .u64 vl)
          obtain ⟨b0, b1, b2, b3, b4, b5, b6, b7, b8⟩ := HCM9.out.below (HR.out.trans (hb6.mono HR.out.size)) _ _ HCN.out
          dsimp only [Cm.shift] at b0 b1 b2 b3 b4 b5 b6 b7 b8
          obtain ⟨d0, d1, d2, d3, d4, d5, d6, d7, d8, _⟩ := bx.cells
          have HB6 := Lib.hid hb6
          clear hb6 bx a0 a1 a2 a3 a4 a5 a6 a7 a8
          revert HB6 b0 b1 b2 b3 b4 b5 b6 b7 b8 d0 d1 d2 d3 d4 d5 d6 d7 d8
          generalize wr.alloc (.cells #[.int .u8 kd, .int .i64 (p + xs.length), .int .i64 (u + xs.length), .int .i64 a, .int .i64 t, .int .u8 s, .int .u8 o, .int .u64 ky, .int .u64 vl] 34) = w7
          intro b0 b1 b2 b3 b4 b5 b6 b7 b8 d0 d1 d2 d3 d4 d5 d6 d7 d8 HB6
          go_quiet (fail)
          go_wp2_with fail
          go_roundw
          case rel => exact ⟨(parseC xs).length + j + 1, by omega, by go_num, below_drewN' (HR.out.trans (HB6.out.mono HR.out.size)) _⟩
          case measure => simp [intOf]; omega
        · have hkl : k = (parseC xs).length + (parseC ys).length := by omega
          have HLE := Lib.hid (HBW.out.trans (HR.out.mono HBW.out.size))
          subst hkl
          go_wp2_with (go_at_call 8; refine (lives_any _ (HLAY.out.below (HLE.out.mono (Nat.le_refl _)))).mono ?_; rintro e w4 ⟨rfl, hb4⟩; have HL4 := Lib.hid (HLE.out.trans (hb4.mono HLE.out.size)); clear hb4)
          go_ret
          exact ⟨rfl, HL4.out⟩
set_option maxHeartbeats 1000000 in
theorem lawJoin_long (A1 A2 : Option Addr) (n1 n2 cap1 cap2 : Nat) (w : World) (hlay : Lay w) (hn : 1500 < n1 ∨ (n1 ≤ 1500 ∧ 1500 < n2)) :
    Calls Tryd.prog 7 #[.slice A1 n1 cap1, .slice A2 n2 cap2] w fun e w' => e = .returned (.bool true) ∧ Below w.heap.size w w' := by
  have HLAY := Lib.hid hlay
  clear hlay
  rcases hn with hn | ⟨hm, hn⟩
  all_goals
    go_enter Tryd.func7, Tryd.ntmps7
    go_wp2_with (go_at_call 8; refine (lives_any _ HLAY.out).mono ?_; rintro e w4 ⟨rfl, hb4⟩; have HL4 := Lib.hid hb4; clear hb4)
    go_ret
    exact ⟨rfl, HL4.out⟩
end Go.Proofs.YtlgfdemggkiojaaDoor
