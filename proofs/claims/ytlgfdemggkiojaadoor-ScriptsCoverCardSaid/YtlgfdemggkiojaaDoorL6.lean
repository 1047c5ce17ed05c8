/-
  The law ScriptsCover walked: it answers true, and changes nothing that was there; conditions: the table of sizes reads as the program lays it; the bytes lie as it says.
-/
import Derived.Test.YtlgfdemggkiojaaDoorC1
import Derived.StillTailTactics
namespace Go.Proofs.YtlgfdemggkiojaaDoor
open Go.RowKit

theorem made_zeros (n : Nat) : (madeCells (Value.int .u8 0).cells (n * 1)).toList = (List.replicate n (0 : UInt8)).map bC := by
  rw [Nat.mul_one, show (Value.int .u8 0).cells = #[Value.int .u8 0] from rfl, toList_madeCells_one, List.map_replicate]
  rfl
theorem take_drop_most {l : List UInt8} {p d : Nat} (h : p + d ≤ (l.take most).length) : ((l.take most).drop p).take d = (l.drop p).take d := by
  rw [List.length_take] at h
  rw [List.drop_take, List.take_take, Nat.min_eq_left (by omega)]
/-- Facts of one round. -/
structure CAt (w3 : World) (all : List UInt8) (k p : Nat) (w : World) : Prop where
  le : p ≤ (all.take most).length
  eq : parseFrom p ((all.take most).drop p) = (parseC all).drop k
  low : Below w3.heap.size w3 w
set_option maxRecDepth 100000 in
set_option maxHeartbeats 8000000 in
theorem lawCover (A : Option Addr) (cap : Nat) (b : List UInt8) (z : Int) (w : World) (hlay : Lay w) (hs : Sl w A b) (hcap : A = none → cap = 0) (hz0 : 0 ≤ z) (hz1 : z ≤ 255) (hl : b.length ≤ 3000) :
    Calls Tryd.prog 5 #[.slice A b.length cap, .int .u8 z] w fun e w' => e = .returned (.bool true) ∧ Below w.heap.size w w' := by
  obtain ⟨N, hN, hN1⟩ : ∃ N : Nat, 1000 * (z % 70) = (N : Int) ∧ N ≤ 69000 := ⟨(1000 * (z % 70)).toNat, by omega, by omega⟩
  obtain ⟨i0, hi, hi0, hi1, hi2⟩ := info_parts Tryd_info5
  have hmod : z.tmod 70 = z % 70 := Int.tmod_eq_emod_of_nonneg hz0
  have HLAY := Lib.hid hlay
  have HS := Lib.hid hs
  have HCAP := Lib.hid hcap
  clear hlay hs hcap
  go_enter Tryd.func5, Tryd.ntmps5
  go_wp2_with (first
    | (at_make; refine wpList_make_full _ rfl _ _ 22 rfl w.heap.size 5 i0 _ 1 Tryd.underlying22 hi hi0 hi1 .i64 .i64 _ _ N rfl rfl (by first | omega | (simp only [hmod]; omega)) (by first | omega | (simp only [hmod]; omega)) (by rw [hi2]; omega) (by unfold maxLen; omega) (Nat.le_refl _) ?_; intro w1 ho1 hg1; rw [made_zeros] at ho1; have HO1 := Lib.hid (show w1.ownsRow w.heap.size 5 1 (.slice (some ⟨w.heap.size, 0, none⟩) N N) (List.replicate N (0 : UInt8)).length ((List.replicate N (0 : UInt8)).map bC) by (rw [List.length_replicate]; exact ho1)); have HB1 := Lib.hid ((Below.refl w.heap.size w).grown hg1 (Nat.le_refl _) (fun k hk => by cases hk)); clear ho1 hg1)
    | (at_builtin; refine append_byts rfl (.tmp 20) (.tmp 21) rfl w.heap.size _ (List.replicate N 0) rfl HO1.out A cap b rfl (HS.out.below (HB1.out.mono (Nat.le_refl _))) HCAP.out (by rw [List.length_replicate]; omega) HB1.out.size ?_; intro v2 w2 ho2 hb2; obtain ⟨A2, c2, rfl, q1, q2, _⟩ := own_slice ho2; have HO2 := Lib.hid ho2; have HB2 := Lib.hid (HB1.out.trans hb2); clear ho2 hb2))
  obtain ⟨all, hall⟩ : ∃ all, List.replicate N 0 ++ b = all := ⟨_, rfl⟩
  have hal : all.length ≤ 72000 := by
    rw [← hall, List.length_append, List.length_replicate]
    omega
  have hnb : N + b.length = all.length := by rw [← hall, List.length_append, List.length_replicate]
  rw [hall] at HO2 q1
  rw [hnb]
  clear hall HB1 HO1
  refine (parse_s A2 c2 all w2 (HLAY.out.below (HB2.out.mono (Nat.le_refl _))) (sl_of_own HO2.out) q1 q2).mono ?_
  rintro e w3 ⟨A3, rfl, hs3, hb3⟩
  have HB3 := Lib.hid (HB2.out.trans (hb3.mono HB2.out.size))
  have HO3 := Lib.hid (own_low HO2.out hb3)
  have HS3 := Lib.hid hs3
  have hpl := parseC_length all
  have hml : (all.take most).length ≤ 65536 ∧ (all.take most).length ≤ all.length := by
    have hm := most_eq
    rw [List.length_take]
    omega
  clear hs3 hb3 HO2 HB2
  go_wp2_with fail
  go_loopw [7, 8] (fun at_ i wr => ∃ k p : Nat, k ≤ (parseC all).length ∧ at_ = .int .i64 (p : Int) ∧ i = .int .i64 (k : Int) ∧ CAt w3 all k p wr) (fun _ i _ => (parseC all).length - (intOf i).toNat)
  case atStart => exact ⟨0, 0, Nat.zero_le _, rfl, rfl, ⟨Nat.zero_le _, rfl, Below.refl _ _⟩⟩
  case round =>
    obtain ⟨k, p, hk, rfl, rfl, hr⟩ := hrel
    have HR := Lib.hid hr
    clear hr
    by_cases hlt : k < (parseC all).length
    · obtain ⟨⟨kd, fr, u, a, t, s, o, ky, vl⟩, hcc⟩ : ∃ c, (parseC all)[k]? = some c := ⟨_, List.getElem?_eq_getElem hlt⟩
      obtain ⟨d, hca, hnx⟩ := cover_step hcc HR.out.le HR.out.eq
      obtain ⟨g3, off3, rfl, hcm⟩ := HS3.out (fun e => by rw [e] at hlt; simp at hlt)
      obtain ⟨a0, a1, a2, a3, a4, a5, a6, a7, a8⟩ := hcm.below (w' := wr) HR.out.low k _ hcc
      obtain ⟨g2, rfl, _, _⟩ := own_form HO3.out (show 0 < all.length by have := hca.lt; omega)
      have hbys := (bys_of_own HO3.out).below (w' := wr) HR.out.low
      have hfr := hca.fr
      have hu := hca.to
      have hk9 := hca.k9
      have hk0 := hca.fit.k0
      have hd1 := hca.d1
      have hd5 := hca.d5
      have hle := hca.le
      have hplt := hca.lt
      have hby := byt_most hplt
      dsimp only at a0 a1 a2 a3 a4 a5 a6 a7 a8 hfr hu hk9 hk0
      subst hfr
      have hu1 : (p : Int) < u := by omega
      have hu2 : u ≤ (p : Int) + 5 := by omega
      have hu3 : u ≤ (all.length : Int) := by omega
      have hp0 : (0 : Int) ≤ (p : Int) := by omega
      have hpa : (p : Int) < (all.length : Int) := by omega
      have hlt' : (k : Int) < ((parseC all).length : Int) := by omega
      have hge : (0 : Int) ≤ (k : Int) := by omega
      have HNX := Lib.hid (show CAt w3 all k p wr → ∀ W, Below wr.heap.size wr W → CAt w3 all (k + 1) (p + d) W from fun h W hb => ⟨hle, hnx, h.low.trans (hb.mono h.low.size)⟩)
      have HCA := Lib.hid hca
      have HBY := Lib.hid hbys
      have HU := Lib.hid hu
      clear hcc hnx hcm hbys hca hu
      by_cases hkd : kd = 0
      · obtain ⟨he, hb8⟩ := HCA.out.none hkd
        simp only [Cm.mk.injEq] at he
        obtain ⟨-, -, -, rfl, rfl, rfl, rfl, rfl, rfl⟩ := he
        subst hkd
        rw [hby] at hb8
        have hnq := neq34_self 0 0 0 0 0 0 0 0 0
        clear HCA hby
        go_wp2_with fail
        refine (bare_any 0 p u 0 0 0 0 0 0 _).mono ?_
        rintro e w4 ⟨rfl, hb4⟩
        have HB4 := Lib.hid (((Below.refl _ wr).alloc (Nat.le_refl _) _).trans (hb4.mono (by simp)))
        have y := HBY.out.below HB4.out p (by omega)
        rw [Nat.zero_add] at y
        have bx0 := Box9.new wr 34 (.int .u8 0) (.int .i64 p) (.int .i64 u) (.int .i64 0) (.int .i64 0) (.int .u8 0) (.int .u8 0) (.int .u64 0) (.int .u64 0)
        obtain ⟨_, y1, _⟩ := (bx0.below hb4 bx0.lt).cells
        clear hb4 bx0 a0 a1 a2 a3 a4 a5 a6 a7 a8
        go_wp2_with fail
        go_roundw
        case rel => exact ⟨k + 1, p + d, by omega, by rw [HU.out], by go_num, HNX.out HR.out _ HB4.out⟩
        case measure => simp [intOf]; omega
      · obtain ⟨hm, hcode⟩ := HCA.out.some hkd
        have hfit := HCA.out.fit
        rw [take_drop_most hle] at hcode
        have hXl : ((all.drop p).take d).length = d := by
          rw [List.length_take, List.length_drop]
          omega
        have HSX := Lib.hid (show ∀ W, Below wr.heap.size wr W → Sl W (some ⟨g2, p, none⟩) ((all.drop p).take d) from fun W hb => by
          have h := ((HBY.out.below hb).drop p).take d
          rw [Nat.zero_add] at h
          exact Sl.of h)
        generalize (all.drop p).take d = X at *
        clear HCA hby
        go_wp2_with fail
        have hb6 := below_two wr (.cells #[.int .u8 kd, .int .i64 p, .int .i64 u, .int .i64 a, .int .i64 t, .int .u8 s, .int .u8 o, .int .u64 ky, .int .u64 vl] 34) (.cells #[.int .u8 kd, .int .i64 p, .int .i64 u, .int .i64 a, .int .i64 t, .int .u8 s, .int .u8 o, .int .u64 ky, .int .u64 vl] 34)
        have bx0 := Box9.new wr 34 (.int .u8 kd) (.int .i64 p) (.int .i64 u) (.int .i64 a) (.int .i64 t) (.int .u8 s) (.int .u8 o) (.int .u64 ky) (.int .u64 vl)
        have bx6 := bx0.below ((Below.refl _ (wr.alloc (.cells #[.int .u8 kd, .int .i64 p, .int .i64 u, .int .i64 a, .int .i64 t, .int .u8 s, .int .u8 o, .int .u64 ky, .int .u64 vl] 34))).alloc (Nat.le_refl _) (.cells #[.int .u8 kd, .int .i64 p, .int .i64 u, .int .i64 a, .int .i64 t, .int .u8 s, .int .u8 o, .int .u64 ky, .int .u64 vl] 34)) bx0.lt
        have hr6 := heap_alloc_new (wr.alloc (.cells #[.int .u8 kd, .int .i64 p, .int .i64 u, .int .i64 a, .int .i64 t, .int .u8 s, .int .u8 o, .int .u64 ky, .int .u64 vl] 34)) (.cells #[.int .u8 kd, .int .i64 p, .int .i64 u, .int .i64 a, .int .i64 t, .int .u8 s, .int .u8 o, .int .u64 ky, .int .u64 vl] 34)
        rw [World.size_alloc] at hr6
        have HB6 := Lib.hid hb6
        have BX6 := Lib.hid bx6
        have HR6 := Lib.hid (cms_of_row (l := [⟨kd, p, u, a, t, s, o, ky, vl⟩]) hr6)
        clear hb6 bx0 bx6 hr6 a0 a1 a2 a3 a4 a5 a6 a7 a8
        revert HB6 BX6 HR6
        generalize (wr.alloc (.cells #[.int .u8 kd, .int .i64 p, .int .i64 u, .int .i64 a, .int .i64 t, .int .u8 s, .int .u8 o, .int .u64 ky, .int .u64 vl] 34)).alloc (.cells #[.int .u8 kd, .int .i64 p, .int .i64 u, .int .i64 a, .int .i64 t, .int .u8 s, .int .u8 o, .int .u64 ky, .int .u64 vl] 34) = w6
        intro HB6 BX6 HR6
        have HLAY6 := Lib.hid (HLAY.out.below (((HB3.out.trans (HR.out.low.mono HB3.out.size)).trans (HB6.out.mono (Nat.le_trans HB3.out.size HR.out.low.size))).mono (Nat.le_refl _)))
        refine (write_one (wr.heap.size + 1) ⟨kd, p, u, a, t, s, o, ky, vl⟩ w6 HLAY6.out HR6.out hfit hm).mono ?_
        rintro e w5 ⟨Aw, cc, rfl, hsw, hb5⟩
        rw [hcode] at hsw ⊢
        rw [hXl]
        have HB5 := Lib.hid (HB6.out.trans (hb5.mono HB6.out.size))
        have BX5 := Lib.hid (BX6.out.below hb5 BX6.out.lt)
        have HSW := Lib.hid hsw
        have HMAY := Lib.hid (fun W => may_any (⟨kd, p, u, a, t, s, o, ky, vl⟩ : Cm) W hfit)
        have HM := Lib.hid hm
        clear hsw hb5 hcode hm hfit HLAY6 BX6 HR6 HB6
        go_wp2_with fail
        have hcv1 := str_of w5.drew Aw cc X (HSW.out.below ((Below.refl _ _).drew))
        have hcv2 := str_of w5.drew (some ⟨g2, p, none⟩) (c2 - p) X (HSX.out _ HB5.out.drew)
        rw [hXl] at hcv1 hcv2
        have hsl := slice_byts g2 all.length c2 p d u HU.out hd1 (by omega) q1 w5.drew
        have BX7 := Lib.hid (show Box9 w5.drew wr.heap.size 34 (.int .u8 kd) (.int .i64 p) (.int .i64 u) (.int .i64 a) (.int .i64 t) (.int .u8 s) (.int .u8 o) (.int .u64 ky) (.int .u64 vl) from BX5.out)
        have HB7 := Lib.hid (HB5.out.drew)
        clear HSW HSX BX5 HB5
        refine wp_region_still_tail 16 (by kernel_rfl) (by kernel_rfl) ?_
        change wpStill _ _ w5.drew (fun a' => wpList _ _ _ _ a' w5.drew) _ _
        generalize w5.drew = wd at HB7 BX7 hcv1 hcv2 hsl ⊢
        obtain ⟨y0, y1, y2, y3, y4, y5, y6, y7, y8, _⟩ := BX7.out.cells
        simp only [List.take_succ_cons, List.take_zero, List.drop_succ_cons, List.drop_zero]
        iterate 16 still_step
        refine wpStill_nil ?_
        go_wp2_with fail
        refine (HMAY.out wd).mono ?_
        rintro e w8 ⟨rfl, hb8⟩
        rw [HM.out]
        have HB8 := Lib.hid (HB7.out.trans (hb8.mono HB7.out.size))
        clear hb8 y0 y1 y2 y3 y4 y5 y6 y7 y8
        go_wp2_with fail
        go_roundw
        case rel => exact ⟨k + 1, p + d, by omega, by rw [HU.out], by go_num, HNX.out HR.out _ HB8.out⟩
        case measure => simp [intOf]; omega
    · have hkl : k = (parseC all).length := by omega
      subst hkl
      have hpe := cover_end HR.out.le HR.out.eq
      have hpx : (all.length ≤ 65536 → p = all.length) ∧ (65536 < all.length → p = 65536) := by omega
      clear hpe
      have HLE := Lib.hid (HB3.out.trans (HR.out.low.mono HB3.out.size))
      have hge : ((parseC all).length : Int) ≤ ((parseC all).length : Int) := by omega
      by_cases hbig : all.length ≤ 65536
      · obtain rfl : p = all.length := hpx.1 hbig
        clear hpx
        have hbig' : (all.length : Int) ≤ 65536 := by omega
        go_wp2_with (go_at_call 8; refine (lives_any _ (HLAY.out.below (HLE.out.mono (Nat.le_refl _)))).mono ?_; rintro e w4 ⟨rfl, hb4⟩; have HL4 := Lib.hid (HLE.out.trans (hb4.mono HLE.out.size)); clear hb4)
        go_ret
        exact ⟨rfl, HL4.out⟩
      · obtain rfl : p = 65536 := hpx.2 (by omega)
        clear hpx
        have hbig' : (65536 : Int) < (all.length : Int) := by omega
        go_wp2_with (go_at_call 8; refine (lives_any _ (HLAY.out.below (HLE.out.mono (Nat.le_refl _)))).mono ?_; rintro e w4 ⟨rfl, hb4⟩; have HL4 := Lib.hid (HLE.out.trans (hb4.mono HLE.out.size)); clear hb4)
        go_ret
        exact ⟨rfl, HL4.out⟩
set_option maxHeartbeats 1000000 in
theorem lawCover_long (A : Option Addr) (n cap : Nat) (z : Int) (w : World) (hlay : Lay w) (hn : 3000 < n) :
    Calls Tryd.prog 5 #[.slice A n cap, .int .u8 z] w fun e w' => e = .returned (.bool true) ∧ Below w.heap.size w w' := by
  have HLAY := Lib.hid hlay
  clear hlay
  go_enter Tryd.func5, Tryd.ntmps5
  go_wp2_with (go_at_call 8; refine (lives_any _ HLAY.out).mono ?_; rintro e w4 ⟨rfl, hb4⟩; have HL4 := Lib.hid hb4; clear hb4)
  go_ret
  exact ⟨rfl, HL4.out⟩
end Go.Proofs.YtlgfdemggkiojaaDoor
