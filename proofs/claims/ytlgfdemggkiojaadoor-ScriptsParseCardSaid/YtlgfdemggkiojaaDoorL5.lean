/-
  The law ScriptsParse walked: it answers true, and changes nothing that was there; conditions: the table of sizes reads as the program lays it; the bytes lie as it says.
-/
import Derived.Test.YtlgfdemggkiojaaDoorL4b
namespace Go.Proofs.YtlgfdemggkiojaaDoor
open Go.RowKit

set_option maxRecDepth 100000 in
set_option maxHeartbeats 8000000 in
theorem lawParse (A : Option Addr) (cap : Nat) (l : List UInt8) (at_ : Int) (w : World) (hlay : Lay w) (hs : Sl w A l) (hn : l.length ≤ cap) (hc : cap ≤ 9223372036854775807) (hcap : A = none → cap = 0) (hl : l.length ≤ 3000) :
    Calls Tryd.prog 3 #[.slice A l.length cap, .int .i64 at_] w fun e w' => e = .returned (.bool true) ∧ Below w.heap.size w w' := by
  obtain ⟨c, ok, hfit, hnx, hrx⟩ := next_both l at_
  have HLAY := Lib.hid hlay
  have HS := Lib.hid hs
  have HCAP := Lib.hid hcap
  have HFIT := Lib.hid hfit
  have HNX := Lib.hid hnx
  have HRX := Lib.hid hrx
  have HPF := Lib.hid (parseC_fit l)
  have hplen := parseC_length l
  have H0 := Lib.hid (Below.refl w.heap.size w)
  clear hlay hs hcap hfit hnx hrx
  go_enter Tryd.func3, Tryd.ntmps3
  go_wp2_with fail
  refine (twin_any A cap l w HS.out (by omega) HCAP.out).mono ?_
  rintro e w1 ⟨g1, rfl, ho1, hb1⟩
  have hg1 := Lib.hid (ho1.lt g1 rfl)
  have HB1 := Lib.hid hb1
  have HO1 := Lib.hid ho1
  clear ho1 hb1
  go_wp2_with fail
  refine (parse_o (some ⟨g1, 0, none⟩) (l.length + 1) l w1 (HLAY.out.below (HB1.out.mono (Nat.le_refl _))) (Sl.of (twin_bys HO1.out).1) (by omega) (by omega)).mono ?_
  rintro e w2 ⟨A2, c2, rfl, ho2, hb2⟩
  have HNE1 := Lib.hid (fun (a b : Addr) (h : A2 = some a) (h' : some (⟨g1, 0, none⟩ : Addr) = some b) => show a.block ≠ b.block by
    subst h
    cases h'
    have h1 := (ho2.lt a.block rfl).1
    have h2 := hg1.out.2
    show a.block ≠ g1
    omega)
  have HLT2 := Lib.hid (fun (a : Addr) (h : A2 = some a) => show w1.heap.size ≤ a.block ∧ a.block < w2.heap.size by
    subst h
    exact ho2.lt a.block rfl)
  have HB2 := Lib.hid (HB1.out.trans (hb2.mono HB1.out.size))
  have HO1' := Lib.hid (own_low HO1.out hb2)
  have HO2 := Lib.hid ho2
  clear ho2 hb2 HO1
  go_wp2_with fail
  refine (rparse_any A cap l w2 (HS.out.below (HB2.out.mono (Nat.le_refl _))) hn hc).mono ?_
  rintro e w3 ⟨v3, rfl, ho3, hb3⟩
  obtain ⟨A3, c3, rfl, _, _, _⟩ := own_slice ho3
  have HNE3 := Lib.hid (fun (a b : Addr) (h : A2 = some a) (h' : A3 = some b) => show a.block ≠ b.block by
    have h1 := (HLT2.out a h).2
    subst h'
    have h2 := (ho3.lt b.block rfl).1
    omega)
  have HB3 := Lib.hid (HB2.out.trans (hb3.mono HB2.out.size))
  have HO1a := Lib.hid (own_low HO1'.out hb3)
  have HO2a := Lib.hid (own_low HO2.out hb3)
  have HO3 := Lib.hid ho3
  clear ho3 hb3 HO1' HO2
  go_wp2_with fail
  refine (HNX.out (some ⟨g1, 0, none⟩) (l.length + 1) w3 (HLAY.out.below (HB3.out.mono (Nat.le_refl _))) (Sl.of (twin_bys HO1a.out).1) (by omega) (by omega)).mono ?_
  rintro e w4 ⟨rfl, hb4⟩
  have HB4 := Lib.hid (HB3.out.trans (hb4.mono HB3.out.size))
  have HO1b := Lib.hid (own_low HO1a.out hb4)
  have HO2b := Lib.hid (own_low HO2a.out hb4)
  have HO3b := Lib.hid (own_low HO3.out hb4)
  simp only [Cm.v]
  clear hb4 HO1a HO2a HO3
  go_wp2_with fail
  have HB4' := Lib.hid (HB4.out.alloc HB4.out.size (.cells #[.int .u8 c.kind, .int .i64 c.fr, .int .i64 c.to, .int .i64 c.at_, .int .i64 c.thr, .int .u8 c.sch, .int .u8 c.op, .int .u64 c.key, .int .u64 c.val] 34))
  refine (HRX.out A cap (w4.alloc (.cells #[.int .u8 c.kind, .int .i64 c.fr, .int .i64 c.to, .int .i64 c.at_, .int .i64 c.thr, .int .u8 c.sch, .int .u8 c.op, .int .u64 c.key, .int .u64 c.val] 34)) (HS.out.below (HB4'.out.mono (Nat.le_refl _))) hn hc).mono ?_
  rintro e w5 ⟨rfl, hb5⟩
  have HB5 := Lib.hid (HB4'.out.trans (hb5.mono HB4'.out.size))
  have HO1c := Lib.hid (own_low (HO1b.out.alloc (.cells #[.int .u8 c.kind, .int .i64 c.fr, .int .i64 c.to, .int .i64 c.at_, .int .i64 c.thr, .int .u8 c.sch, .int .u8 c.op, .int .u64 c.key, .int .u64 c.val] 34)) hb5)
  have HO2c := Lib.hid (own_low (HO2b.out.alloc (.cells #[.int .u8 c.kind, .int .i64 c.fr, .int .i64 c.to, .int .i64 c.at_, .int .i64 c.thr, .int .u8 c.sch, .int .u8 c.op, .int .u64 c.key, .int .u64 c.val] 34)) hb5)
  have HO3c := Lib.hid (own_low (HO3b.out.alloc (.cells #[.int .u8 c.kind, .int .i64 c.fr, .int .i64 c.to, .int .i64 c.at_, .int .i64 c.thr, .int .u8 c.sch, .int .u8 c.op, .int .u64 c.key, .int .u64 c.val] 34)) hb5)
  have HP5 := Lib.hid ((Box9.new w4 34 (.int .u8 c.kind) (.int .i64 c.fr) (.int .i64 c.to) (.int .i64 c.at_) (.int .i64 c.thr) (.int .u8 c.sch) (.int .u8 c.op) (.int .u64 c.key) (.int .u64 c.val)).below hb5 (by simp))
  simp only [Cm.r]
  clear hb5 HO1b HO2b HO3b HB4'
  go_wp2_with fail
  have HB6 := Lib.hid (HB5.out.alloc HB5.out.size (.cells #[.int .i64 c.kind, .int .i64 c.fr, .int .i64 c.to, .int .i64 c.at_, .int .i64 c.thr, .int .u8 c.sch, .int .i64 c.op, .int .u64 c.key, .int .u64 c.val] 38))
  have HO1 := Lib.hid (HO1c.out.alloc (.cells #[.int .i64 c.kind, .int .i64 c.fr, .int .i64 c.to, .int .i64 c.at_, .int .i64 c.thr, .int .u8 c.sch, .int .i64 c.op, .int .u64 c.key, .int .u64 c.val] 38))
  have HO2 := Lib.hid (HO2c.out.alloc (.cells #[.int .i64 c.kind, .int .i64 c.fr, .int .i64 c.to, .int .i64 c.at_, .int .i64 c.thr, .int .u8 c.sch, .int .i64 c.op, .int .u64 c.key, .int .u64 c.val] 38))
  have HO3 := Lib.hid (HO3c.out.alloc (.cells #[.int .i64 c.kind, .int .i64 c.fr, .int .i64 c.to, .int .i64 c.at_, .int .i64 c.thr, .int .u8 c.sch, .int .i64 c.op, .int .u64 c.key, .int .u64 c.val] 38))
  have HP6 := Lib.hid (HP5.out.below ((Below.refl w5.heap.size w5).alloc (Nat.le_refl _) (.cells #[.int .i64 c.kind, .int .i64 c.fr, .int .i64 c.to, .int .i64 c.at_, .int .i64 c.thr, .int .u8 c.sch, .int .i64 c.op, .int .u64 c.key, .int .u64 c.val] 38)) HP5.out.lt)
  have HQ6 := Lib.hid (Box9.new w5 38 (.int .i64 c.kind) (.int .i64 c.fr) (.int .i64 c.to) (.int .i64 c.at_) (.int .i64 c.thr) (.int .u8 c.sch) (.int .i64 c.op) (.int .u64 c.key) (.int .u64 c.val))
  clear HB4 HB5 HO1c HO2c HO3c HP5
  revert HB6 HO1 HO2 HO3 HP6 HQ6
  generalize w5.alloc (.cells #[.int .i64 c.kind, .int .i64 c.fr, .int .i64 c.to, .int .i64 c.at_, .int .i64 c.thr, .int .u8 c.sch, .int .i64 c.op, .int .u64 c.key, .int .u64 c.val] 38) = w6
  intro HB6 HO1 HO2 HO3 HP6 HQ6
  have HSAME := Lib.hid (fun (W : World) (h : Below w6.heap.size w6 W) => same_any A2 A3 (parseC l).length c3 (parseC l) W (slc_of_own (own_low HO2.out h)) (rslc_of_own (own_low HO3.out h)) HPF.out (by omega))
  have HLEFT : Hid (∀ (W : World) (h : Below w6.heap.size w6 W), Calls Tryd.prog 16 #[.slice (some ⟨g1, 0, none⟩) l.length (l.length + 1), .slice A l.length cap] W fun e w' => e = .returned (.bool true) ∧ Below W.heap.size W w') :=
    Lib.hid (fun W h => (left_any g1 cap A l W (twin_bys (own_low HO1.out h)).1 (twin_bys (own_low HO1.out h)).2 (HS.out.below ((HB6.out.trans (h.mono HB6.out.size)).mono (Nat.le_refl _))) (by omega)).mono fun e w' h' => ⟨h'.1, by rw [← h'.2]; exact Below.refl _ _⟩)
  obtain ⟨a0, a1, a2, a3, a4, a5, a6, a7, a8, _⟩ := HP6.out.cells
  obtain ⟨b0, b1, b2, b3, b4, b5, b6, b7, b8, _⟩ := HQ6.out.cells
  have hgl := HP6.out.lt
  have hgl2 := HQ6.out.lt
  have hbox : SameBox w6 w4.heap.size 0 w5.heap.size 0 c w6 := ⟨⟨a0, a1, a2, a3, a4, a5, a6, a7, a8, b0, b1, b2, b3, b4, b5, b6, b7, b8⟩, Lib.hid (Below.refl _ _)⟩
  have hnq := neq38_self c.kind c.fr c.to c.at_ c.thr c.sch c.op c.key c.val
  clear a0 a1 a2 a3 a4 a5 a6 a7 a8 b0 b1 b2 b3 b4 b5 b6 b7 b8
  go_region_held3 (fun w1 => (w1.cell? ⟨w4.heap.size, 0, none⟩ = some (.int .u8 c.kind) ∧ w1.cell? ⟨w4.heap.size, 1, none⟩ = some (.int .i64 c.fr) ∧ w1.cell? ⟨w4.heap.size, 2, none⟩ = some (.int .i64 c.to) ∧ w1.cell? ⟨w4.heap.size, 3, none⟩ = some (.int .i64 c.at_) ∧ w1.cell? ⟨w4.heap.size, 4, none⟩ = some (.int .i64 c.thr) ∧ w1.cell? ⟨w4.heap.size, 5, none⟩ = some (.int .u8 c.sch) ∧ w1.cell? ⟨w4.heap.size, 6, none⟩ = some (.int .u8 c.op) ∧ w1.cell? ⟨w4.heap.size, 7, none⟩ = some (.int .u64 c.key) ∧ w1.cell? ⟨w4.heap.size, 8, none⟩ = some (.int .u64 c.val) ∧ w1.cell? ⟨w5.heap.size, 0, none⟩ = some (.int .i64 c.kind) ∧ w1.cell? ⟨w5.heap.size, 1, none⟩ = some (.int .i64 c.fr) ∧ w1.cell? ⟨w5.heap.size, 2, none⟩ = some (.int .i64 c.to) ∧ w1.cell? ⟨w5.heap.size, 3, none⟩ = some (.int .i64 c.at_) ∧ w1.cell? ⟨w5.heap.size, 4, none⟩ = some (.int .i64 c.thr) ∧ w1.cell? ⟨w5.heap.size, 5, none⟩ = some (.int .u8 c.sch) ∧ w1.cell? ⟨w5.heap.size, 6, none⟩ = some (.int .i64 c.op) ∧ w1.cell? ⟨w5.heap.size, 7, none⟩ = some (.int .u64 c.key) ∧ w1.cell? ⟨w5.heap.size, 8, none⟩ = some (.int .u64 c.val)) ∧ Hid (Below w6.heap.size w6 w1))
    (first | exact SameBox.drew hbox | (refine SameBox.step hgl hgl2 ?_ hb; assumption))
    (first
      | (go_at_call 14; refine (HSAME.out _ (SameBox.low (w0 := w6) (g := w4.heap.size) (o := 0) (g2 := w5.heap.size) (o2 := 0) (c := c) (by assumption))).mono ?_; rintro e w' ⟨rfl, hb⟩)
      | (go_at_call 15; refine (other_v c _ HFIT.out).mono ?_; rintro e w' ⟨rfl, hb⟩; simp only [Cm.r])
      | (go_at_call 16; refine (HLEFT.out _ (SameBox.low (w0 := w6) (g := w4.heap.size) (o := 0) (g2 := w5.heap.size) (o2 := 0) (c := c) (by assumption))).mono ?_; rintro e w' ⟨rfl, hb⟩))
  have hlow := Lib.hid (SameBox.low (w0 := w6) (g := w4.heap.size) (o := 0) (g2 := w5.heap.size) (o2 := 0) (c := c) (by assumption))
  have HOV0 := Lib.hid ((Over.start HO2.out).next hlow.out)
  clear hlow HSAME HLEFT hbox hnq
  go_wp2_with fail
  go_loopw [12] (fun i wr => ∃ k : Nat, k ≤ (parseC l).length ∧ i = .int .i64 (k : Int) ∧ Over w6 wr A2 (parseC l).length) (fun i _ => (parseC l).length - (intOf i).toNat)
  case atStart => exact ⟨0, Nat.zero_le _, rfl, HOV0.out⟩
  case round =>
    obtain ⟨k, hk, rfl, hr⟩ := hrel
    have HR := Lib.hid hr
    clear hr
    by_cases hlt : k < (parseC l).length
    · obtain ⟨g2, hg2⟩ : ∃ g2, A2 = some ⟨g2, 0, none⟩ := by
        rcases own_cases HO2.out with ⟨_, h0⟩ | ⟨g, h, _⟩
        · omega
        · exact ⟨g, h⟩
      subst hg2
      have hthere := HR.out.at_ hlt
      rw [Nat.zero_add] at hthere
      have hlt' : (k : Int) < ((parseC l).length : Int) := by omega
      have hge : (0 : Int) ≤ (k : Int) := by omega
      go_wp2_with (refine store_nine rfl 34 (.tmp 69) (.tmp 68) rfl g2 (k * 9) [.int .u8 0, .int .i64 (-7), .int .i64 0, .int .i64 0, .int .i64 0, .int .u8 0, .int .u8 0, .int .u64 0, .int .u64 0] ?_ ?_ ?_ ?_ ?_ ?_ ?_; (rfl); (rfl); (rfl); (exact hthere); (exact isz34); (exact (vC_one ⟨0, -7, 0, 0, 0, 0, 0, 0, 0⟩)); (intro wx hwx; have HWX := Lib.hid hwx; clear hwx))
      go_roundw
      case rel => exact ⟨k + 1, by omega, by go_num, by rw [HWX.out]; exact HR.out.step _ _⟩
      case measure => simp [intOf]; omega
    · have hge : ((parseC l).length : Int) ≤ (k : Int) := by omega
      have HBR := Lib.hid (HR.out.low HB6.out HB6.out.size (fun a h => Nat.le_trans HB1.out.size (HLT2.out a h).1))
      have HO1r := Lib.hid (own_over HO1.out HR.out HNE1.out)
      have HO3r := Lib.hid (own_over HO3.out HR.out HNE3.out)
      go_wp2_with fail
      refine (parse_s (some ⟨g1, 0, none⟩) (l.length + 1) l wr (HLAY.out.below (HBR.out.mono (Nat.le_refl _))) (Sl.of (twin_bys HO1r.out).1) (by omega) (by omega)).mono ?_
      rintro e w8 ⟨A8, rfl, hs8, hb8⟩
      have HB8 := Lib.hid (HBR.out.trans (hb8.mono HBR.out.size))
      have hsame := Lib.hid (same_any A8 A3 (parseC l).length c3 (parseC l) w8 hs8 (rslc_of_own (own_low HO3r.out hb8)) HPF.out (by omega))
      clear hb8 hs8
      go_wp2_with (first
        | (go_at_call 14; refine (hsame.out).mono ?_; rintro e w9 ⟨rfl, hb9⟩; have HB9 := Lib.hid (HB8.out.trans (hb9.mono HB8.out.size)); clear hb9)
        | (go_at_call 8; refine (lives_any _ (HLAY.out.below (HB9.out.mono (Nat.le_refl _)))).mono ?_; rintro e w10 ⟨rfl, hb10⟩; have HB10 := Lib.hid (HB9.out.trans (hb10.mono HB9.out.size)); clear hb10))
      go_ret
      exact ⟨rfl, HB10.out⟩
set_option maxHeartbeats 1000000 in
theorem lawParse_long (A : Option Addr) (n cap : Nat) (at_ : Int) (w : World) (hlay : Lay w) (hn : 3000 < n) :
    Calls Tryd.prog 3 #[.slice A n cap, .int .i64 at_] w fun e w' => e = .returned (.bool true) ∧ Below w.heap.size w w' := by
  have HLAY := Lib.hid hlay
  clear hlay
  go_enter Tryd.func3, Tryd.ntmps3
  go_wp2_with (go_at_call 8; refine (lives_any _ HLAY.out).mono ?_; rintro e w4 ⟨rfl, hb4⟩; have HL4 := Lib.hid hb4; clear hb4)
  go_ret
  exact ⟨rfl, HL4.out⟩
end Go.Proofs.YtlgfdemggkiojaaDoor
