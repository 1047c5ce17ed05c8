/-
  The law SnapsAny, walked: it returns true and only makes memory of its own; condition: the table as laid, the threads lie as they say.
-/
import Derived.Test.YtapcgikamldchaaDoorSJ2
import Derived.Deep.DeepCutAuto
import Derived.Deep.RegionHeld3
namespace Go.Proofs.YtapcgikamldchaaDoor
open Go.RowKit Go.Maps

theorem field_pair (p b : Nat) (w : World) : (Instr.field 27 (.agg #[.pointer (some ⟨p, 0, none⟩), .pointer (some ⟨b, 0, none⟩)]) 0).run Tryd.prog w = .ok (.pointer (some ⟨p, 0, none⟩)) w := by kernel_rfl
def SBX (X n c : Nat) (A : Option Addr) (W w : World) : Prop := (w.cell? ⟨X, 0, none⟩ = some (.slice A n c) ∧ w.cell? ⟨X, 1, none⟩ = some (.int .u64 0)) ∧ Hid (Below W.heap.size W w)
theorem SBX.step {X n c : Nat} {A : Option Addr} {W w w' : World} (h : SBX X n c A W w) (hb : Below w.heap.size w w') : SBX X n c A W w' := by
  obtain ⟨⟨h0, h1⟩, h2⟩ := h
  exact ⟨⟨(hb.cell (p := ⟨X, 0, none⟩) (World.block_lt_of_cell? w _ h0)).trans h0, (hb.cell (p := ⟨X, 1, none⟩) (World.block_lt_of_cell? w _ h1)).trans h1⟩, Lib.hid (h2.out.trans (hb.mono h2.out.size))⟩
set_option maxRecDepth 100000 in
set_option maxHeartbeats 16000000 in
theorem sany_good (A : Option Addr) (n c : Nat) (xs : List TH) (ao0 : Option Addr) (nn0 cap0 : Nat) (W : World) (hM : LayM W) (hx : SeeH W (.slice A n c) xs) (hn : n ≤ 100) (hn0 : nn0 ≤ 300)
    (hbeg : ∀ X, Below W.heap.size W X → LayM X → Calls Tryd.prog 8 #[.slice ao0 nn0 cap0] X fun e W' => ∃ p m b, e = .returned (.agg #[.pointer (some ⟨p, 0, none⟩), .pointer (some ⟨b, 0, none⟩)]) ∧ Both p m b nn0 W' ∧ X.heap.size ≤ m ∧ m < p ∧ p < b ∧ Below X.heap.size X W') :
    Calls Tryd.prog 4 #[.slice A n c, .slice ao0 nn0 cap0] W fun e W' => e = .returned (.bool true) ∧ Below W.heap.size W W' := by
  have hW0 : 0 < W.heap.size := hM.1
  have hb0 : Below W.heap.size W (W.alloc (.cells #[.slice A n c, .int .u64 0] 36)) := (Below.refl _ _).alloc (Nat.le_refl _) _
  have HM := Lib.hid (hM.below hb0)
  have HX0 := Lib.hid hx
  have HX := Lib.hid (hx.below hb0)
  have HS := Lib.hid (Bq.new W [.slice A n c, .int .u64 0] 36)
  have HW := Lib.hid hb0
  have HBG := Lib.hid (hbeg _ hb0 (hM.below hb0))
  have q1 : ¬ ((100 : Int) < (n : Int)) := by omega
  have q2 : (n : Int) ≤ 100 := by omega
  have q3 : ¬ ((300 : Int) < (nn0 : Int)) := by omega
  have q4 : (nn0 : Int) ≤ 300 := by omega
  have hn9 : n < 1000 := by omega
  clear hM hx hbeg hb0
  go_enter Tryd.func4, Tryd.ntmps4
  go_wp2_with fail
  revert HM HX HS HW HBG
  generalize W.alloc (.cells #[.slice A n c, .int .u64 0] 36) = w1
  intro HM HX HS HW HBG
  generalize hXX : W.heap.size = X at HS ⊢
  clear hXX
  (refine (HBG.out).mono ?_; rintro e w2 ⟨p, m, b, rfl, hB2, hWm, hmp, hpb, hb2⟩)
  obtain ⟨M, k9, D, L, S, hnn, hst⟩ := hB2.toM (by omega)
  have hM2 := HM.out.below hb2
  have hw1 := HW.out.size
  have HF2 := Lib.hid (S.vx hnn S.pr (Lay.all w2) hM2 (by omega))
  have HP := Lib.hid (show W.heap.size ≤ p ∧ W.heap.size ≤ m from ⟨by omega, by omega⟩)
  have HQ2 := Lib.hid (HW.out.trans (hb2.mono hw1))
  have HX2 := Lib.hid (HX.out.below hb2)
  have HS2 := Lib.hid (HS.out.below hb2)
  have hms : M.s.st < 1000000 := S.st1
  have hfd := field_pair p b
  clear hB2 hWm hmp hpb hb2 S hnn hst hM2 HM HX HS HW HBG
  go_wp2_with fail
  ((with_reducible refine (HF2.out.steps).mono ?_); rintro e w3 ⟨rfl, rfl⟩)
  have hbv : Below w2.heap.size w2 (w2.alloc (.cells Tryd.zeroCells59 59)) := (Below.refl _ _).alloc (Nat.le_refl _) _
  have HF4 := Lib.hid (HF2.out.below hbv)
  have HQ4 := Lib.hid (HQ2.out.trans (hbv.mono HQ2.out.size))
  have HX4 := Lib.hid (HX2.out.below hbv)
  have HS4 := Lib.hid (HS2.out.below hbv)
  have HV4 := Lib.hid (show Bq w2.heap.size 59 ZT (w2.alloc (.cells Tryd.zeroCells59 59)) from (by rw [zeroT_eq]; exact Bq.new w2 ZT 59))
  have HY := Lib.hid (show W.heap.size ≤ w2.heap.size from HQ2.out.size)
  clear hbv HF2 HQ2 HX2 HS2
  go_wp2_with fail
  revert HF4 HQ4 HX4 HS4 HV4
  generalize w2.alloc (.cells Tryd.zeroCells59 59) = w4
  intro HF4 HQ4 HX4 HS4 HV4
  generalize w2.heap.size = Y at *
  ((with_reducible refine (stepT_nil _ w4).mono ?_); rintro e w5 ⟨rfl, hb5⟩)
  have HF5 := Lib.hid (HF4.out.below hb5)
  have HQ5 := Lib.hid (HQ4.out.trans (hb5.mono HQ4.out.size))
  have HX5 := Lib.hid (HX4.out.below hb5)
  have HS5 := Lib.hid (HS4.out.below hb5)
  have HV5 := Lib.hid (HV4.out.below hb5)
  clear hb5 HF4 HQ4 HX4 HS4 HV4
  go_wp2_with fail
  ((with_reducible refine (overT_nil w5).mono ?_); rintro e w6 ⟨rfl, hb6⟩)
  have HF6 := Lib.hid (HF5.out.below hb6)
  have HQ6 := Lib.hid (HQ5.out.trans (hb6.mono HQ5.out.size))
  have HX6 := Lib.hid (HX5.out.below hb6)
  have HS6 := Lib.hid (HS5.out.below hb6)
  have HV6 := Lib.hid (HV5.out.below hb6)
  clear hb6 HF5 HQ5 HX5 HS5 HV5
  go_wp2_with fail
  ((with_reducible refine (gotT_nil w6).mono ?_); rintro e w7 ⟨A7, C7, rfl, hs7, hb7⟩)
  have HF7 := Lib.hid (HF6.out.below hb7)
  have HQ7 := Lib.hid (HQ6.out.trans (hb7.mono HQ6.out.size))
  have HX7 := Lib.hid (HX6.out.below hb7)
  have HS7 := Lib.hid (HS6.out.below hb7)
  have HV7 := Lib.hid (HV6.out.below hb7)
  have HR7 := Lib.hid hs7
  have HN7 : Hid (SeeH w7 (.slice none 0 0) []) := Lib.hid (OwnH.nil w7 0).see
  clear hb7 hs7 HF6 HQ6 HX6 HS6 HV6
  go_wp2_with fail
  ((with_reducible refine (same_snap (ep := 0) HR7.out HN7.out (by decide)).mono ?_); rintro e w8 ⟨rfl, hb8⟩)
  rw [decide_eq_true (rfl : ([] : List TH) = [])]
  have HF8 := Lib.hid (HF7.out.below hb8)
  have HQ8 := Lib.hid (HQ7.out.trans (hb8.mono HQ7.out.size))
  have HX8 := Lib.hid (HX7.out.below hb8)
  have HS8 := Lib.hid (HS7.out.below hb8)
  have HV8 := Lib.hid (zeroT (HV7.out.below hb8))
  clear hb8 HF7 HQ7 HX7 HS7 HV7 HR7 HN7
  have hIV : InvS 1 voidS := .over (by decide) (by decide) rfl rfl (by simp)
  have hlv : voidS.ln = 0 := rfl
  have HIV := Lib.hid hIV
  have hY0 : ∀ y ∈ [Y], 0 < y := fun y hy => by have h1 := HY.out; rw [List.mem_singleton.1 hy]; omega
  have HY0 := Lib.hid hY0
  clear hIV hY0
  go_wp2_with fail
  ((with_reducible refine (stepT_all HY0.out HF8.out hms HIV.out HV8.out).mono ?_); rintro e w9 ⟨rfl, fp9, hsub, hq9, hf9, on9⟩)
  have e1 : stepS M.V voidS = voidS := if_pos rfl
  have e2 : memT M voidS = M := if_pos rfl
  rw [e1] at hq9 ⊢
  rw [e2] at hf9
  have HF9 := Lib.hid hf9
  have HV9 := Lib.hid hq9
  have keep : ∀ z t cs, Bq z t cs w8 → t ≠ 90 → z ≠ Y → Bq z t cs w9 := fun z t cs kz ht hz => by
    obtain ⟨h1, h2⟩ := HF8.out.ne ht kz
    exact (on9.block z kz.lt h1 h2 (by simpa using hz)).trans kz
  have HQ9 := Lib.hid (HQ8.out.trans (on9.below HP.out.1 HP.out.2 (by simpa using HY.out) HQ8.out.size))
  have HX9 := Lib.hid (HX0.out.below HQ9.out)
  have HS9 := Lib.hid (keep X _ _ HS8.out (by decide) (fun e => by
    obtain ⟨t, cs, kz, ht⟩ := HV8.out.own Y (by simp)
    subst e
    have := bq_type kz HS8.out
    subst this
    revert ht; decide))
  clear hsub hq9 hf9 on9 keep e1 e2 HF8 HQ8 HX8 HS8 HV8
  rw [decide_eq_true hlv]
  go_wp2_with fail
  ((with_reducible refine (overT_all HV9.out).mono ?_); rintro e w10 ⟨rfl, hb10⟩)
  rw [decide_eq_true hlv]
  have HF10 := Lib.hid (HF9.out.below hb10)
  have HQ10 := Lib.hid (HQ9.out.trans (hb10.mono HQ9.out.size))
  have HX10 := Lib.hid (HX9.out.below hb10)
  have HS10 := Lib.hid (HS9.out.below hb10)
  have HV10 := Lib.hid (HV9.out.below hb10)
  clear hb10 HF9 HQ9 HX9 HS9 HV9
  go_wp2_with fail
  ((with_reducible refine (gotT_all HIV.out HV10.out).mono ?_); rintro e w11 ⟨A11, rfl, ho11, hb11⟩)
  have hg : gotL voidS = [] := rfl
  rw [hg] at ho11 ⊢
  have HR11 : Hid (SeeH w11 (.slice A11 0 0) []) := Lib.hid ho11.see
  have HN11 : Hid (SeeH w11 (.slice none 0 0) []) := Lib.hid (OwnH.nil w11 0).see
  have HF11 := Lib.hid (HF10.out.below hb11)
  have HQ11 := Lib.hid (HQ10.out.trans (hb11.mono HQ10.out.size))
  have HX11 := Lib.hid (HX10.out.below hb11)
  have HS11 := Lib.hid (HS10.out.below hb11)
  clear hb11 ho11 hg HF10 HQ10 HX10 HS10 HV10
  go_wp2_with fail
  ((with_reducible refine (same_snap (ep := 0) HR11.out HN11.out (by decide)).mono ?_); rintro e w12 ⟨rfl, hb12⟩)
  rw [decide_eq_true (rfl : ([] : List TH) = [])]
  have HF12 := Lib.hid (HF11.out.below hb12)
  have HQ12 := Lib.hid (HQ11.out.trans (hb12.mono HQ11.out.size))
  have HX12 := Lib.hid (HX11.out.below hb12)
  have HS12 := Lib.hid (HS11.out.below hb12)
  clear hb12 HF11 HQ11 HX11 HS11 HR11 HN11
  go_wp2_with fail
  ((with_reducible refine (HF12.out.steps).mono ?_); rintro e w13 ⟨rfl, rfl⟩)
  go_upto_region 10 with (fail)
  go_cut [4] (fun x wx => x = .bool true ∧ Hid (Below W.heap.size W wx))
  case first =>
    have hd0 : Below w12.heap.size w12 w12.drew := (Below.refl _ _).drew
    have HSD := Lib.hid (HS12.out.below hd0)
    have HXD := Lib.hid (HX12.out.below hd0)
    have HQD := Lib.hid (HQ12.out.trans (hd0.mono HQ12.out.size))
    have HMD := Lib.hid (HF12.out.laym.below hd0)
    have HY9 := Lib.hid (show SBX X n c A W w12.drew from ⟨⟨HSD.out.cell 0, HSD.out.cell 1⟩, HQD⟩)
    clear hd0
    go_region_held3 (fun w1 => (w1.cell? ⟨X, 0, none⟩ = some (.slice A n c) ∧ w1.cell? ⟨X, 1, none⟩ = some (.int .u64 0)) ∧ Hid (Below W.heap.size W w1))
      (first | exact HY9.out | exact HYa.out | exact HYb.out | exact HYc.out | assumption)
      (first
        | (go_at_call 18; with_reducible refine (stepsT_all (ep := 0) HXD.out hn9).mono ?_; rintro e wa ⟨rfl, hb⟩; have Sa := Lib.hid (HSD.out.below hb); have Xa := Lib.hid (HXD.out.below hb); have Qa := Lib.hid (HQD.out.trans (hb.mono HQD.out.size)); have Ma := Lib.hid (HMD.out.below hb); have HYa := Lib.hid (HY9.out.step hb); clear hb)
        | (go_at_call 20; with_reducible refine (docSteps (ep := 0) Xa.out hn9).mono ?_; rintro e wb ⟨rfl, hb⟩; have Sb := Lib.hid (Sa.out.below hb); have Qb := Lib.hid (Qa.out.trans (hb.mono Qa.out.size)); have Mb := Lib.hid (Ma.out.below hb); have HYb := Lib.hid (HYa.out.step hb); clear hb)
        | (go_at_call 7; with_reducible refine (lives14_any Mb.out).mono ?_; rintro e wc ⟨rfl, hb⟩; have Sc := Lib.hid (Sb.out.below hb); have Qc := Lib.hid (Qb.out.trans (hb.mono Qb.out.size)); have HYc := Lib.hid (HYb.out.step hb); clear hb))
    all_goals (go_wp2_with fail)
    all_goals go_meet
    all_goals exact ⟨rfl, Qc⟩
  case rest =>
    obtain ⟨rfl, HQ⟩ := hcut
    go_wp2_with fail
    go_ret
    exact ⟨rfl, HQ.out⟩
set_option maxRecDepth 100000 in
set_option maxHeartbeats 4000000 in
theorem sany_long (A : Option Addr) (n c : Nat) (ao1 : Option Addr) (nn1 cap1 : Nat) (W : World) (hM : LayM W) (h : ¬ (n ≤ 100 ∧ nn1 ≤ 300)) :
    Calls Tryd.prog 4 #[.slice A n c, .slice ao1 nn1 cap1] W fun e W' => e = .returned (.bool true) ∧ Below W.heap.size W W' := by
  have HM := Lib.hid hM
  clear hM
  by_cases h0 : n ≤ 100
  · have q1 : ¬ ((100 : Int) < (n : Int)) := by omega
    have q2 : (n : Int) ≤ 100 := by omega
    have q3 : (300 : Int) < (nn1 : Int) := by omega
    clear h h0
    go_enter Tryd.func4, Tryd.ntmps4
    go_wp2_with fail
    ((with_reducible refine (lives14_any HM.out).mono ?_); rintro e w1 ⟨rfl, hb⟩)
    have HB := Lib.hid hb
    clear hb
    go_wp2_with fail
    go_ret
    exact ⟨rfl, HB.out⟩
  · have q1 : (100 : Int) < (n : Int) := by omega
    clear h h0
    go_enter Tryd.func4, Tryd.ntmps4
    go_wp2_with fail
    ((with_reducible refine (lives14_any HM.out).mono ?_); rintro e w1 ⟨rfl, hb⟩)
    have HB := Lib.hid hb
    clear hb
    go_wp2_with fail
    go_ret
    exact ⟨rfl, HB.out⟩
end Go.Proofs.YtapcgikamldchaaDoor
