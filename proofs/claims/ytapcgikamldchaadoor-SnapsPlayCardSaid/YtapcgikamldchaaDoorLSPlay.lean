/-
  The law SnapsPlay, walked: it returns true and only makes memory of its own; condition: the table as laid, both lists of stores lie as they say.
-/
import Derived.Test.YtapcgikamldchaaDoorSJ2
import Derived.Deep.RegionLaw
import Derived.Deep.DeepCutAuto
import Derived.Deep.RegionWith
import Derived.Deep.RegionHeld3
import Derived.BigQuiet
namespace Go.Proofs.YtapcgikamldchaaDoor
open Go.RowKit Go.Maps

/-- What region 16 reads, whatever its calls have made beside. -/
def SBY (K T0 p b : Nat) (ln : Int) (W w : World) : Prop := (w.cell? ⟨K, 0, none⟩ = some (.int .i64 ln) ∧ w.cell? ⟨T0, 0, none⟩ = some (.pointer (some ⟨p, 0, none⟩)) ∧ w.cell? ⟨T0, 1, none⟩ = some (.pointer (some ⟨b, 0, none⟩))) ∧ Hid (Below W.heap.size W w)
section
variable {W w : World} {p m b T0 q K c k : Nat} {P : List Nat} {v : Value} {s s' : SG}
theorem PT.sby (h : PT W p m b T0 q K c k P v s w) : SBY K T0 p b s.ln W w := ⟨⟨h.line, h.boxes.1, h.boxes.2⟩, Lib.hid h.low⟩
theorem Mid.sby (h : Mid W p m b T0 q K c k P v s s' w) : SBY K T0 p b s'.ln W w := ⟨⟨h.line, h.boxes.1, h.boxes.2⟩, Lib.hid h.low⟩
theorem PT.got1 {n : Nat} (h : PT W p m b T0 q K c k P v s w) (hn : s.ln = 0) (hl : n = s.l.length) : Calls Tryd.prog 13 #[.pointer (some ⟨q, 0, none⟩)] w fun e w' => ∃ A, e = .returned (.agg #[.slice A n n, .int .u64 0]) ∧ OwnH w' w.heap.size (.slice A n n) s.l ∧ PT W p m b T0 q K c k P v s w' := by
  refine (gotT_all h.inv h.prg).mono ?_
  rintro e w' ⟨A, rfl, ho, hb⟩
  have hg : gotL s = s.l := if_pos hn
  rw [hg] at ho ⊢
  rw [← hl] at ho ⊢
  exact ⟨A, rfl, ho, h.below hb⟩
/-- What regions 19 and 25 read. -/
def SBK (K n : Nat) (Av : Option Addr) (Cv : Nat) (W w : World) : Prop := (w.cell? ⟨K, 1, none⟩ = some (.slice Av n Cv) ∧ w.cell? ⟨K, 2, none⟩ = some (.int .u64 0)) ∧ Hid (Below W.heap.size W w)
theorem PT.sbk {n Cv : Nat} {Av : Option Addr} (h : PT W p m b T0 q K c k P (.slice Av n Cv) s w) : SBK K n Av Cv W w := ⟨⟨h.doc.cell 1, h.doc.cell 2⟩, Lib.hid h.low⟩
def SBZ (K X T0 p b n : Nat) (Av A : Option Addr) (Cv : Nat) (W w : World) : Prop := (w.cell? ⟨K, 0, none⟩ = some (.int .i64 0) ∧ w.cell? ⟨K, 1, none⟩ = some (.slice Av n Cv) ∧ w.cell? ⟨K, 2, none⟩ = some (.int .u64 0) ∧ w.cell? ⟨X, 0, none⟩ = some (.slice A n n) ∧ w.cell? ⟨X, 1, none⟩ = some (.int .u64 0) ∧ w.cell? ⟨T0, 0, none⟩ = some (.pointer (some ⟨p, 0, none⟩)) ∧ w.cell? ⟨T0, 1, none⟩ = some (.pointer (some ⟨b, 0, none⟩))) ∧ Hid (Below W.heap.size W w)
theorem PG.sbz {n Cv X : Nat} {Av A : Option Addr} {ys : List TH} (h : PG W p m b T0 q K c k P (.slice Av n Cv) s X A n ys w) (hn : s.ln = 0) : SBZ K X T0 p b n Av A Cv W w := ⟨⟨by have := h.pt.line; rwa [hn] at this, h.pt.doc.cell 1, h.pt.doc.cell 2, h.box.cell 0, h.box.cell 1, h.pt.boxes.1, h.pt.boxes.2⟩, Lib.hid h.pt.low⟩
theorem OwnH.own_n {B : Nat} {A : Option Addr} {n C : Nat} {xs : List TH} (h : OwnH w B (.slice A n C) xs) : n = xs.length := h.see.len
end
set_option maxRecDepth 100000 in
set_option maxHeartbeats 16000000 in
theorem splay_good (ao0 : Option Addr) (nn0 cap0 : Nat) (ao1 : Option Addr) (nn1 cap1 : Nat) (cs : Nat → Sto) (W : World) (hM : LayM W) (hn0 : nn0 ≤ 300) (hn1 : nn1 ≤ 400)
    (hs1 : 0 < nn1 → ∃ g off, ao1 = some ⟨g, off, none⟩ ∧ nn1 ≤ cap1 ∧ cap1 ≤ 9223372036854775807 ∧ StoCells W g off cs nn1)
    (hbeg : Calls Tryd.prog 8 #[.slice ao0 nn0 cap0] W fun e W' => ∃ p m b, e = .returned (.agg #[.pointer (some ⟨p, 0, none⟩), .pointer (some ⟨b, 0, none⟩)]) ∧ Both p m b nn0 W' ∧ W.heap.size ≤ m ∧ m < p ∧ p < b ∧ Below W.heap.size W W') :
    Calls Tryd.prog 3 #[.slice ao0 nn0 cap0, .slice ao1 nn1 cap1] W fun e W' => e = .returned (.bool true) ∧ Below W.heap.size W W' := by
  have HM := Lib.hid hM
  have HS1 := Lib.hid hs1
  have HBG := Lib.hid hbeg
  have hW0 : 0 < W.heap.size := hM.1
  have q1 : ¬ ((300 : Int) < (nn0 : Int)) := by omega
  have q2 : (nn0 : Int) ≤ 300 := by omega
  have q3 : ¬ ((400 : Int) < (nn1 : Int)) := by omega
  have q4 : (nn1 : Int) ≤ 400 := by omega
  clear hM hs1 hbeg
  go_enter Tryd.func3, Tryd.ntmps3
  go_wp2_with fail
  (refine (HBG.out).mono ?_; rintro e w1 ⟨p, m, b, rfl, hB1, hWm, hmp, hpb, hb1⟩)
  have hX : Below w1.heap.size w1 (w1.alloc (.cells #[.pointer (some ⟨p, 0, none⟩), .pointer (some ⟨b, 0, none⟩)] 27)) := (Below.refl _ _).alloc (Nat.le_refl _) _
  have HB := Lib.hid ((hB1.mono (c' := 300) hn0).below hX)
  have HL := Lib.hid ((HM.out.below hb1).below hX)
  have HW := Lib.hid (hb1.trans (hX.mono hb1.size))
  have HT := Lib.hid (Bq.new w1 [.pointer (some ⟨p, 0, none⟩), .pointer (some ⟨b, 0, none⟩)] 27)
  clear hB1 hb1 hX HBG
  go_wp2_with fail
  revert HB HL HW HT
  generalize w1.alloc (.cells #[.pointer (some ⟨p, 0, none⟩), .pointer (some ⟨b, 0, none⟩)] 27) = w2
  intro HB HL HW HT
  generalize w1.heap.size = T0 at *
  ((with_reducible refine (newT_all w2).mono ?_); rintro e w3 ⟨q, P0, rfl, hq3, hP3, hb3⟩)
  have HQ3 := Lib.hid hq3
  have HP3 := Lib.hid hP3
  have HB3 := Lib.hid hb3
  clear hq3 hP3 hb3
  go_wp2_with fail
  ((with_reducible refine (docTNew w3).mono ?_); rintro e w4 ⟨K, rfl, hk4, hK4, hb4⟩)
  have HS := Lib.hid (show PT W p m b T0 q K 300 0 P0 (.slice none 0 0) SG.new w4 from
    ⟨(HB.out.below HB3.out).below hb4, Lay.all _, (HL.out.below HB3.out).below hb4, (HW.out.trans (HB3.out.mono HW.out.size)).trans (hb4.mono (Nat.le_trans HW.out.size HB3.out.size)), hWm, hW0, (HT.out.below HB3.out).below hb4, HQ3.out.below hb4, hk4, .nil _ _, fun y hy => ⟨fun e => by have := HQ3.out.lt hy; omega, by simp [Value.ownBlock]⟩, fun y hy => Nat.le_trans HW.out.size (HP3.out y hy), Nat.le_trans (Nat.le_trans HW.out.size HB3.out.size) hK4, .new⟩)
  clear hk4 hK4 hb4 HB HL HT HQ3 HP3 HB3 HW
  go_wp2_with fail
  go_loopw [8, 9] (fun x j wr => ∃ (k : Nat) (P : List Nat) (v : Value) (s : SG), j = .int .i64 (k : Int) ∧ x = .int .i64 (k : Int) ∧ k ≤ 161 ∧ Hid (PT W p m b T0 q K (300 + 2 * k) k P v s wr)) (fun _ j _ => 200 - (intOf j).toNat)
  case atStart => exact ⟨0, P0, .slice none 0 0, SG.new, rfl, rfl, by decide, HS.out⟩
  case round =>
    clear HS
    obtain ⟨k, P, v, s, rfl, rfl, hk, HP⟩ := hrel
    rename World => wr
    have hk0 : (0 : Int) ≤ (k : Int) := by omega
    have hk2 : (k : Int) < 200 := by omega
    have x0 := HP.out.line
    by_cases hn : s.ln = 0
    · have HNN := Lib.hid hn
      rw [hn] at x0
      clear hn
      go_upto_region 18 with (fail)
      go_wp2_with fail
      ((with_reducible refine (gotT_all HP.out.inv HP.out.prg).mono ?_); rintro e w5 ⟨A, rfl, ho, hb⟩)
      have hg : gotL s = s.l := if_pos HNN.out
      rw [hg] at ho ⊢
      obtain ⟨Av, Cv, rfl, _, _, _⟩ := HP.out.row.slice
      obtain ⟨n, hnl⟩ : ∃ n, n = s.l.length := ⟨_, rfl⟩
      have HNL := Lib.hid hnl
      have hn16 : n ≤ 16 := by have := HP.out.inv.len; omega
      rw [← hnl] at ho HP ⊢
      have hbx : Below w5.heap.size w5 (w5.alloc (.cells #[.slice A n n, .int .u64 0] 36)) := (Below.refl _ _).alloc (Nat.le_refl _) _
      have hlt := HP.out.low.size
      have HG := Lib.hid (show PG W p m b T0 q K (300 + 2 * k) k P (.slice Av n Cv) s w5.heap.size A n s.l (w5.alloc (.cells #[.slice A n n, .int .u64 0] 36)) from
        ⟨(HP.out.below hb).below hbx, Bq.new w5 [.slice A n n, .int .u64 0] 36, (ho.below hbx).mono hlt, fun g hg2 => ⟨fun hy => by have h1 := HP.out.prg.lt hy; have h2 := (ho.bq hg2).1; omega, fun hy => by have h1 := HP.out.row.lt hy; have h2 := (ho.bq hg2).1; omega⟩⟩)
      clear hb ho hg hnl hbx hlt x0 HP
      go_upto_region 19 with (fail)
      revert HG
      generalize w5.alloc (.cells #[.slice A n n, .int .u64 0] 36) = w6
      intro HG
      generalize w5.heap.size = X at *
      have hc9 : 300 + 2 * k ≤ 900 := by omega
      have hnn : n < 1000 := by omega
      have HC := Lib.hid (HG.out.pt.inv.cost HNN.out)
      go_cut [124] (fun x wx => x = .bool false ∧ ∃ P', Hid (PG W p m b T0 q K (300 + 2 * k + 1) k P' (.slice Av n Cv) s X A n s.l wx))
      case first =>
        have HGD := Lib.hid (HG.out.below (Below.refl _ _).drew)
        have HY0 := Lib.hid (HGD.out.sbz HNN.out)
        go_region_held3 (fun w1 => (w1.cell? ⟨K, 0, none⟩ = some (.int .i64 0) ∧ w1.cell? ⟨K, 1, none⟩ = some (.slice Av n Cv) ∧ w1.cell? ⟨K, 2, none⟩ = some (.int .u64 0) ∧ w1.cell? ⟨X, 0, none⟩ = some (.slice A n n) ∧ w1.cell? ⟨X, 1, none⟩ = some (.int .u64 0) ∧ w1.cell? ⟨T0, 0, none⟩ = some (.pointer (some ⟨p, 0, none⟩)) ∧ w1.cell? ⟨T0, 1, none⟩ = some (.pointer (some ⟨b, 0, none⟩))) ∧ Hid (Below W.heap.size W w1))
          (first | exact HY0.out | exact HYa.out | exact HYb.out | exact HYc.out | exact HYd.out | assumption)
          (first
            | (go_at_call 12; with_reducible refine (same_snap (ep := 0) HGD.out.row.see HGD.out.pt.row.see (by omega)).mono ?_; rintro e wa ⟨rfl, hb⟩; rw [decide_eq_true (rfl : s.l = s.l)]; have Ha := Lib.hid (HGD.out.below hb); have HYa := Lib.hid (Ha.out.sbz HNN.out); clear hb)
            | (go_at_call 18; with_reducible refine (stepsT_all (ep := 0) Ha.out.row.see hnn).mono ?_; rintro e wb ⟨rfl, hb⟩; rw [← HC.out]; have Hb := Lib.hid (Ha.out.below hb); have HYb := Lib.hid (Hb.out.sbz HNN.out); clear hb)
            | (go_at_call 15; with_reducible refine (Hb.out.over HNN.out hc9).mono ?_; rintro e wc ⟨rfl, P9, hc⟩; have Hc := Lib.hid hc; have HYc := Lib.hid (Hc.out.sbz HNN.out); clear hc)
            | (go_at_call 17; with_reducible refine (both_same Hc.out.pt.both).mono ?_; rintro e wd ⟨rfl, hb⟩; have Hd := Lib.hid (Hc.out.below hb); have HYd := Lib.hid (Hd.out.sbz HNN.out); clear hb))
        all_goals (go_wp2_with fail)
        all_goals go_meet
        all_goals exact ⟨rfl, _, Hd⟩
      case rest =>
        obtain ⟨rfl, P7, HG7⟩ := hcut
        rename World => w7
        clear HG
        go_wp2_with fail
        go_loopw [11] (fun j wr => ∃ (i : Nat) (ys : List TH), i ≤ n ∧ j = .int .i64 (i : Int) ∧ Hid (ys.length = n ∧ PG W p m b T0 q K (300 + 2 * k + 1) k P7 (.slice Av n Cv) s X A n ys wr)) (fun j _ => n - (intOf j).toNat)
        case atStart => exact ⟨0, s.l, Nat.zero_le _, rfl, Lib.hid ⟨HNL.out.symm, HG7.out⟩⟩
        case round =>
          clear HG7
          obtain ⟨i, ys, hi, rfl, HH⟩ := hrel
          rename World => wr
          have hi0 : (0 : Int) ≤ (i : Int) := by omega
          have hX := HH.out.2.box.cell 0
          dsimp only [List.getElem?_cons_zero] at hX
          by_cases hin : i < n
          · have hin' : (i : Int) < (n : Int) := by omega
            obtain ⟨A8, C8, he8, h81, h82, hA8⟩ := HH.out.2.row.slice
            injection he8 with he81 he82 he83
            subst he81 he83
            obtain ⟨g, rfl⟩ := hA8 (by omega)
            have y0 := HH.out.2.row.cellAt (k := i) (f := 0) (by have := HH.out.1; omega) (by decide)
            have z0 := HH.out.2.row.free (i * 10)
            rw [Nat.add_zero] at y0
            have HP8 := Lib.hid (HH.out.2.put (j := i) (by have := HH.out.1; omega) 7)
            have HL8 := Lib.hid HH.out.1
            clear h81 h82 he82 hA8
            go_wp2_with fail
            go_roundw
            case rel => exact ⟨i + 1, _, by omega, by go_num, Lib.hid ⟨by rw [List.length_set]; exact HL8.out, HP8.out⟩⟩
            case measure => simp [intOf]; omega
          · have hnl : ¬ (i : Int) < (n : Int) := by omega
            have HP8 := Lib.hid HH.out.2.pt
            clear HH
            go_upto_region 25 with (fail)
            go_cut [4] (fun x wx => x = .bool true ∧ Hid (Below W.heap.size W wx))
            case first =>
              have HPD := Lib.hid (HP8.out.below (Below.refl _ _).drew)
              have HY0 := Lib.hid HPD.out.sbk
              go_region_held3 (fun w1 => (w1.cell? ⟨K, 1, none⟩ = some (.slice Av n Cv) ∧ w1.cell? ⟨K, 2, none⟩ = some (.int .u64 0)) ∧ Hid (Below W.heap.size W w1))
                (first | exact HY0.out | exact HYa.out | exact HYb.out | exact HYc.out | assumption)
                (first
                  | (go_at_call 13; with_reducible refine (HPD.out.got1 HNN.out HNL.out).mono ?_; rintro e wa ⟨A9, rfl, ho, ha⟩; have Ha := Lib.hid ha; have HO9 := Lib.hid ho.see; have HYa := Lib.hid Ha.out.sbk; clear ho ha)
                  | (go_at_call 12; with_reducible refine (same_snap (ep := 0) HO9.out Ha.out.row.see (by omega)).mono ?_; rintro e wb ⟨rfl, hb⟩; rw [decide_eq_true (rfl : s.l = s.l)]; have Hb := Lib.hid (Ha.out.below hb); have HYb := Lib.hid Hb.out.sbk; clear hb)
                  | (go_at_call 7; with_reducible refine (lives14_any Hb.out.laym).mono ?_; rintro e wc ⟨rfl, hb⟩; have Hc := Lib.hid (Hb.out.below hb); have HYc := Lib.hid Hc.out.sbk; clear hb))
              all_goals (go_wp2_with fail)
              all_goals go_meet
              all_goals exact ⟨rfl, Lib.hid Hc.out.low⟩
            case rest =>
              obtain ⟨rfl, HQ⟩ := hcut
              go_wp2_with fail
              go_ret
              exact ⟨rfl, HQ.out⟩
    · have hln : s.ln = 1 ∨ s.ln = 2 := by
        rcases HP.out.inv.lns with h | h | h
        · exact absurd h hn
        · exact .inl h
        · exact .inr h
      have hgt : (0 : Int) < s.ln := by omega
      have hk160 := HP.out.inv.le hn
      have HNN := Lib.hid hn
      obtain ⟨ln, hz⟩ : ∃ ln, ln = s.ln := ⟨_, rfl⟩
      have HZ := Lib.hid hz
      rw [← hz] at x0 hgt
      clear hz hln hn
      by_cases hb1 : k < nn1
      · have hb1' : (k : Int) < (nn1 : Int) := by omega
        obtain ⟨g, off, rfl, hcap, hcap9, hsc⟩ := HS1.out (by omega)
        obtain ⟨d0, d1, d2, d3⟩ := (hsc.below HP.out.low) k hb1
        generalize cs k = st at d0 d1 d2 d3
        obtain ⟨x, sv, hsv⟩ := st
        dsimp only at d0 d1 d2 d3
        obtain ⟨t0, t1⟩ := HP.out.boxes
        have HSV := Lib.hid hsv
        have HPD := Lib.hid (HP.out.below (Below.refl _ _).drew)
        have hc9 : 300 + 2 * k ≤ 900 := by omega
        clear hsc hsv
        go_upto_region 11 with (fail)
        go_region_with (first
          | (go_at_call 11; with_reducible refine (both_store HPD.out.both HPD.out.laym hc9 x sv HSV.out).mono ?_; rintro e w5 ⟨rfl, hb5, f5⟩; have HP5 := Lib.hid (HPD.out.fr hb5 f5); clear hb5 f5))
        all_goals
          clear x0 t0 t1 d0 d1 d2 d3 HP HPD
          have x0 : w5.cell? ⟨K, 0, none⟩ = some (.int .i64 ln) := by have h9 := HP5.out.line; rw [← HZ.out] at h9; exact h9
          go_wp2_with fail
          ((with_reducible refine (gotT_all HP5.out.inv HP5.out.prg).mono ?_); rintro e w6 ⟨A6, rfl, ho6, hb6⟩)
          have HP6 := Lib.hid (HP5.out.below hb6)
          have hg6 : gotL s = [] := if_neg HNN.out
          rw [hg6] at ho6 ⊢
          have HO6 : Hid (SeeH w6 (.slice A6 0 0) []) := Lib.hid ho6.see
          have HN6 : Hid (SeeH w6 (.slice none 0 0) []) := Lib.hid (OwnH.nil w6 0).see
          clear ho6 hb6 hg6 HP5 x0
          go_wp2_with fail
          ((with_reducible refine (same_snap (ep := 0) HO6.out HN6.out (by decide)).mono ?_); rintro e w7 ⟨rfl, hb7⟩)
          rw [decide_eq_true (rfl : ([] : List TH) = [])]
          have HP7 := Lib.hid (HP6.out.below hb7)
          clear hb7 HP6 HO6 HN6
          have hc9' : 300 + 2 * k + 1 ≤ 900 := by omega
          obtain ⟨t0, t1⟩ := HP7.out.boxes
          go_wp2_with fail
          ((with_reducible refine (HP7.out.stepD hc9' HNN.out).mono ?_); rintro e w8 ⟨rfl, v8, s8, h8⟩)
          have HM8 := Lib.hid h8
          clear h8 HP7 t0 t1
          go_upto_region 16 with (fail)
          go_cut [81] (fun x wx => x = .bool false ∧ ∃ P', Hid (PT W p m b T0 q K (300 + 2 * (k + 1)) (k + 1) P' v8 s8 wx))
          case first =>
            have HMD := Lib.hid (HM8.out.below (Below.refl _ _).drew)
            have HY0 := Lib.hid HMD.out.sby
            obtain ⟨z, hz⟩ : ∃ z, z = s8.ln := ⟨_, rfl⟩
            have HZ8 := Lib.hid hz
            rw [← hz] at HY0
            clear hz
            by_cases h0 : z = 0
            · subst h0
              have HD := Lib.hid (decide_eq_true (HZ8.out.symm))
              go_region_held3 (fun w1 => (w1.cell? ⟨K, 0, none⟩ = some (.int .i64 0) ∧ w1.cell? ⟨T0, 0, none⟩ = some (.pointer (some ⟨p, 0, none⟩)) ∧ w1.cell? ⟨T0, 1, none⟩ = some (.pointer (some ⟨b, 0, none⟩))) ∧ Hid (Below W.heap.size W w1))
                (first | exact HY0.out | exact HYa.out | exact HYb.out | exact HYc.out | assumption)
                (first
                  | (go_at_call 15; with_reducible refine (HMD.out.stepP hc9').mono ?_; rintro e wa ⟨rfl, P9, ha⟩; rw [HD.out]; have Ha := Lib.hid ha; have hya := ha.sby; rw [← HZ8.out] at hya; have HYa := Lib.hid hya; clear ha hya)
                  | (go_at_call 16; with_reducible refine (overT_all Ha.out.prg).mono ?_; rintro e wb ⟨rfl, hb⟩; rw [HD.out]; have Hb := Lib.hid (Ha.out.below hb); have hyb := Hb.out.sby; rw [← HZ8.out] at hyb; have HYb := Lib.hid hyb; clear hb hyb)
                  | (go_at_call 17; with_reducible refine (both_same Hb.out.both).mono ?_; rintro e wc ⟨rfl, hb⟩; have Hc := Lib.hid (Hb.out.below hb); have hyc := Hc.out.sby; rw [← HZ8.out] at hyc; have HYc := Lib.hid hyc; clear hb hyc))
              all_goals (go_wp2_with fail)
              all_goals go_meet
              all_goals exact ⟨rfl, _, Lib.hid (Hc.out.mono (by omega))⟩
            · have hd0 : decide (z = 0) = false := decide_eq_false h0
              have hd1 : (z == 0) = false := by simpa using h0
              have HD := Lib.hid (decide_eq_false (show ¬ s8.ln = 0 from fun e => h0 (HZ8.out.trans e)))
              go_region_held3 (fun w1 => (w1.cell? ⟨K, 0, none⟩ = some (.int .i64 z) ∧ w1.cell? ⟨T0, 0, none⟩ = some (.pointer (some ⟨p, 0, none⟩)) ∧ w1.cell? ⟨T0, 1, none⟩ = some (.pointer (some ⟨b, 0, none⟩))) ∧ Hid (Below W.heap.size W w1))
                (first | exact HY0.out | exact HYa.out | exact HYb.out | exact HYc.out | assumption)
                (first
                  | (go_at_call 15; with_reducible refine (HMD.out.stepP hc9').mono ?_; rintro e wa ⟨rfl, P9, ha⟩; rw [HD.out]; have Ha := Lib.hid ha; have hya := ha.sby; rw [← HZ8.out] at hya; have HYa := Lib.hid hya; clear ha hya)
                  | (go_at_call 16; with_reducible refine (overT_all Ha.out.prg).mono ?_; rintro e wb ⟨rfl, hb⟩; rw [HD.out]; have Hb := Lib.hid (Ha.out.below hb); have hyb := Hb.out.sby; rw [← HZ8.out] at hyb; have HYb := Lib.hid hyb; clear hb hyb)
                  | (go_at_call 17; with_reducible refine (both_same Hb.out.both).mono ?_; rintro e wc ⟨rfl, hb⟩; have Hc := Lib.hid (Hb.out.below hb); have hyc := Hc.out.sby; rw [← HZ8.out] at hyc; have HYc := Lib.hid hyc; clear hb hyc))
              all_goals (go_wp2_with fail)
              all_goals go_meet
              all_goals exact ⟨rfl, _, Lib.hid (Hc.out.mono (by omega))⟩
          case rest =>
            obtain ⟨rfl, P9, HP9⟩ := hcut
            clear HM8
            go_wp2_with fail
            go_roundw
            case rel => exact ⟨k + 1, P9, v8, s8, by go_num, by go_num, by omega, HP9⟩
            case measure => simp [intOf]; omega
      · have hb1' : ¬ (k : Int) < (nn1 : Int) := by omega
        have HP5 := Lib.hid (HP.out.mono (c' := 300 + 2 * k + 1) (by omega))
        clear HP
        revert x0 HP5
        generalize hw5 : wr = w5
        intro x0 HP5
        clear hw5
        go_wp2_with fail
        ((with_reducible refine (gotT_all HP5.out.inv HP5.out.prg).mono ?_); rintro e w6 ⟨A6, rfl, ho6, hb6⟩)
        have HP6 := Lib.hid (HP5.out.below hb6)
        have hg6 : gotL s = [] := if_neg HNN.out
        rw [hg6] at ho6 ⊢
        have HO6 : Hid (SeeH w6 (.slice A6 0 0) []) := Lib.hid ho6.see
        have HN6 : Hid (SeeH w6 (.slice none 0 0) []) := Lib.hid (OwnH.nil w6 0).see
        clear ho6 hb6 hg6 HP5 x0
        go_wp2_with fail
        ((with_reducible refine (same_snap (ep := 0) HO6.out HN6.out (by decide)).mono ?_); rintro e w7 ⟨rfl, hb7⟩)
        rw [decide_eq_true (rfl : ([] : List TH) = [])]
        have HP7 := Lib.hid (HP6.out.below hb7)
        clear hb7 HP6 HO6 HN6
        have hc9' : 300 + 2 * k + 1 ≤ 900 := by omega
        obtain ⟨t0, t1⟩ := HP7.out.boxes
        go_wp2_with fail
        ((with_reducible refine (HP7.out.stepD hc9' HNN.out).mono ?_); rintro e w8 ⟨rfl, v8, s8, h8⟩)
        have HM8 := Lib.hid h8
        clear h8 HP7 t0 t1
        go_upto_region 16 with (fail)
        go_cut [81] (fun x wx => x = .bool false ∧ ∃ P', Hid (PT W p m b T0 q K (300 + 2 * (k + 1)) (k + 1) P' v8 s8 wx))
        case first =>
          have HMD := Lib.hid (HM8.out.below (Below.refl _ _).drew)
          have HY0 := Lib.hid HMD.out.sby
          obtain ⟨z, hz⟩ : ∃ z, z = s8.ln := ⟨_, rfl⟩
          have HZ8 := Lib.hid hz
          rw [← hz] at HY0
          clear hz
          by_cases h0 : z = 0
          · subst h0
            have HD := Lib.hid (decide_eq_true (HZ8.out.symm))
            go_region_held3 (fun w1 => (w1.cell? ⟨K, 0, none⟩ = some (.int .i64 0) ∧ w1.cell? ⟨T0, 0, none⟩ = some (.pointer (some ⟨p, 0, none⟩)) ∧ w1.cell? ⟨T0, 1, none⟩ = some (.pointer (some ⟨b, 0, none⟩))) ∧ Hid (Below W.heap.size W w1))
              (first | exact HY0.out | exact HYa.out | exact HYb.out | exact HYc.out | assumption)
              (first
                | (go_at_call 15; with_reducible refine (HMD.out.stepP hc9').mono ?_; rintro e wa ⟨rfl, P9, ha⟩; rw [HD.out]; have Ha := Lib.hid ha; have hya := ha.sby; rw [← HZ8.out] at hya; have HYa := Lib.hid hya; clear ha hya)
                | (go_at_call 16; with_reducible refine (overT_all Ha.out.prg).mono ?_; rintro e wb ⟨rfl, hb⟩; rw [HD.out]; have Hb := Lib.hid (Ha.out.below hb); have hyb := Hb.out.sby; rw [← HZ8.out] at hyb; have HYb := Lib.hid hyb; clear hb hyb)
                | (go_at_call 17; with_reducible refine (both_same Hb.out.both).mono ?_; rintro e wc ⟨rfl, hb⟩; have Hc := Lib.hid (Hb.out.below hb); have hyc := Hc.out.sby; rw [← HZ8.out] at hyc; have HYc := Lib.hid hyc; clear hb hyc))
            all_goals (go_wp2_with fail)
            all_goals go_meet
            all_goals exact ⟨rfl, _, Lib.hid (Hc.out.mono (by omega))⟩
          · have hd0 : decide (z = 0) = false := decide_eq_false h0
            have hd1 : (z == 0) = false := by simpa using h0
            have HD := Lib.hid (decide_eq_false (show ¬ s8.ln = 0 from fun e => h0 (HZ8.out.trans e)))
            go_region_held3 (fun w1 => (w1.cell? ⟨K, 0, none⟩ = some (.int .i64 z) ∧ w1.cell? ⟨T0, 0, none⟩ = some (.pointer (some ⟨p, 0, none⟩)) ∧ w1.cell? ⟨T0, 1, none⟩ = some (.pointer (some ⟨b, 0, none⟩))) ∧ Hid (Below W.heap.size W w1))
              (first | exact HY0.out | exact HYa.out | exact HYb.out | exact HYc.out | assumption)
              (first
                | (go_at_call 15; with_reducible refine (HMD.out.stepP hc9').mono ?_; rintro e wa ⟨rfl, P9, ha⟩; rw [HD.out]; have Ha := Lib.hid ha; have hya := ha.sby; rw [← HZ8.out] at hya; have HYa := Lib.hid hya; clear ha hya)
                | (go_at_call 16; with_reducible refine (overT_all Ha.out.prg).mono ?_; rintro e wb ⟨rfl, hb⟩; rw [HD.out]; have Hb := Lib.hid (Ha.out.below hb); have hyb := Hb.out.sby; rw [← HZ8.out] at hyb; have HYb := Lib.hid hyb; clear hb hyb)
                | (go_at_call 17; with_reducible refine (both_same Hb.out.both).mono ?_; rintro e wc ⟨rfl, hb⟩; have Hc := Lib.hid (Hb.out.below hb); have hyc := Hc.out.sby; rw [← HZ8.out] at hyc; have HYc := Lib.hid hyc; clear hb hyc))
            all_goals (go_wp2_with fail)
            all_goals go_meet
            all_goals exact ⟨rfl, _, Lib.hid (Hc.out.mono (by omega))⟩
        case rest =>
          obtain ⟨rfl, P9, HP9⟩ := hcut
          clear HM8
          go_wp2_with fail
          go_roundw
          case rel => exact ⟨k + 1, P9, v8, s8, by go_num, by go_num, by omega, HP9⟩
          case measure => simp [intOf]; omega
set_option maxRecDepth 100000 in
set_option maxHeartbeats 4000000 in
theorem splay_long (ao0 : Option Addr) (nn0 cap0 : Nat) (ao1 : Option Addr) (nn1 cap1 : Nat) (W : World) (hM : LayM W) (h : ¬ (nn0 ≤ 300 ∧ nn1 ≤ 400)) :
    Calls Tryd.prog 3 #[.slice ao0 nn0 cap0, .slice ao1 nn1 cap1] W fun e W' => e = .returned (.bool true) ∧ Below W.heap.size W W' := by
  have HM := Lib.hid hM
  clear hM
  by_cases h0 : nn0 ≤ 300
  · have q1 : ¬ ((300 : Int) < (nn0 : Int)) := by omega
    have q2 : (nn0 : Int) ≤ 300 := by omega
    have q3 : (400 : Int) < (nn1 : Int) := by omega
    clear h h0
    go_enter Tryd.func3, Tryd.ntmps3
    go_wp2_with fail
    ((with_reducible refine (lives14_any HM.out).mono ?_); rintro e w1 ⟨rfl, hb⟩)
    have HB := Lib.hid hb
    clear hb
    go_wp2_with fail
    go_ret
    exact ⟨rfl, HB.out⟩
  · have q1 : (300 : Int) < (nn0 : Int) := by omega
    clear h h0
    go_enter Tryd.func3, Tryd.ntmps3
    go_wp2_with fail
    ((with_reducible refine (lives14_any HM.out).mono ?_); rintro e w1 ⟨rfl, hb⟩)
    have HB := Lib.hid hb
    clear hb
    go_wp2_with fail
    go_ret
    exact ⟨rfl, HB.out⟩
end Go.Proofs.YtapcgikamldchaaDoor
