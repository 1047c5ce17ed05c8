/-
  The law's examples (lives), walked: they return true; condition: the tables as laid.
-/
import Derived.Test.YtlcbinckbkdgdaaDoorB16
namespace Go.Proofs.YtlcbinckbkdgdaaDoor
open Go.RowKit Go.Maps

theorem made_to {p b : Nat} {M M' : MV} {W : World} {o : AX} {s u : Int} (F : VX p b M W) (hs : M.s.st < 900000) (h : iterA M 8 = (o, M')) (hgo : ∀ j, j < 8 → (iterA M j).1.o.ln ≠ 0) (h0 : o.o.ln = 0) (hg : o.o.got = true) (hr : refV o = .agg #[.int .i64 s, .int .u32 u, .bool false]) :
    Calls Tryd.prog 25 #[.pointer (some ⟨p, 0, none⟩)] W fun e w' => e = .returned (.tuple #[.agg #[.int .i64 s, .int .u32 u, .bool false], .bool true]) ∧ VX p b M' w' ∧ Onl p b [] W w' := by
  have := made_any 8 (by decide) F hs (by rw [h]; exact h0) hgo
  rw [h, hg, hr] at this
  exact this
theorem onl_fill3' {p b g : Nat} {d0 d1 d2 : Value} (X : World) : Onl p b [g] X (fill3 g d0 d1 d2 X) :=
  ((Onl.setCell (q := g) X (List.mem_singleton.2 rfl) 0 d0).trans (.setCell _ (List.mem_singleton.2 rfl) 1 d1)).trans (.setCell _ (List.mem_singleton.2 rfl) 2 d2)
/-- .. behind five Allocs: the last one's slot is freed, and got again. -/
theorem liv_then {M : MV} (h : Liv 5 M) : (iterF 3 9 M 6).1.o.ln = 0 ∧ (iterF 3 9 M 6).2 = freedM M 3 ∧ (freedM M 3).s.st = 72 ∧ ∃ o M', iterA (freedM M 3) 8 = (o, M') ∧ (∀ j, j < 8 → (iterA (freedM M 3) j).1.o.ln ≠ 0) ∧ o.o.ln = 0 ∧ o.o.got = true ∧ refV o = .agg #[.int .i64 3, .int .u32 1, .bool false] ∧ M'.V (adB 3) = 5 ∧ M'.s.st = 80 := by
  have hst : Stk (maV M.V).ms (downS 3) 13 := h.stk
  have hs : 0 ≤ (3 : Int) ∧ (3 : Int) < 256 := by decide
  have hsst : (maV M.V).sst (segF 3) ≠ 2 := by rw [show segF 3 = 0 from rfl, h.sst]; decide
  have ho : (maV M.V).hdr 3 = headerW 1 0 := h.own (by decide)
  have hg0 : gW (headerW 1 0) = 0 := gW_header 1 0 (by decide) (by decide) (by decide) (by decide)
  have hg1 : gW (headerW 0 1) = 1 := gW_header 0 1 (by decide) (by decide) (by decide) (by decide)
  have hx3 : (3 : Int) ∉ downS 3 := down_notin 3
  have hgw : gW (M.V (adH 3)) = 0 := by rw [← ma_hdr (V := M.V) hs, ho]; exact hg0
  obtain ⟨f1, _, f3, f4, _⟩ := free_alone (m := 9) hst hx3 hs (by decide) hsst (by rw [hgw]; decide)
  obtain ⟨g1, g2, g3, g4⟩ := freed_ma hst hx3 hs (by decide) hsst (m := 9) (by rw [hgw]; decide)
  have hh : (maV (freedM M 3).V).hdr 3 = headerW 0 1 := by
    rw [g1]
    show (if (3 : Int) = 3 then headerW 0 (gW ((maV M.V).hdr 3) + 1) else (maV M.V).hdr 3) = _
    rw [if_pos rfl, ho, hg0]
    rfl
  have hst4 : (freedM M 3).s.st = 72 := by
    show M.s.st + 1 + 1 + 1 + 1 + 1 + 1 = 72
    rw [h.st]
    rfl
  obtain ⟨e, k1, k2⟩ := made_alone (s := 3) (S := downS 3) f4 (by rw [g2]; exact hsst)
  obtain ⟨m1, m2, m3⟩ := made_era (s := 3) (S := downS 3) f4
  refine ⟨f1, f3, hst4, _, _, k1, k2, rfl, rfl, ?_, m2.trans (g4.trans h.era), by rw [m3, hst4]; rfl⟩
  unfold refV
  rw [if_pos rfl]
  show (.agg #[.int .i64 3, .int .u32 (gW ((freedM M 3).V (adH 3))), .bool false] : Value) = _
  rw [← ma_hdr (V := (freedM M 3).V) hs, hh, hg1]
/-- Two refs of the law's own, and the memory behind i Allocs. -/
structure LvW (W : World) (p b g i : Nat) (v : Value) (w : World) : Prop where
  mem : ∃ M, Liv i M ∧ VX p b M w
  k1 : ∃ u, v = .int .i64 u ∧ Bq g 34 [.int .i64 u, .int .u32 0, .bool false] w
  k2 : Bq (g + 1) 34 [.int .i64 0, .int .u32 0, .bool false] w
  low : Below W.heap.size W w
  gW : W.heap.size ≤ g
set_option maxRecDepth 100000 in
set_option maxHeartbeats 8000000 in
theorem lives_any (W : World) (hL : Lay W) (hM : LayM W) : Calls Tryd.prog 6 #[] W fun e w' => e = .returned (.bool true) ∧ Below W.heap.size W w' := by
  have h1W : 1 < W.heap.size := by have := hM.1; have := hL.1; omega
  have hbeg : Calls Tryd.prog 20 #[.int .i64 1] W (BegP 1 W) := begin8_any 1 (by decide) W hL hM
  clear hL hM
  go_enter Tryd.func6, Tryd.ntmps6
  go_wp2_with fail
  ((with_reducible refine hbeg.mono ?_); rintro e w1 ⟨p, b, M, rfl, hB, F, hlow, hp, hb⟩)
  have HB := Lib.hid hB
  have HF := Lib.hid F
  have HLOW := Lib.hid hlow
  have hst : M.s.st < 1000000 := by rw [hB.st]; decide
  clear hbeg hB F hlow
  go_wp2_with fail
  ((with_reducible refine (vx_storeE HF.out hst).mono ?_); rintro e w2 ⟨rfl, F2, h2⟩)
  have HF2 := Lib.hid F2
  have HLOW2 := Lib.hid (HLOW.out.trans ((Only3.of_only (q := p) h2).below (B := W.heap.size) hp hb hp HLOW.out.size))
  have HV := Lib.hid (liv0 HB.out)
  clear F2 h2 HF HLOW HB hst
  have hX : Below w2.heap.size w2 ((w2.alloc (.cells #[.int .i64 0, .int .u32 0, .bool false] 34)).alloc (.cells #[.int .i64 0, .int .u32 0, .bool false] 34)) := ((Below.refl _ _).alloc (Nat.le_refl _) _).alloc (by simp) _
  have k1 : Bq w2.heap.size 34 [.int .i64 0, .int .u32 0, .bool false] ((w2.alloc (.cells #[.int .i64 0, .int .u32 0, .bool false] 34)).alloc (.cells #[.int .i64 0, .int .u32 0, .bool false] 34)) := (Bq.new w2 [.int .i64 0, .int .u32 0, .bool false] _).below ((Below.refl _ _).alloc (Nat.le_refl _) _)
  have k2 : Bq (w2.heap.size + 1) 34 [.int .i64 0, .int .u32 0, .bool false] ((w2.alloc (.cells #[.int .i64 0, .int .u32 0, .bool false] 34)).alloc (.cells #[.int .i64 0, .int .u32 0, .bool false] 34)) := by
    have := Bq.new (w2.alloc (.cells #[.int .i64 0, .int .u32 0, .bool false] 34)) [.int .i64 0, .int .u32 0, .bool false] 34
    simpa using this
  have HX := Lib.hid hX
  have HK := Lib.hid (show LvW W p b w2.heap.size 0 (.int .i64 0) _ from ⟨⟨_, HV.out, HF2.out.below hX⟩, ⟨0, rfl, k1⟩, k2, HLOW2.out.trans (hX.mono HLOW2.out.size), HLOW2.out.size⟩)
  have HM2 := Lib.hid (HF2.out.below hX)
  have hst2 : (stM M adEr 5).s.st = 26 := by rw [HV.out.st]; rfl
  clear hX k1 k2 HF2 HLOW2
  go_wp2_with fail
  revert HX HK HM2
  generalize (w2.alloc (.cells #[.int .i64 0, .int .u32 0, .bool false] 34)).alloc (.cells #[.int .i64 0, .int .u32 0, .bool false] 34) = w3
  intro HX HK HM2
  clear HX
  generalize w2.heap.size = g at *
  have hsteps := HM2.out.steps
  rw [hst2] at hsteps
  clear hst2 HV HM2 M
  ((with_reducible refine hsteps.mono ?_); rintro e w4 ⟨rfl, rfl⟩)
  clear hsteps
  go_wp2_with fail
  go_loopw [6] (fun j wr => ∃ i : Nat, i ≤ 5 ∧ j = .int .i64 (i : Int) ∧ Hid (∃ v, LvW W p b g i v wr ∧ (1 ≤ i → v = .int .i64 (8 - i)))) (fun j _ => 5 - (intOf j).toNat)
  case atStart => exact ⟨0, Nat.zero_le _, rfl, Lib.hid ⟨_, HK.out, fun h => by omega⟩⟩
  case round =>
    clear HK
    obtain ⟨i, hi, rfl, hr⟩ := hrel
    have hge : (0 : Int) ≤ (i : Int) := by omega
    obtain ⟨v, ⟨⟨M, hV, F⟩, ⟨u, rfl, hk1⟩, hk2, hlow, hgW⟩, hv⟩ := hr.out
    by_cases hlt : i < 5
    · have hlt' : (i : Int) < 5 := by omega
      obtain ⟨o, n1, n2, n3, n4, n5, n6, _⟩ := liv_next hV hlt
      have hms : M.s.st < 900000 := by rw [hV.st]; omega
      have hne1 := F.ne (by decide) hk1
      have hne2 := F.ne (by decide) hk2
      have hmade := made_to F hms n1 n2 n3 n4 n5
      have HK1 := Lib.hid hk1
      have HK2 := Lib.hid hk2
      have HLOW := Lib.hid hlow
      have HN6 := Lib.hid n6
      clear hV F hk1 hk2 hlow n1 n2 n3 n4 n5 n6 hms hr hv
      go_wp2_with fail
      ((with_reducible refine hmade.mono ?_); rintro e w5 ⟨rfl, F5, h5⟩)
      have hk1 := HK1.out.onl h5 hne1.1 hne1.2 (by simp)
      have HK25 := Lib.hid (HK2.out.onl h5 hne2.1 hne2.2 (by simp))
      obtain ⟨b0, b1, b2, z0, z1, z2⟩ := Bq.s3 hk1
      have HKF := Lib.hid (hk1.fill3 (d0 := .int .i64 (7 - (i : Int))) (d1 := .int .u32 0) (d2 := .bool false))
      have HK2F := Lib.hid (show Bq (g + 1) 34 [.int .i64 0, .int .u32 0, .bool false] (fill3 g (.int .i64 (7 - (i : Int))) (.int .u32 0) (.bool false) w5) from ((HK25.out.setO (by omega) 0 _).setO (by omega) 1 _).setO (by omega) 2 _)
      have HF5 := Lib.hid (vx_fill3 (d0 := .int .i64 (7 - (i : Int))) (d1 := .int .u32 0) (d2 := .bool false) F5 hne1.1 hne1.2 (by omega))
      have HLO := Lib.hid (HLOW.out.trans (((h5.more (E' := [g]) (by simp)).trans (onl_fill3' (d0 := .int .i64 (7 - (i : Int))) (d1 := .int .u32 0) (d2 := .bool false) w5)).below (B := W.heap.size) hp hb (fun x hx => by simp only [List.mem_cons, List.not_mem_nil, or_false] at hx; omega) HLOW.out.size))
      clear hk1 F5 h5 HK1 HK2 HLOW HK25 hmade
      go_wp2_with fail
      go_roundw
      case rel => exact ⟨i + 1, by omega, by go_num, Lib.hid ⟨.int .i64 (7 - (i : Int)), ⟨⟨_, HN6.out, HF5.out⟩, ⟨_, rfl, HKF.out⟩, HK2F.out, HLO.out, hgW⟩, fun _ => by rw [show (8 : Int) - ((i + 1 : Nat) : Int) = 7 - (i : Int) by omega]⟩⟩
      case measure => simp [intOf]; omega
    · have hi5 : i = 5 := by omega
      have hge5 : (5 : Int) ≤ (i : Int) := by omega
      rw [hi5] at hV hv
      obtain rfl : u = 3 := by
        have := hv (by decide)
        simpa using this
      have hsteps := F.steps
      have hst : M.s.st = 66 := by rw [hV.st]; rfl
      rw [hst] at hsteps
      obtain ⟨x1, x2, x3, o, M', y1, y2, y3, y4, y5, y6, y7⟩ := liv_then hV
      have X1 := Lib.hid x1
      have X2 := Lib.hid x2
      have c0 : wr.cell? ⟨g, 0, none⟩ = some (.int .i64 3) := hk1.cell 0
      have hgp := F.ne (by decide) hk1
      have hgp2 := F.ne (by decide) hk2
      have hgl := hk2.lt
      have HF := Lib.hid F
      have HK1 := Lib.hid hk1
      have HK2 := Lib.hid hk2
      have HLOW := Lib.hid hlow
      have Y1 := Lib.hid y1
      have Y2 := Lib.hid y2
      have Y3 := Lib.hid y3
      have Y4 := Lib.hid y4
      have Y5 := Lib.hid y5
      have Y6 := Lib.hid y6
      clear hr hv hV F hk1 hk2 hlow x1 x2 y1 y2 y3 y4 y5 y6 hi5 hlt hi
      go_wp2_with fail
      ((with_reducible refine hsteps.mono ?_); rintro e w4 ⟨rfl, rfl⟩)
      clear hsteps
      go_wp2_with fail
      ((with_reducible refine (newFree_yes 9 (s := 3) (by decide) (by decide) _).mono ?_); rintro e w5 ⟨q, r, rfl, hr, hq, kq, kr, hb5⟩)
      have HS := Lib.hid (show SoleF wr p b q (iterF 3 9 M 0).1 (iterF 3 9 M 0).2 w5 from SoleF.begin (by decide) (by decide) (by decide) HF.out hr hq kq kr hb5)
      have h1r : 1 < wr.heap.size := by have := HLOW.out.size; omega
      clear hr hq kq kr hb5 c0 HF
      rename World => wA
      go_wp2_with fail
      go_loopw [9] (fun j wq => ∃ k : Nat, k ≤ 6 ∧ j = .int .i64 (k : Int) ∧ Hid (SoleF wr p b q (iterF 3 9 M k).1 (iterF 3 9 M k).2 wq)) (fun j _ => 6 - (intOf j).toNat)
      case atStart => exact ⟨0, Nat.zero_le _, rfl, HS⟩
      case round =>
        clear HS
        obtain ⟨k, hk, rfl, hr⟩ := hrel
        rename World => wA
        have hkg : (0 : Int) ≤ (k : Int) := by omega
        by_cases hk6 : k < 6
        · have hk6' : (k : Int) < 6 := by omega
          have hst2 : (iterF 3 9 M k).2.s.st < 1000000 := by have := iterF_st 3 9 M k; omega
          go_wp2_with fail
          ((with_reducible refine (hr.out.step h1r hst2).mono ?_); rintro e w6 ⟨rfl, h6⟩)
          have HS := Lib.hid (show SoleF wr p b q (iterF 3 9 M (k + 1)).1 (iterF 3 9 M (k + 1)).2 w6 from h6)
          clear h6 hr hst2
          generalize ((frX (iterF 3 9 M k).1 (iterF 3 9 M k).2).1.o.ln == 0) = bb
          go_wp2_with fail
          go_roundw
          case rel => exact ⟨k + 1, by omega, by go_num, HS⟩
          case measure => simp [intOf]; omega
        · have hk6' : (6 : Int) ≤ (k : Int) := by omega
          have hkk : k = 6 := by omega
          have hr2 := hr.out
          rw [hkk] at hr2
          have hov := hr2.over
          rw [X1.out] at hov
          have hfm := hr2.mem
          rw [X2.out] at hfm
          have hmade := fun (X : World) (hb : Below wA.heap.size wA X) => made_to (hfm.below hb) (by rw [x3]; decide) Y1.out Y2.out Y3.out Y4.out Y5.out
          have HK1A := Lib.hid (HK1.out.onl hr2.low hgp.1 hgp.2 (by simp))
          have HK2A := Lib.hid (HK2.out.onl hr2.low hgp2.1 hgp2.2 (by simp))
          have HLOWA := Lib.hid (HLOW.out.trans (hr2.low.below (B := W.heap.size) hp hb (fun x hx => by cases hx) HLOW.out.size))
          have hma := hmade wA (Below.refl _ _)
          clear hr hr2 hkk hfm hmade HK1 HK2 HLOW
          go_wp2_with fail
          ((with_reducible refine hov.mono ?_); rintro e w6 ⟨rfl, rfl⟩)
          go_wp2_with fail
          ((with_reducible refine hma.mono ?_); rintro e w7 ⟨rfl, F7, h7⟩)
          have hk1 := HK1A.out.onl h7 hgp.1 hgp.2 (by simp)
          have hk2 := HK2A.out.onl h7 hgp2.1 hgp2.2 (by simp)
          obtain ⟨b0, b1, b2, z0, z1, z2⟩ := Bq.s3 hk2
          obtain ⟨d0, d1, d2, _, _, _⟩ := Bq.s3 hk1
          have HKF := Lib.hid (hk2.fill3 (d0 := .int .i64 3) (d1 := .int .u32 1) (d2 := .bool false))
          have HK1F := Lib.hid (show Bq g 34 [.int .i64 3, .int .u32 0, .bool false] (fill3 (g + 1) (.int .i64 3) (.int .u32 1) (.bool false) w7) from ((hk1.setO (by omega) 0 _).setO (by omega) 1 _).setO (by omega) 2 _)
          have HF7 := Lib.hid (vx_fill3 (d0 := .int .i64 3) (d1 := .int .u32 1) (d2 := .bool false) F7 hgp2.1 hgp2.2 (by omega))
          have HLO := Lib.hid (HLOWA.out.trans (((h7.more (E' := [g + 1]) (by simp)).trans (onl_fill3' (d0 := .int .i64 3) (d1 := .int .u32 1) (d2 := .bool false) w7)).below (B := W.heap.size) hp hb (fun x hx => by simp only [List.mem_cons, List.not_mem_nil, or_false] at hx; omega) HLOWA.out.size))
          have hld := vx_loadB3 HF7.out (by rw [y7]; decide)
          rw [Y6.out] at hld
          obtain ⟨e0, e1, e2, _, _, _⟩ := Bq.s3 HKF.out
          obtain ⟨f0, f1, f2, _, _, _⟩ := Bq.s3 HK1F.out
          have q1 := eq_ref3 0
          have q2 := eq_ref3 1
          clear hk1 hk2 F7 h7 HK1A HK2A HLOWA hma hov HKF HK1F HF7
          unfold fill3 at hld e0 e1 e2 f0 f1 f2
          go_wp2_with fail
          ((with_reducible refine hld.mono ?_); rintro e w8 ⟨rfl, F8, h8⟩)
          have HL8 := Lib.hid (HLO.out.trans ((Only3.of_only (q := p) h8).below (B := W.heap.size) hp hb hp HLO.out.size))
          clear h8 F8 hld
          go_wp2_with fail
          go_ret
          exact ⟨rfl, HL8.out⟩
end Go.Proofs.YtlcbinckbkdgdaaDoor
