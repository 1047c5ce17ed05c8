/-
  The law AllocsRound, walked: it returns true and only makes memory of its own; condition: the tables as laid.
-/
import Derived.Test.YtlcbinckbkdgdaaDoorB19
namespace Go.Proofs.YtlcbinckbkdgdaaDoor
open Go.RowKit Go.Maps

theorem made_ln {p b : Nat} {M M' : MV} {W : World} {o : AX} (F : VX p b M W) (hs : M.s.st < 900000) (h : iterA M 8 = (o, M')) (hgo : ∀ j, j < 8 → (iterA M j).1.o.ln ≠ 0) (h0 : o.o.ln = 0) :
    Calls Tryd.prog 25 #[.pointer (some ⟨p, 0, none⟩)] W fun e w' => e = .returned (.tuple #[refV o, .bool o.o.got]) ∧ VX p b M' w' ∧ Onl p b [] W w' := by
  have := made_any 8 (by decide) F hs (by rw [h]; exact h0) hgo
  rw [h] at this
  exact this
theorem made_no {p b : Nat} {M : MV} {W : World} (F : VX p b M W) (hs : M.s.st < 900000) (h : wSlot (M.V adF) < 0) :
    Calls Tryd.prog 25 #[.pointer (some ⟨p, 0, none⟩)] W fun e w' => e = .returned (.tuple #[.agg #[.int .i64 (-1), .int .u32 0, .bool false], .bool false]) ∧ VX p b (ldM M adF) w' ∧ Onl p b [] W w' := by
  obtain ⟨h1, h2⟩ := made_none h
  have := made_any 1 (by decide) F hs (by rw [h1]) h2
  rw [h1] at this
  exact this
theorem SoleF.loaded {W w w' : World} {p b q : Nat} {f : FX} {M : MV} {x : Ad} (h : SoleF W p b q f M w) (F : VX p b (ldM M x) w') (ho : Only p b w w') : SoleF W p b q f (ldM M x) w' := by
  obtain ⟨⟨r, r1, hr, g1, g2⟩, hn, F0, low, old⟩ := h
  refine ⟨⟨r, r1, hr.keep F0 ho, g1, g2⟩, hn, F, low.trans (.of_only ho), old⟩
theorem u8_mod50 {z : Int} (h : U8 z) : ∃ m : Nat, m < 50 ∧ Int.tmod z 50 = (m : Int) ∧ (m : Int) % 4294967296 = (m : Int) ∧ IntKind.u8.wrap (m : Int) = (m : Int) ∧ IntKind.u32.wrap (m : Int) = (m : Int) := by
  obtain ⟨a, b⟩ := h
  refine ⟨(z % 50).toNat, by omega, ?_, by omega, ?_, ?_⟩
  · rw [Int.tmod_eq_emod_of_nonneg a]
    omega
  · simp [IntKind.wrap, IntKind.bits, IntKind.signed]
    omega
  · simp [IntKind.wrap, IntKind.bits, IntKind.signed]
    omega
set_option maxRecDepth 100000 in
set_option maxHeartbeats 8000000 in
theorem round_any (z : Int) (W : World) (hz : U8 z) (hL : Lay W) (hM : LayM W) : Calls Tryd.prog 5 #[.int .u8 z] W fun e w' => e = .returned (.bool true) ∧ Below W.heap.size W w' := by
  obtain ⟨m, hm, e1, e2, e3, e4⟩ := u8_mod50 hz
  have h1W : 1 < W.heap.size := by have := hM.1; have := hL.1; omega
  have hbeg : Calls Tryd.prog 20 #[.int .i64 1] W (BegP 1 W) := begin8_any 1 (by decide) W hL hM
  clear hL hM hz
  go_enter Tryd.func5, Tryd.ntmps5
  go_wp2_with fail
  ((with_reducible refine hbeg.mono ?_); rintro e w1 ⟨p, b, M, rfl, hB, F, hlow, hp, hb⟩)
  have HR := Lib.hid (show ∃ M, RdA 0 M ∧ VX p b M w1 ∧ Below W.heap.size W w1 from ⟨M, rdA0 hB, F, hlow⟩)
  clear hbeg hB F hlow e1 e2 e3 e4 M
  go_wp2_with fail
  go_loopw [6] (fun j wr => ∃ i : Nat, i ≤ 7 ∧ j = .int .i64 (i : Int) ∧ Hid (∃ M, RdA i M ∧ VX p b M wr ∧ Below W.heap.size W wr)) (fun j _ => 7 - (intOf j).toNat)
  case atStart => exact ⟨0, Nat.zero_le _, rfl, HR⟩
  case round =>
    clear HR
    obtain ⟨i, hi, rfl, hr⟩ := hrel
    have hge : (0 : Int) ≤ (i : Int) := by omega
    obtain ⟨M, hV, F, hlow⟩ := hr.out
    by_cases hlt : i < 7
    · have hlt' : (i : Int) < 7 := by omega
      obtain ⟨o, M', n1, n2, n3, n4⟩ := rdA_next hV hlt
      have hmade := made_ln F (by rw [hV.st]; omega) n1 n2 n3
      obtain ⟨s, u, hsu⟩ := ref_parts o
      rw [hsu] at hmade
      have HN := Lib.hid n4
      have HLOW := Lib.hid hlow
      clear hV F hlow n1 n2 n3 n4 hr hsu
      generalize o.o.got = gg at hmade
      go_wp2_with fail
      ((with_reducible refine hmade.mono ?_); rintro e w2 ⟨rfl, F2, h2⟩)
      have HR := Lib.hid (show ∃ M, RdA (i + 1) M ∧ VX p b M w2 ∧ Below W.heap.size W w2 from ⟨M', HN.out, F2, HLOW.out.trans (h2.below (B := W.heap.size) hp hb (fun x hx => by cases hx) HLOW.out.size)⟩)
      clear F2 h2 hmade HN HLOW
      go_wp2_with fail
      go_roundw
      case rel => exact ⟨i + 1, by omega, by go_num, HR⟩
      case measure => simp [intOf]; omega
    · have hi7 : i = 7 := by omega
      have hge7 : (7 : Int) ≤ (i : Int) := by omega
      rw [hi7] at hV
      have HR := Lib.hid (show (∃ M, VX p b M wr ∧ Below W.heap.size W wr ∧ Rd 0 M) from ⟨M, F, hlow, rd0 hV⟩)
      clear hV F hlow hr hi7 hi M hlt
      rename World => wA
      go_wp2_with fail
      go_loopw [7] (fun j wr => ∃ g : Nat, g ≤ m + 1 ∧ j = .int .u32 (g : Int) ∧ Hid (∃ M, VX p b M wr ∧ Below W.heap.size W wr ∧ (g ≤ m → Rd g M) ∧ (g = m + 1 → wSlot (M.V adF) < 0 ∧ M.V (adP 0) = 1 ∧ M.s.st < 5000))) (fun j _ => m + 1 - (intOf j).toNat)
      case atStart =>
        obtain ⟨M, h1, h2, h3⟩ := HR.out
        exact ⟨0, Nat.zero_le _, rfl, Lib.hid ⟨M, h1, h2, fun _ => h3, fun h => by omega⟩⟩
      case round =>
        clear HR
        obtain ⟨g, hg, rfl, hr⟩ := hrel
        rename World => wA
        obtain ⟨M, F, hlow, hrd, hend⟩ := hr.out
        have hgg : (0 : Int) ≤ (g : Int) := by omega
        by_cases hgm : g ≤ m
        · have hgm' : (g : Int) ≤ (m : Int) := by omega
          obtain ⟨o, M', n1, n2, n3, n4, n5, n6⟩ := rd_made (hrd hgm) (by omega)
          have hmade := made_to F (by rw [(hrd hgm).st]; omega) n1 n2 n3 n4 n5
          have HN := Lib.hid n6
          have HLOW := Lib.hid hlow
          have hst' := n6.st
          clear hr F hlow hrd hend n1 n2 n3 n4 n5 n6
          go_wp2_with fail
          ((with_reducible refine hmade.mono ?_); rintro e w2 ⟨rfl, F2, h2⟩)
          have hLOW2 := HLOW.out.trans (h2.below (B := W.heap.size) hp hb (fun x hx => by cases hx) HLOW.out.size)
          have hX : Below w2.heap.size w2 (w2.alloc (.cells #[.int .i64 0, .int .u32 (g : Int), .bool false] 34)) := (Below.refl _ _).alloc (Nat.le_refl _) _
          have HKF := Lib.hid (Bq.new w2 [.int .i64 0, .int .u32 (g : Int), .bool false] 34)
          have HF2 := Lib.hid (F2.below hX)
          have HLO := Lib.hid (hLOW2.trans (hX.mono hLOW2.size))
          obtain ⟨f0, f1, f2, _, _, _⟩ := Bq.s3 HKF.out
          have hw3 := HLO.out.size
          have q1 := neq_same 0 (g : Int) false
          clear hmade F2 h2 hX hLOW2 HLOW
          go_wp2_with fail
          revert HKF HF2 HLO f0 f1 f2 hw3
          generalize w2.alloc (.cells #[.int .i64 0, .int .u32 (g : Int), .bool false] 34) = w3
          intro HKF HF2 HLO f0 f1 f2 hw3
          clear q1
          ((with_reducible refine (newFree_yes (s := 0) (m : Int) (by decide) (by decide) w3).mono ?_); rintro e w5 ⟨q, r, rfl, hr, hq, kq, kr, hb5⟩)
          have HS := Lib.hid (show SoleF w3 p b q (iterF 0 m M' 0).1 (iterF 0 m M' 0).2 w5 from SoleF.begin (by decide) (by decide) (by omega) HF2.out hr hq kq kr hb5)
          have h1r : 1 < w3.heap.size := by omega
          clear hr hq kq kr hb5 f0 f1 f2 HF2 HKF
          go_wp2_with fail
          rename World => wA
          go_loopw [11] (fun j wq => ∃ k : Nat, k ≤ 6 ∧ j = .int .i64 (k : Int) ∧ Hid (SoleF w3 p b q (iterF 0 m M' k).1 (iterF 0 m M' k).2 wq)) (fun j _ => 6 - (intOf j).toNat)
          case atStart => exact ⟨0, Nat.zero_le _, rfl, HS⟩
          case round =>
            clear HS
            obtain ⟨k, hk, rfl, hr⟩ := hrel
            rename World => wA
            have hkg : (0 : Int) ≤ (k : Int) := by omega
            by_cases hk6 : k < 6
            · have hk6' : (k : Int) < 6 := by omega
              have hst2 : (iterF 0 m M' k).2.s.st < 1000000 := by have := iterF_st 0 m M' k; omega
              go_wp2_with fail
              ((with_reducible refine (hr.out.step h1r hst2).mono ?_); rintro e w6 ⟨rfl, h6⟩)
              have HS := Lib.hid (show SoleF w3 p b q (iterF 0 m M' (k + 1)).1 (iterF 0 m M' (k + 1)).2 w6 from h6)
              clear h6 hr hst2
              generalize ((frX (iterF 0 m M' k).1 (iterF 0 m M' k).2).1.o.ln == 0) = bb
              go_wp2_with fail
              go_roundw
              case rel => exact ⟨k + 1, by omega, by go_num, HS⟩
              case measure => simp [intOf]; omega
            · have hk6' : (6 : Int) ≤ (k : Int) := by omega
              have hkk : k = 6 := by omega
              have hr2 := hr.out
              rw [hkk] at hr2
              have HR2 := Lib.hid hr2
              clear hr hkk hk hr2
              by_cases hgl : g < m
              · have hgl' : (g : Int) < (m : Int) := by omega
                have hgne : ((g : Int) == (m : Int)) = false := by simp; omega
                have hgw : IntKind.u32.wrap ((g : Int) + 1) = (g : Int) + 1 := by rw [IntKind.wrap_u32]; omega
                obtain ⟨x1, x2, x3, x4, x5⟩ := rd_freed HN.out hgl (by omega)
                obtain ⟨s1, s2⟩ := stS_of (s := 0) (g := (g : Int) + 1) (by decide) (by decide) (by omega) (by omega)
                have hhd := header8_any HR2.out.mem (by rw [x4]; omega) in0
                rw [x3, s1, s2] at hhd
                have X1 := Lib.hid x1
                have X2 := Lib.hid x2
                have X5 := Lib.hid (x5 (adH 0))
                clear x1 x2 x3 x4 x5 s1 s2
                go_wp2_with fail
                ((with_reducible refine hhd.mono ?_); rintro e w6 ⟨rfl, F6, h6⟩)
                have hS6 : SoleF w3 p b q (iterF 0 m M' 6).1 (ldM (iterF 0 m M' 6).2 (adH 0)) w6 := HR2.out.loaded F6 h6
                have hov := hS6.over
                have htl := hS6.told X1.out
                rw [X1.out] at hov
                rw [X2.out] at htl
                have HR := Lib.hid (show ∃ M, VX p b M w6 ∧ Below W.heap.size W w6 ∧ (g + 1 ≤ m → Rd (g + 1) M) ∧ (g + 1 = m + 1 → wSlot (M.V adF) < 0 ∧ M.V (adP 0) = 1 ∧ M.s.st < 5000) from ⟨_, F6, HLO.out.trans (hS6.low.below (B := W.heap.size) hp hb (fun x hx => by cases hx) hw3), fun _ => X5.out, fun h => by omega⟩)
                clear hhd F6 h6 hS6 HR2 X1 X2 X5
                go_wp2_with fail
                ((with_reducible refine hov.mono ?_); rintro e w7 ⟨rfl, rfl⟩)
                go_wp2_with fail
                ((with_reducible refine htl.mono ?_); rintro e w7 ⟨rfl, rfl⟩)
                go_wp2_with fail
                go_roundw
                case rel => exact ⟨g + 1, by omega, by go_num, HR⟩
                case measure => simp [intOf]; omega
              · have hgm2 : g = m := by omega
                subst hgm2
                obtain ⟨x1, x2, x3, x4, x5, x6⟩ := rd_gone HN.out (by omega)
                obtain ⟨s1, s2⟩ := stS_of (s := 4) (g := (g : Int)) (by decide) (by decide) (by omega) (by omega)
                have hhd := header8_any HR2.out.mem (by rw [x4]; omega) in0
                rw [x3, s1, s2] at hhd
                have hgw : IntKind.u32.wrap ((g : Int) + 1) = (g : Int) + 1 := by rw [IntKind.wrap_u32]; omega
                have X1 := Lib.hid x1
                have X2 := Lib.hid x2
                have X4 := Lib.hid x4
                have X5 := Lib.hid x5
                have X6 := Lib.hid x6
                clear x1 x2 x3 x4 x5 x6 s1 s2
                go_wp2_with fail
                ((with_reducible refine hhd.mono ?_); rintro e w6 ⟨rfl, F6, h6⟩)
                have hS6 : SoleF w3 p b q (iterF 0 g M' 6).1 (ldM (iterF 0 g M' 6).2 (adH 0)) w6 := HR2.out.loaded F6 h6
                have hov := hS6.over
                have htl := hS6.told X1.out
                rw [X1.out] at hov
                rw [X2.out] at htl
                have HR := Lib.hid (show ∃ M, VX p b M w6 ∧ Below W.heap.size W w6 ∧ (g + 1 ≤ g → Rd (g + 1) M) ∧ (g + 1 = g + 1 → wSlot (M.V adF) < 0 ∧ M.V (adP 0) = 1 ∧ M.s.st < 5000) from ⟨_, F6, HLO.out.trans (hS6.low.below (B := W.heap.size) hp hb (fun x hx => by cases hx) hw3), fun h => by omega, fun _ => ⟨X5.out, X6.out, by show (iterF 0 g M' 6).2.s.st + 1 < 5000; rw [X4.out]; omega⟩⟩)
                clear hhd F6 h6 hS6 HR2 X1 X2 X5 X4 X6
                go_wp2_with fail
                ((with_reducible refine hov.mono ?_); rintro e w7 ⟨rfl, rfl⟩)
                go_wp2_with fail
                ((with_reducible refine htl.mono ?_); rintro e w7 ⟨rfl, rfl⟩)
                go_wp2_with fail
                go_roundw
                case rel =>
                  obtain ⟨M, r1, r2, r3, r4⟩ := HR.out
                  exact ⟨g + 1, by omega, by go_num, Lib.hid ⟨M, r1, r2, r3, fun _ => r4 trivial⟩⟩
                case measure => simp [intOf] <;> omega
        · have hgm2 : g = m + 1 := by omega
          have hgm' : (m : Int) < (g : Int) := by omega
          obtain ⟨x1, x2, x3⟩ := hend hgm2
          have hmade := made_no F (by omega) x1
          have HLOW := Lib.hid hlow
          have HX2 := Lib.hid x2
          have hst5 := x3
          clear hr F hlow hrd hend x1 x2 hgm2 x3
          go_wp2_with fail
          ((with_reducible refine hmade.mono ?_); rintro e w2 ⟨rfl, F2, h2⟩)
          have hLOW2 := HLOW.out.trans (h2.below (B := W.heap.size) hp hb (fun x hx => by cases hx) HLOW.out.size)
          have hX : Below w2.heap.size w2 (w2.alloc (.cells #[.int .i64 (-1), .int .u32 0, .bool false] 34)) := (Below.refl _ _).alloc (Nat.le_refl _) _
          have HKF := Lib.hid (Bq.new w2 [.int .i64 (-1), .int .u32 0, .bool false] 34)
          have HF2 := Lib.hid (F2.below hX)
          have HLO := Lib.hid (hLOW2.trans (hX.mono hLOW2.size))
          obtain ⟨f0, f1, f2, _, _, _⟩ := Bq.s3 HKF.out
          have hw3 := HLO.out.size
          have q1 := neq_same 0 (g : Int) false
          clear hmade F2 h2 hX hLOW2 HLOW
          go_wp2_with fail
          revert HKF HF2 HLO f0 f1 f2 hw3
          generalize w2.alloc (.cells #[.int .i64 (-1), .int .u32 0, .bool false] 34) = w3
          intro HKF HF2 HLO f0 f1 f2 hw3
          clear q1
          have hld := vx_loadP (s := 0) HF2.out (by show M.s.st + 1 < 1000000; omega) (by decide)
          rw [show (ldM M adF).V (adP 0) = 1 from HX2.out] at hld
          ((with_reducible refine hld.mono ?_); rintro e w8 ⟨rfl, F8, h8⟩)
          have HL8 := Lib.hid (HLO.out.trans ((Only3.of_only (q := p) h8).below (B := W.heap.size) hp hb hp HLO.out.size))
          have HLY := Lib.hid F8.lay
          have HLM := Lib.hid F8.laym
          clear h8 F8 hld HF2 HLO HKF f0 f1 f2
          go_wp2_with fail
          ((with_reducible refine (lives_any w8 HLY.out HLM.out).mono ?_); rintro e w9 ⟨rfl, hb9⟩)
          go_wp2_with fail
          go_ret
          exact ⟨rfl, HL8.out.trans (hb9.mono HL8.out.size)⟩
end Go.Proofs.YtlcbinckbkdgdaaDoor
