/-
  The laws SegsTurns, SegsOf and SegsLife walked: they answer true, and change nothing that was there; conditions: the program's eight calls do as the plain side says, where what the program lays lies as laid.
-/
import Derived.Test.YtelehpegnjbcaaaDoorGE1
namespace Go.Proofs.YtelehpegnjbcaaaDoor
open Go.RowKit

set_option maxHeartbeats 4000000 in
theorem lawTurns {L : World → Prop} (H : SPrg L) (s p t : Int) (w : World) (hL : L w) (hs : U64 s) (hp : U64 p) (ht : U64 t) :
    Calls Tryd.prog 4 #[.int .u64 s, .int .u64 p, .int .u64 t] w fun e w' => e = .returned (.bool true) ∧ Below w.heap.size w w' := by
  have HL := Lib.hid (fun W (h : Below w.heap.size w W) => H.low w W hL h)
  have HB := Lib.hid (Below.refl w.heap.size w)
  have HS := Lib.hid hs
  have HP := Lib.hid hp
  have HT := Lib.hid ht
  obtain ⟨a, ha⟩ : ∃ a, maySeg s p = a := ⟨_, rfl⟩
  obtain ⟨b, hb0⟩ : ∃ b, turnsG s p t = b := ⟨_, rfl⟩
  have M1 := Lib.hid (fun W (h : Below w.heap.size w W) => H.may s p W (HL.out W h) HS.out HP.out)
  have M2 := Lib.hid (fun W => rmay_any s p W)
  have T1 := Lib.hid (fun W (h : Below w.heap.size w W) => H.turns s p t W (HL.out W h) HS.out HP.out HT.out)
  have T2 := Lib.hid (fun W => rturns_any s p t W)
  rw [ha] at M1 M2
  rw [hb0] at T1 T2
  clear hL hs hp ht ha hb0
  have ea : (a == a) = true := beq_self_eq_true a
  have eb : (b == b) = true := beq_self_eq_true b
  go_enter Tryd.func4, Tryd.ntmps4
  go_wp2_with fail
  refine (M1.out _ HB.out).mono ?_
  rintro e w1 ⟨rfl, hb1⟩
  have HB1 := Lib.hid hb1
  clear hb1
  go_wp2_with fail
  refine (M2.out _).mono ?_
  rintro e w2 ⟨rfl, rfl⟩
  go_wp2_with fail
  refine (T1.out _ HB1.out).mono ?_
  rintro e w3 ⟨rfl, hb3⟩
  have HB3 := Lib.hid (HB1.out.trans (hb3.mono HB1.out.size))
  clear hb3
  go_wp2_with fail
  refine (T2.out _).mono ?_
  rintro e w4 ⟨rfl, rfl⟩
  go_wp2_with fail
  refine (lives_any H _ (HL.out _ HB3.out)).mono ?_
  rintro e w5 ⟨rfl, hb5⟩
  have HB5 := Lib.hid (HB3.out.trans (hb5.mono HB3.out.size))
  clear hb5
  go_wp2_with fail
  go_ret
  exact ⟨rfl, HB5.out⟩
set_option maxRecDepth 100000 in
theorem eql27 (k k' a f a' f' : Int) (w : World) : (binOp .eql 27 (.agg #[.int .u8 k, .int .i64 a, .int .i64 f]) (.agg #[.int .u8 k', .int .i64 a', .int .i64 f'])).run Tryd.prog w = .ok (.bool (decide (k = k' ∧ a = a' ∧ f = f'))) w := by
  have hS : Tryd.prog.underlying 27 = some (.struct (Tryd.prog.fieldsOf 27)) := by kernel_rfl
  have hp : Tryd.prog.stoodInHeld 27 = false := by kernel_rfl
  have u3 := Tryd.underlying3
  have a3 := Tryd.isAgg3
  have z3 := Tryd.sizeOf3
  have uk := Tryd.underlying25
  have ak := Tryd.isAgg25
  have zk := Tryd.sizeOf25
  rw [run_eql_struct, show (10000 : Nat) = 9999 + 1 from rfl, run_equalIn_agg w 9999 27 _ _ hS hp]
  simp only [Program.fieldsOf, Tryd.underlying27]
  clear hS hp
  go_simp
  by_cases h1 : k = k'
  · subst h1
    by_cases h2 : a = a'
    · subst h2
      by_cases h3 : f = f'
      · subst h3
        simp
      · simp [h3]
    · simp [h2]
  · simp [h1]
set_option maxRecDepth 100000 in
set_option maxHeartbeats 4000000 in
theorem lawOf {L : World → Prop} (H : SPrg L) (n f : Int) (w : World) (hL : L w) (hn : I64 n) (hf : I64 f) :
    Calls Tryd.prog 3 #[.int .i64 n, .int .i64 f] w fun e w' => e = .returned (.bool true) ∧ Below w.heap.size w w' := by
  have HL := Lib.hid (fun W (h : Below w.heap.size w W) => H.low w W hL h)
  have HB := Lib.hid (Below.refl w.heap.size w)
  have HN := Lib.hid hn
  have HF := Lib.hid hf
  have S1 := Lib.hid (H.slots n w (HL.out _ HB.out) HN.out)
  have S2 := Lib.hid (fun W => rslots_any n W)
  have O1 := Lib.hid (fun W (h : Below w.heap.size w W) => H.of n W (HL.out W h) HN.out)
  have O2 := Lib.hid (fun W => rof_any n W)
  generalize fromG n = a at S1 S2
  generalize toG n = b at S1 S2
  generalize ofG n = c at O1 O2
  have ea : (a != a) = false := bne_self_eq_false a
  have eb : (b != b) = false := bne_self_eq_false b
  have ec : (c != c) = false := bne_self_eq_false c
  clear hL hn hf
  go_enter Tryd.func3, Tryd.ntmps3
  go_wp2_with fail
  refine S1.out.mono ?_
  rintro e w1 ⟨rfl, hb1⟩
  have HB1 := Lib.hid hb1
  clear hb1
  go_wp2_with fail
  refine (S2.out _).mono ?_
  rintro e w2 ⟨rfl, rfl⟩
  go_wp2_with fail
  refine (O1.out _ HB1.out).mono ?_
  rintro e w3 ⟨rfl, hb3⟩
  have HB3 := Lib.hid (HB1.out.trans (hb3.mono HB1.out.size))
  clear hb3
  go_wp2_with fail
  refine (O2.out _).mono ?_
  rintro e w4 ⟨rfl, rfl⟩
  go_wp2_with fail
  refine (H.word n f _ (HL.out _ HB3.out) HN.out HF.out).mono ?_
  rintro e w5 ⟨rfl, hb5⟩
  have HB5 := Lib.hid (HB3.out.trans (hb5.mono HB3.out.size))
  clear hb5
  have e6 := (eql27 6 6 n f n f w5).trans (by rw [decide_eq_true (show (6 : Int) = 6 ∧ n = n ∧ f = f from ⟨rfl, rfl, rfl⟩)])
  go_wp2_with fail
  refine (H.slot n f _ (HL.out _ HB5.out) HN.out HF.out).mono ?_
  rintro e w6 ⟨rfl, hb6⟩
  have HB6 := Lib.hid (HB5.out.trans (hb6.mono HB5.out.size))
  clear hb6 e6
  have e9 := (eql27 9 9 n f n f w6).trans (by rw [decide_eq_true (show (9 : Int) = 9 ∧ n = n ∧ f = f from ⟨rfl, rfl, rfl⟩)])
  go_wp2_with fail
  refine (lives_any H _ (HL.out _ HB6.out)).mono ?_
  rintro e w7 ⟨rfl, hb7⟩
  have HB7 := Lib.hid (HB6.out.trans (hb7.mono HB6.out.size))
  clear hb7
  go_wp2_with fail
  go_ret
  exact ⟨rfl, HB7.out⟩
/-- What stands between two rounds. -/
structure LifeAt (s p : Int) : Prop where
  s0 : 0 ≤ s
  s2 : s ≤ 2
  p0 : 0 ≤ p
  p8 : p ≤ 8
  none : s = 0 → p = 8
theorem LifeAt.may {s p : Int} (h : LifeAt s p) : maySeg s p = true := by
  obtain ⟨h1, h2, h3, h4, h5⟩ := h
  unfold maySeg
  rw [decide_eq_true_eq]
  omega
theorem LifeAt.new {s p q : Int} (h : LifeAt s p) (hs : s ≠ 0) (q0 : 0 ≤ q) (q8 : q ≤ 8) : LifeAt s q := ⟨h.s0, h.s2, q0, q8, fun e => absurd e hs⟩
set_option maxRecDepth 100000 in
set_option maxHeartbeats 16000000 in
theorem lawLife {L : World → Prop} (H : SPrg L) (A B : Option Addr) (ca cb : Nat) (l m : List Int) (w : World) (hL : L w) (hs : Row w A (l.map cV)) (hu : ∀ x ∈ l, U8 x) (hs2 : Row w B (m.map cV)) (hu2 : ∀ x ∈ m, U8 x) (hl : l.length ≤ 200) (hm : m.length ≤ 200) :
    Calls Tryd.prog 7 #[.slice A l.length ca, .slice B m.length cb] w fun e w' => e = .returned (.bool true) ∧ Below w.heap.size w w' := by
  have HL := Lib.hid (fun W (h : Below w.heap.size w W) => H.low w W hL h)
  have HB := Lib.hid (Below.refl w.heap.size w)
  have HS := Lib.hid hs
  have HU := Lib.hid hu
  have HS2 := Lib.hid hs2
  have HU2 := Lib.hid hu2
  have HM := Lib.hid (fun s p W (hp : LifeAt s p) (h : Below w.heap.size w W) => (show Calls Tryd.prog 16 #[.int .u64 s, .int .u64 p] W fun e w' => e = .returned (.bool true) ∧ Below W.heap.size W w' from by
    have := H.may s p W (HL.out W h) (by have := hp.s0; have := hp.s2; unfold U64; omega) (by have := hp.p0; have := hp.p8; unfold U64; omega)
    rwa [hp.may] at this))
  have HT := Lib.hid (fun s p t W (hp : LifeAt s p) (ht : 0 ≤ t ∧ t ≤ 3) (h : Below w.heap.size w W) => H.turns s p t W (HL.out W h) (by have := hp.s0; have := hp.s2; unfold U64; omega) (by have := hp.p0; have := hp.p8; unfold U64; omega) (by unfold U64; omega))
  clear hL hs hu hs2 hu2
  go_enter Tryd.func7, Tryd.ntmps7
  go_wp2_with fail
  go_loopw [5, 6, 7] (fun x y i wr => ∃ (k : Nat) (s p : Int), k ≤ l.length ∧ k ≤ m.length ∧ i = .int .i64 (k : Int) ∧ x = .int .u64 s ∧ y = .int .u64 p ∧ Hid (LifeAt s p) ∧ Below w.heap.size w wr) (fun _ _ i _ => l.length - (intOf i).toNat)
  case atStart => exact ⟨0, 0, 8, Nat.zero_le _, Nat.zero_le _, rfl, rfl, rfl, Lib.hid ⟨by decide, by decide, by decide, by decide, fun _ => rfl⟩, HB.out⟩
  case round =>
    obtain ⟨k, s, p, hk, hk2, rfl, rfl, rfl, HLF, hr⟩ := hrel
    have HR := Lib.hid hr
    have hk0 : (0 : Int) ≤ (k : Int) := by omega
    clear hr
    by_cases hlt : k < l.length
    · have hlt' : (k : Int) < (l.length : Int) := by omega
      by_cases hlt2 : k < m.length
      · have hlt2' : (k : Int) < (m.length : Int) := by omega
        obtain ⟨g1, o1, rfl, hc1⟩ := (HS.out.below (HR.out.mono (Nat.le_refl _))).at_ (k := k) (by rw [List.length_map]; exact hlt)
        have y1 := hc1 k _ (bytes_at hlt)
        obtain ⟨g2, o2, rfl, hc2⟩ := (HS2.out.below (HR.out.mono (Nat.le_refl _))).at_ (k := k) (by rw [List.length_map]; exact hlt2)
        have y2 := hc2 k _ (bytes_at hlt2)
        have hb1 : U8 (l.getD k 0) := by
          rw [List.getD_eq_getElem?_getD, List.getElem?_eq_getElem hlt]
          exact HU.out _ (List.getElem_mem hlt)
        have hb2 : U8 (m.getD k 0) := by
          rw [List.getD_eq_getElem?_getD, List.getElem?_eq_getElem hlt2]
          exact HU2.out _ (List.getElem_mem hlt2)
        obtain ⟨x1, hx1⟩ : ∃ x, l.getD k 0 = x := ⟨_, rfl⟩
        obtain ⟨x2, hx2⟩ : ∃ x, m.getD k 0 = x := ⟨_, rfl⟩
        rw [hx1] at y1 hb1
        rw [hx2] at y2 hb2
        unfold U8 at hb1 hb2
        obtain ⟨t, ht⟩ : ∃ t, x1 % 4 = t := ⟨_, rfl⟩
        obtain ⟨q, hq⟩ : ∃ q, x2 % 9 = q := ⟨_, rfl⟩
        have t0 : 0 ≤ t := by omega
        have t3 : t ≤ 3 := by omega
        have q0 : 0 ≤ q := by omega
        have q8 : q ≤ 8 := by omega
        have e1 : IntKind.u64.wrap x1 = x1 := by rw [IntKind.wrap_u64]; omega
        have e2 : IntKind.u64.wrap x2 = x2 := by rw [IntKind.wrap_u64]; omega
        have e3 : x1.tmod 4 = t := by rw [Int.tmod_eq_emod_of_nonneg hb1.1]; exact ht
        have e4 : x2.tmod 9 = q := by rw [Int.tmod_eq_emod_of_nonneg hb2.1]; exact hq
        have e5 : IntKind.u64.wrap t = t := by rw [IntKind.wrap_u64]; omega
        have e6 : IntKind.u64.wrap q = q := by rw [IntKind.wrap_u64]; omega
        have ht4 : t = 0 ∨ t = 1 ∨ t = 2 ∨ t = 3 := by omega
        have hs3 : s = 0 ∨ s = 1 ∨ s = 2 := by have := HLF.out.s0; have := HLF.out.s2; omega
        clear hc1 hc2 hx1 hx2 ht hb1 hb2 t0 t3
        rcases hs3 with rfl | rfl | rfl
        · have hp := HLF.out.none rfl
          subst hp
          have HLF2 := HLF
          rcases ht4 with rfl | rfl | rfl | rfl
          · have TT := Lib.hid (fun W (h : Below w.heap.size w W) => (show Calls Tryd.prog 18 #[.int .u64 0, .int .u64 8, .int .u64 0] W fun e w' => e = .returned (.bool false) ∧ Below W.heap.size W w' from by
              have := HT.out 0 8 0 W HLF2.out (by decide) h
              rwa [show turnsG 0 8 0 = false from by decide] at this))
            go_wp2_with fail
            refine (HM.out 0 8 _ HLF2.out HR.out).mono ?_
            rintro e w1 ⟨rfl, hb1⟩
            have HB1 := Lib.hid (HR.out.trans (hb1.mono HR.out.size))
            clear hb1
            go_wp2_with fail
            refine (TT.out _ HB1.out).mono ?_
            rintro e w2 ⟨rfl, hb2⟩
            have HB2 := Lib.hid (HB1.out.trans (hb2.mono HB1.out.size))
            clear hb2
            go_wp2_with fail
            go_roundw
            case rel => exact ⟨k + 1, 0, 8, by omega, by omega, by go_num, rfl, rfl, Lib.hid ⟨by decide, by decide, HLF2.out.p0, HLF2.out.p8, fun _ => rfl⟩, HB2.out⟩
            case measure => simp [intOf]; omega
          · have TT := Lib.hid (fun W (h : Below w.heap.size w W) => (show Calls Tryd.prog 18 #[.int .u64 0, .int .u64 8, .int .u64 1] W fun e w' => e = .returned (.bool true) ∧ Below W.heap.size W w' from by
              have := HT.out 0 8 1 W HLF2.out (by decide) h
              rwa [show turnsG 0 8 1 = true from by decide] at this))
            go_wp2_with fail
            refine (HM.out 0 8 _ HLF2.out HR.out).mono ?_
            rintro e w1 ⟨rfl, hb1⟩
            have HB1 := Lib.hid (HR.out.trans (hb1.mono HR.out.size))
            clear hb1
            go_wp2_with fail
            refine (TT.out _ HB1.out).mono ?_
            rintro e w2 ⟨rfl, hb2⟩
            have HB2 := Lib.hid (HB1.out.trans (hb2.mono HB1.out.size))
            clear hb2
            go_wp2_with fail
            go_roundw
            case rel => exact ⟨k + 1, 1, 8, by omega, by omega, by go_num, rfl, rfl, Lib.hid ⟨by decide, by decide, HLF2.out.p0, HLF2.out.p8, fun h => by cases h⟩, HB2.out⟩
            case measure => simp [intOf]; omega
          · have TT := Lib.hid (fun W (h : Below w.heap.size w W) => (show Calls Tryd.prog 18 #[.int .u64 0, .int .u64 8, .int .u64 2] W fun e w' => e = .returned (.bool false) ∧ Below W.heap.size W w' from by
              have := HT.out 0 8 2 W HLF2.out (by decide) h
              rwa [show turnsG 0 8 2 = false from by decide] at this))
            go_wp2_with fail
            refine (HM.out 0 8 _ HLF2.out HR.out).mono ?_
            rintro e w1 ⟨rfl, hb1⟩
            have HB1 := Lib.hid (HR.out.trans (hb1.mono HR.out.size))
            clear hb1
            go_wp2_with fail
            refine (TT.out _ HB1.out).mono ?_
            rintro e w2 ⟨rfl, hb2⟩
            have HB2 := Lib.hid (HB1.out.trans (hb2.mono HB1.out.size))
            clear hb2
            go_wp2_with fail
            go_roundw
            case rel => exact ⟨k + 1, 0, 8, by omega, by omega, by go_num, rfl, rfl, Lib.hid ⟨by decide, by decide, HLF2.out.p0, HLF2.out.p8, fun _ => rfl⟩, HB2.out⟩
            case measure => simp [intOf]; omega
          · have TT := Lib.hid (fun W (h : Below w.heap.size w W) => (show Calls Tryd.prog 18 #[.int .u64 0, .int .u64 8, .int .u64 3] W fun e w' => e = .returned (.bool false) ∧ Below W.heap.size W w' from by
              have := HT.out 0 8 3 W HLF2.out (by decide) h
              rwa [show turnsG 0 8 3 = false from by decide] at this))
            go_wp2_with fail
            refine (HM.out 0 8 _ HLF2.out HR.out).mono ?_
            rintro e w1 ⟨rfl, hb1⟩
            have HB1 := Lib.hid (HR.out.trans (hb1.mono HR.out.size))
            clear hb1
            go_wp2_with fail
            refine (TT.out _ HB1.out).mono ?_
            rintro e w2 ⟨rfl, hb2⟩
            have HB2 := Lib.hid (HB1.out.trans (hb2.mono HB1.out.size))
            clear hb2
            go_wp2_with fail
            go_roundw
            case rel => exact ⟨k + 1, 0, 8, by omega, by omega, by go_num, rfl, rfl, Lib.hid ⟨by decide, by decide, HLF2.out.p0, HLF2.out.p8, fun _ => rfl⟩, HB2.out⟩
            case measure => simp [intOf]; omega
        · have HLF2 := Lib.hid (HLF.out.new (by decide) q0 q8)
          rcases ht4 with rfl | rfl | rfl | rfl
          · have TT := Lib.hid (fun W (h : Below w.heap.size w W) => (show Calls Tryd.prog 18 #[.int .u64 1, .int .u64 q, .int .u64 0] W fun e w' => e = .returned (.bool false) ∧ Below W.heap.size W w' from by
              have := HT.out 1 q 0 W HLF2.out (by decide) h
              rwa [show turnsG 1 q 0 = false from by unfold turnsG; rw [decide_eq_false (show ¬ _ by omega), Bool.and_false]] at this))
            go_wp2_with fail
            refine (HM.out 1 q _ HLF2.out HR.out).mono ?_
            rintro e w1 ⟨rfl, hb1⟩
            have HB1 := Lib.hid (HR.out.trans (hb1.mono HR.out.size))
            clear hb1
            go_wp2_with fail
            refine (TT.out _ HB1.out).mono ?_
            rintro e w2 ⟨rfl, hb2⟩
            have HB2 := Lib.hid (HB1.out.trans (hb2.mono HB1.out.size))
            clear hb2
            go_wp2_with fail
            go_roundw
            case rel => exact ⟨k + 1, 1, q, by omega, by omega, by go_num, rfl, rfl, Lib.hid ⟨by decide, by decide, HLF2.out.p0, HLF2.out.p8, fun h => by cases h⟩, HB2.out⟩
            case measure => simp [intOf]; omega
          · have TT := Lib.hid (fun W (h : Below w.heap.size w W) => (show Calls Tryd.prog 18 #[.int .u64 1, .int .u64 q, .int .u64 1] W fun e w' => e = .returned (.bool false) ∧ Below W.heap.size W w' from by
              have := HT.out 1 q 1 W HLF2.out (by decide) h
              rwa [show turnsG 1 q 1 = false from by unfold turnsG; rw [decide_eq_false (show ¬ _ by omega), Bool.and_false]] at this))
            go_wp2_with fail
            refine (HM.out 1 q _ HLF2.out HR.out).mono ?_
            rintro e w1 ⟨rfl, hb1⟩
            have HB1 := Lib.hid (HR.out.trans (hb1.mono HR.out.size))
            clear hb1
            go_wp2_with fail
            refine (TT.out _ HB1.out).mono ?_
            rintro e w2 ⟨rfl, hb2⟩
            have HB2 := Lib.hid (HB1.out.trans (hb2.mono HB1.out.size))
            clear hb2
            go_wp2_with fail
            go_roundw
            case rel => exact ⟨k + 1, 1, q, by omega, by omega, by go_num, rfl, rfl, Lib.hid ⟨by decide, by decide, HLF2.out.p0, HLF2.out.p8, fun h => by cases h⟩, HB2.out⟩
            case measure => simp [intOf]; omega
          · have TT := Lib.hid (fun W (h : Below w.heap.size w W) => (show Calls Tryd.prog 18 #[.int .u64 1, .int .u64 q, .int .u64 2] W fun e w' => e = .returned (.bool true) ∧ Below W.heap.size W w' from by
              have := HT.out 1 q 2 W HLF2.out (by decide) h
              rwa [show turnsG 1 q 2 = true from by unfold turnsG; rw [HLF2.out.may, decide_eq_true (show _ by omega)]; rfl] at this))
            go_wp2_with fail
            refine (HM.out 1 q _ HLF2.out HR.out).mono ?_
            rintro e w1 ⟨rfl, hb1⟩
            have HB1 := Lib.hid (HR.out.trans (hb1.mono HR.out.size))
            clear hb1
            go_wp2_with fail
            refine (TT.out _ HB1.out).mono ?_
            rintro e w2 ⟨rfl, hb2⟩
            have HB2 := Lib.hid (HB1.out.trans (hb2.mono HB1.out.size))
            clear hb2
            go_wp2_with fail
            go_roundw
            case rel => exact ⟨k + 1, 2, q, by omega, by omega, by go_num, rfl, rfl, Lib.hid ⟨by decide, by decide, HLF2.out.p0, HLF2.out.p8, fun h => by cases h⟩, HB2.out⟩
            case measure => simp [intOf]; omega
          · have TT := Lib.hid (fun W (h : Below w.heap.size w W) => (show Calls Tryd.prog 18 #[.int .u64 1, .int .u64 q, .int .u64 3] W fun e w' => e = .returned (.bool false) ∧ Below W.heap.size W w' from by
              have := HT.out 1 q 3 W HLF2.out (by decide) h
              rwa [show turnsG 1 q 3 = false from by unfold turnsG; rw [decide_eq_false (show ¬ _ by omega), Bool.and_false]] at this))
            go_wp2_with fail
            refine (HM.out 1 q _ HLF2.out HR.out).mono ?_
            rintro e w1 ⟨rfl, hb1⟩
            have HB1 := Lib.hid (HR.out.trans (hb1.mono HR.out.size))
            clear hb1
            go_wp2_with fail
            refine (TT.out _ HB1.out).mono ?_
            rintro e w2 ⟨rfl, hb2⟩
            have HB2 := Lib.hid (HB1.out.trans (hb2.mono HB1.out.size))
            clear hb2
            go_wp2_with fail
            go_roundw
            case rel => exact ⟨k + 1, 1, q, by omega, by omega, by go_num, rfl, rfl, Lib.hid ⟨by decide, by decide, HLF2.out.p0, HLF2.out.p8, fun h => by cases h⟩, HB2.out⟩
            case measure => simp [intOf]; omega
        · have HLF2 := Lib.hid (HLF.out.new (by decide) q0 q8)
          rcases ht4 with rfl | rfl | rfl | rfl
          · by_cases hq8 : q = 8
            · subst hq8
              have TT := Lib.hid (fun W (h : Below w.heap.size w W) => (show Calls Tryd.prog 18 #[.int .u64 2, .int .u64 8, .int .u64 0] W fun e w' => e = .returned (.bool true) ∧ Below W.heap.size W w' from by
                have := HT.out 2 8 0 W HLF2.out (by decide) h
                rwa [show turnsG 2 8 0 = true from by decide] at this))
              go_wp2_with fail
              refine (HM.out 2 8 _ HLF2.out HR.out).mono ?_
              rintro e w1 ⟨rfl, hb1⟩
              have HB1 := Lib.hid (HR.out.trans (hb1.mono HR.out.size))
              clear hb1
              go_wp2_with fail
              refine (TT.out _ HB1.out).mono ?_
              rintro e w2 ⟨rfl, hb2⟩
              have HB2 := Lib.hid (HB1.out.trans (hb2.mono HB1.out.size))
              clear hb2
              go_wp2_with fail
              go_roundw
              case rel => exact ⟨k + 1, 0, 8, by omega, by omega, by go_num, rfl, rfl, Lib.hid ⟨by decide, by decide, HLF2.out.p0, HLF2.out.p8, fun _ => rfl⟩, HB2.out⟩
              case measure => simp [intOf]; omega
            · have hq8b : (q == 8) = false := beq_eq_false_iff_ne.2 hq8
              have TT := Lib.hid (fun W (h : Below w.heap.size w W) => (show Calls Tryd.prog 18 #[.int .u64 2, .int .u64 q, .int .u64 0] W fun e w' => e = .returned (.bool false) ∧ Below W.heap.size W w' from by
                have := HT.out 2 q 0 W HLF2.out (by decide) h
                rwa [show turnsG 2 q 0 = false from by unfold turnsG; rw [decide_eq_false (show ¬ _ by omega), Bool.and_false]] at this))
              clear hq8
              go_wp2_with fail
              refine (HM.out 2 q _ HLF2.out HR.out).mono ?_
              rintro e w1 ⟨rfl, hb1⟩
              have HB1 := Lib.hid (HR.out.trans (hb1.mono HR.out.size))
              clear hb1
              go_wp2_with fail
              refine (TT.out _ HB1.out).mono ?_
              rintro e w2 ⟨rfl, hb2⟩
              have HB2 := Lib.hid (HB1.out.trans (hb2.mono HB1.out.size))
              clear hb2
              go_wp2_with fail
              go_roundw
              case rel => exact ⟨k + 1, 2, q, by omega, by omega, by go_num, rfl, rfl, Lib.hid ⟨by decide, by decide, HLF2.out.p0, HLF2.out.p8, fun h => by cases h⟩, HB2.out⟩
              case measure => simp [intOf]; omega
          · have TT := Lib.hid (fun W (h : Below w.heap.size w W) => (show Calls Tryd.prog 18 #[.int .u64 2, .int .u64 q, .int .u64 1] W fun e w' => e = .returned (.bool true) ∧ Below W.heap.size W w' from by
              have := HT.out 2 q 1 W HLF2.out (by decide) h
              rwa [show turnsG 2 q 1 = true from by unfold turnsG; rw [HLF2.out.may, decide_eq_true (show _ by omega)]; rfl] at this))
            go_wp2_with fail
            refine (HM.out 2 q _ HLF2.out HR.out).mono ?_
            rintro e w1 ⟨rfl, hb1⟩
            have HB1 := Lib.hid (HR.out.trans (hb1.mono HR.out.size))
            clear hb1
            go_wp2_with fail
            refine (TT.out _ HB1.out).mono ?_
            rintro e w2 ⟨rfl, hb2⟩
            have HB2 := Lib.hid (HB1.out.trans (hb2.mono HB1.out.size))
            clear hb2
            go_wp2_with fail
            go_roundw
            case rel => exact ⟨k + 1, 1, q, by omega, by omega, by go_num, rfl, rfl, Lib.hid ⟨by decide, by decide, HLF2.out.p0, HLF2.out.p8, fun h => by cases h⟩, HB2.out⟩
            case measure => simp [intOf]; omega
          · have TT := Lib.hid (fun W (h : Below w.heap.size w W) => (show Calls Tryd.prog 18 #[.int .u64 2, .int .u64 q, .int .u64 2] W fun e w' => e = .returned (.bool false) ∧ Below W.heap.size W w' from by
              have := HT.out 2 q 2 W HLF2.out (by decide) h
              rwa [show turnsG 2 q 2 = false from by unfold turnsG; rw [decide_eq_false (show ¬ _ by omega), Bool.and_false]] at this))
            go_wp2_with fail
            refine (HM.out 2 q _ HLF2.out HR.out).mono ?_
            rintro e w1 ⟨rfl, hb1⟩
            have HB1 := Lib.hid (HR.out.trans (hb1.mono HR.out.size))
            clear hb1
            go_wp2_with fail
            refine (TT.out _ HB1.out).mono ?_
            rintro e w2 ⟨rfl, hb2⟩
            have HB2 := Lib.hid (HB1.out.trans (hb2.mono HB1.out.size))
            clear hb2
            go_wp2_with fail
            go_roundw
            case rel => exact ⟨k + 1, 2, q, by omega, by omega, by go_num, rfl, rfl, Lib.hid ⟨by decide, by decide, HLF2.out.p0, HLF2.out.p8, fun h => by cases h⟩, HB2.out⟩
            case measure => simp [intOf]; omega
          · have TT := Lib.hid (fun W (h : Below w.heap.size w W) => (show Calls Tryd.prog 18 #[.int .u64 2, .int .u64 q, .int .u64 3] W fun e w' => e = .returned (.bool false) ∧ Below W.heap.size W w' from by
              have := HT.out 2 q 3 W HLF2.out (by decide) h
              rwa [show turnsG 2 q 3 = false from by unfold turnsG; rw [decide_eq_false (show ¬ _ by omega), Bool.and_false]] at this))
            go_wp2_with fail
            refine (HM.out 2 q _ HLF2.out HR.out).mono ?_
            rintro e w1 ⟨rfl, hb1⟩
            have HB1 := Lib.hid (HR.out.trans (hb1.mono HR.out.size))
            clear hb1
            go_wp2_with fail
            refine (TT.out _ HB1.out).mono ?_
            rintro e w2 ⟨rfl, hb2⟩
            have HB2 := Lib.hid (HB1.out.trans (hb2.mono HB1.out.size))
            clear hb2
            go_wp2_with fail
            go_roundw
            case rel => exact ⟨k + 1, 2, q, by omega, by omega, by go_num, rfl, rfl, Lib.hid ⟨by decide, by decide, HLF2.out.p0, HLF2.out.p8, fun h => by cases h⟩, HB2.out⟩
            case measure => simp [intOf]; omega
      · have hge2 : (m.length : Int) ≤ (k : Int) := by omega
        go_wp2_with fail
        refine (HM.out s p _ HLF.out HR.out).mono ?_
        rintro e w1 ⟨rfl, hb1⟩
        have HB1 := Lib.hid (HR.out.trans (hb1.mono HR.out.size))
        clear hb1
        go_wp2_with fail
        refine (lives_any H _ (HL.out _ HB1.out)).mono ?_
        rintro e w2 ⟨rfl, hb2⟩
        have HB2 := Lib.hid (HB1.out.trans (hb2.mono HB1.out.size))
        clear hb2
        go_wp2_with fail
        go_ret
        exact ⟨rfl, HB2.out⟩
    · have hge : (l.length : Int) ≤ (k : Int) := by omega
      go_wp2_with fail
      refine (HM.out s p _ HLF.out HR.out).mono ?_
      rintro e w1 ⟨rfl, hb1⟩
      have HB1 := Lib.hid (HR.out.trans (hb1.mono HR.out.size))
      clear hb1
      go_wp2_with fail
      refine (lives_any H _ (HL.out _ HB1.out)).mono ?_
      rintro e w2 ⟨rfl, hb2⟩
      have HB2 := Lib.hid (HB1.out.trans (hb2.mono HB1.out.size))
      clear hb2
      go_wp2_with fail
      go_ret
      exact ⟨rfl, HB2.out⟩
set_option maxHeartbeats 1000000 in
theorem lawLife_long {L : World → Prop} (H : SPrg L) (A B : Option Addr) (n m ca cb : Nat) (w : World) (hL : L w) (hm : 200 < n ∨ 200 < m) :
    Calls Tryd.prog 7 #[.slice A n ca, .slice B m cb] w fun e w' => e = .returned (.bool true) ∧ Below w.heap.size w w' := by
  have HC := Lib.hid (lives_any H w hL)
  clear hL
  by_cases h : 200 < n
  · have h' : (200 : Int) < (n : Int) := by omega
    clear hm h
    go_enter Tryd.func7, Tryd.ntmps7
    go_wp2_with fail
    refine HC.out.mono ?_
    rintro e w1 ⟨rfl, hb1⟩
    have HB1 := Lib.hid hb1
    clear hb1
    go_wp2_with fail
    go_ret
    exact ⟨rfl, HB1.out⟩
  · have h' : ¬ (200 : Int) < (n : Int) := by omega
    have h2 : (200 : Int) < (m : Int) := by omega
    clear hm h
    go_enter Tryd.func7, Tryd.ntmps7
    go_wp2_with fail
    refine HC.out.mono ?_
    rintro e w1 ⟨rfl, hb1⟩
    have HB1 := Lib.hid hb1
    clear hb1
    go_wp2_with fail
    go_ret
    exact ⟨rfl, HB1.out⟩
end Go.Proofs.YtelehpegnjbcaaaDoor
