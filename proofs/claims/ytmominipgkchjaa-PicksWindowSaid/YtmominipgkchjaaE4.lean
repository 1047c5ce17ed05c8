/-
  The law PicksWindow walked: it answers true, and changes nothing that was there; conditions: the program's four calls do as the plain side says; what lies lies as it says.
-/
import Derived.Test.YtmominipgkchjaaE1
namespace Go.Proofs.Ytmominipgkchjaa
open Go.RowKit

/-- One alone, of N + 1. -/
def whoC (N : Nat) : List Bool := (List.replicate (N + 1) false).set N true
theorem whoC_length (N : Nat) : (whoC N).length = N + 1 := by simp [whoC]
theorem whoC_at (N i : Nat) : (whoC N).getD i false = decide (i = N) := by
  unfold whoC
  rw [List.getD_eq_getElem?_getD, List.getElem?_set]
  by_cases h : N = i
  · subst h
    simp
  · rw [if_neg h, List.getElem?_replicate]
    have : ¬ i = N := fun e => h e.symm
    split <;> simp [this]
theorem fair_who (ps : List Int) (N : Nat) (within : Int) : fairC ps (whoC N) within = decide ((restC ps (N : Int) : Int) < within) := by
  rw [Bool.eq_iff_iff, fair_iff, decide_eq_true_eq]
  constructor
  · intro h
    exact h N (by rw [whoC_length]; omega) (by rw [whoC_at]; simp)
  · intro h i _ hw
    rw [whoC_at, decide_eq_true_eq] at hw
    subst hw
    exact h
/-- Each run that begins ahead of place i has it. -/
def Runs (ps : List Int) (n : Int) (W i : Nat) : Prop := 0 < W ∧ ∀ j, j < i → j + W ≤ ps.length → inRun ps n j W
theorem runs_all {ps : List Int} {n : Int} {W i : Nat} (h : ps.length < i + W) : Runs ps n W i ↔ restC ps n < W := by
  rw [rest_run]
  exact ⟨fun h1 => ⟨h1.1, fun j hj => h1.2 j (by omega) hj⟩, fun h1 => ⟨h1.1, fun j _ hj => h1.2 j hj⟩⟩
theorem runs_of {ps : List Int} {n : Int} {W i : Nat} (h : restC ps n < W) : Runs ps n W i := by
  have h1 := (rest_run ps n W).1 h
  exact ⟨h1.1, fun j _ hj => h1.2 j hj⟩
theorem runs_succ {ps : List Int} {n : Int} {W i : Nat} (h : Runs ps n W i) (hi : i + W ≤ ps.length) : Runs ps n W (i + 1) ↔ inRun ps n i W := by
  refine ⟨fun h1 => h1.2 i (by omega) hi, fun h1 => ⟨h.1, fun j hj hjl => ?_⟩⟩
  rcases Nat.lt_or_ge j i with h2 | h2
  · exact h.2 j h2 hjl
  · obtain rfl : j = i := by omega
    exact h1
theorem made_false (n : Nat) : (madeCells (Value.bool false).cells (n * 1)).toList = (List.replicate n false).map bV := by
  rw [Nat.mul_one, show (Value.bool false).cells = #[Value.bool false] from rfl, toList_madeCells_one, List.map_replicate]
  rfl
theorem fair_one (H : Prg) (N : Nat) (within : Int) (A B : Option Addr) (ca cb : Nat) (ps : List Int) (w : World) (hN : N ≤ 255) (hw : I64 within) (hs : Row w A (ps.map iV)) (hb : Row w B ((whoC N).map bV)) (h1 : ps.length ≤ ca) (h2 : ca ≤ 9223372036854775807) (h3 : N + 1 ≤ cb) (h4 : cb ≤ 9223372036854775807) (h5 : ps.length ≤ 1000) :
    Calls Try.prog 16 #[.slice A ps.length ca, .slice B (N + 1) cb, .int .i64 within] w fun e w' => e = .returned (.bool (decide ((restC ps (N : Int) : Int) < within))) ∧ Below w.heap.size w w' := by
  have h := H.fair within A B ca cb ps (whoC N) w hw hs hb h1 h2 (by rw [whoC_length]; exact h3) h4 h5 (by rw [whoC_length]; omega)
  rw [whoC_length, fair_who] at h
  exact h
set_option maxRecDepth 100000 in
set_option maxHeartbeats 8000000 in
theorem lawWindow (H : Prg) (N W : Nat) (A : Option Addr) (cap : Nat) (ps : List Int) (w : World) (hN : N ≤ 255) (hW : W ≤ 255) (hs : Row w A (ps.map iV)) (hc1 : ps.length ≤ cap) (hc2 : cap ≤ 9223372036854775807) (hl : ps.length ≤ 100) :
    Calls Try.prog 7 #[.slice A ps.length cap, .int .u8 (N : Int), .int .u8 (W : Int)] w fun e w' => e = .returned (.bool true) ∧ Below w.heap.size w w' := by
  obtain ⟨i0, hi, hz0, hz1, hz2⟩ := info_parts Try_infoB
  have HS := Lib.hid hs
  have hN1 : (N : Int) ≤ 255 := by omega
  have hW1 : (W : Int) ≤ 255 := by omega
  have hN2 : (0 : Int) ≤ (N : Int) := by omega
  have hW2 : (0 : Int) ≤ (W : Int) := by omega
  clear hs
  go_enter Try.func7, Try.ntmps7
  go_wp2_with (at_make; refine wpList_make_full _ rfl _ _ 22 rfl w.heap.size 4 i0 _ 1 Try.underlying22 hi hz0 hz1 .i64 .i64 _ _ (N + 1) rfl rfl (by omega) (by omega) (by rw [hz2]; omega) (by unfold maxLen; omega) (Nat.le_refl _) ?_; intro w1 ho1 hg1; rw [made_false] at ho1; have HO1 := Lib.hid ho1; have HB1 := Lib.hid ((Below.refl w.heap.size w).grown hg1 (Nat.le_refl _) (fun k hk => by cases hk)); have y := (ho1.cellAt N (by omega)).trans (show ((List.replicate (N + 1) false).map bV)[N]? = some (.bool false) by simp [bV]); have z := ho1.frozenAt N; clear ho1 hg1)
  obtain ⟨ho2, hg2⟩ := HO1.out.stored N (.bool true)
  have hr2 := row_of_own ho2
  rw [show (Value.bool true) = bV true from rfl, ← List.map_set] at hr2
  have HW2 := Lib.hid (show Row (w1.setCell ⟨w.heap.size, N, Option.none⟩ (.bool true)) (some ⟨w.heap.size, 0, Option.none⟩) ((whoC N).map bV) from hr2)
  have HB2 := Lib.hid (HB1.out.grown hg2 HB1.out.size (fun k hk => by cases hk; exact Nat.le_refl _))
  clear ho2 hg2 hr2 HO1 HB1 y z
  change Calls _ _ _ (w1.setCell ⟨w.heap.size, N, Option.none⟩ (.bool true)) _
  revert HW2 HB2
  generalize w1.setCell ⟨w.heap.size, N, Option.none⟩ (.bool true) = w2
  intro HW2 HB2
  refine (fair_one H N (W : Int) A _ cap (N + 1) ps w2 hN (i64_small (by omega) (by omega)) (HS.out.below (HB2.out.mono (Nat.le_refl _))) HW2.out hc1 hc2 (Nat.le_refl _) (by omega) (by omega)).mono ?_
  rintro e w3 ⟨rfl, hb⟩
  have HB3 := Lib.hid (HB2.out.trans (hb.mono HB2.out.size))
  have HW3 := Lib.hid (HW2.out.below hb)
  clear hb HB2 HW2
  obtain ⟨R, hR⟩ : ∃ R, restC ps (N : Int) = R := ⟨_, rfl⟩
  have hRl := rest_le ps (N : Int)
  rw [hR] at hRl ⊢
  obtain ⟨f, hf⟩ : ∃ f, decide ((R : Int) < (W : Int)) = f := ⟨_, rfl⟩
  rw [hf]
  have HF := Lib.hid (show f = true ↔ R < W by rw [← hf, decide_eq_true_eq]; omega)
  have HR := Lib.hid hR
  have H00 := Lib.hid (show decide (0 < W) = true ↔ Runs ps (N : Int) W 0 by
    rw [decide_eq_true_eq]
    exact ⟨fun h => ⟨h, fun j hj => by omega⟩, fun h => h.1⟩)
  clear hf hR
  go_wp2_with fail
  go_loopw [10, 11] (fun b i wr => ∃ (c : Bool) (k : Nat), k ≤ ps.length + 1 ∧ b = .bool c ∧ i = .int .i64 (k : Int) ∧ Hid (c = true ↔ Runs ps (N : Int) W k) ∧ wr = w3) (fun _ i _ => ps.length + 1 - (intOf i).toNat)
  case atStart => exact ⟨_, 0, by omega, rfl, rfl, H00, rfl⟩
  case round =>
    obtain ⟨c, k, hk, rfl, rfl, HC, rfl⟩ := hrel
    have hk0 : (0 : Int) ≤ (k : Int) := by omega
    have hk1 : (k : Int) ≤ 101 := by omega
    have hend : (ps.length < k + W ∨ c = false) → Hid (c = f) := fun h => Lib.hid (by
      rw [Bool.eq_iff_iff]
      rcases h with h | h
      · exact (HC.out.trans (runs_all h)).trans (by rw [HR.out]; exact HF.out.symm)
      · subst h
        refine ⟨fun h => (by cases h), fun h => ?_⟩
        have h1 := HF.out.1 h
        exact HC.out.2 (runs_of (by rw [HR.out]; exact h1)))
    have HEND := Lib.hid hend
    clear hend
    by_cases hfit : k + W ≤ ps.length
    · have hfit' : (k : Int) + (W : Int) ≤ (ps.length : Int) := by omega
      cases c with
      | false =>
        have hcf := (HEND.out (.inr rfl)).out
        subst hcf
        have hlt : W ≤ R := Nat.le_of_not_lt fun h => by cases HF.out.2 h
        clear HEND
        go_wp2_with fail
        refine (H.rest (N : Int) A cap ps wr (i64_small (by omega) (by omega)) (HS.out.below (HB3.out.mono (Nat.le_refl _))) hc1 hc2 (by omega)).mono ?_
        rintro e w4 ⟨rfl, hb⟩
        rw [HR.out]
        have HB4 := Lib.hid (HB3.out.trans (hb.mono HB3.out.size))
        have HW4 := Lib.hid (HW3.out.below hb)
        clear hb
        have hR0 : R ≤ ps.length := hRl
        go_wp2_with (go_at_call 8; refine (lives_any H _).mono ?_; rintro e w6 ⟨rfl, hb6⟩; have HL6 := Lib.hid (HB4.out.trans (hb6.mono HB4.out.size)); clear hb6)
        go_ret
        exact ⟨ret_bool (by simp; omega), HL6.out⟩
      | true =>
        have HRUN := Lib.hid (runs_succ (HC.out.1 rfl) hfit)
        have hlt' : (k : Int) < (ps.length : Int) + 1 := by omega
        clear HEND
        go_wp2_with fail
        go_loopw [12, 13] (fun b j wq => ∃ (c : Bool) (q : Nat), k ≤ q ∧ q ≤ k + W ∧ b = .bool c ∧ j = .int .i64 (q : Int) ∧ Hid (c = true ↔ ∃ t, k ≤ t ∧ t < q ∧ ps.getD t ((N : Int) + 1) = (N : Int)) ∧ wq = wr) (fun _ j _ => k + W - (intOf j).toNat)
        case atStart => exact ⟨false, k, Nat.le_refl _, by omega, rfl, rfl, Lib.hid ⟨fun h => (by cases h), fun ⟨t, h1, h2, _⟩ => (by omega)⟩, rfl⟩
        case round =>
          obtain ⟨c, q, hkq, hq, rfl, rfl, HQ, rfl⟩ := hrel
          have hq0 : (0 : Int) ≤ (q : Int) := by omega
          by_cases hql : q < k + W
          · have hqp : q < ps.length := by omega
            have hql' : (q : Int) < (k : Int) + (W : Int) := by omega
            have hqp' : (q : Int) < (ps.length : Int) := by omega
            obtain ⟨g, off, rfl, hc⟩ := (HS.out.below (HB3.out.mono (Nat.le_refl _))).at_ (k := q) (by rw [List.length_map]; exact hqp)
            have y := hc q _ (ints_at ((N : Int) + 1) hqp)
            obtain ⟨v, hv⟩ : ∃ v, ps.getD q ((N : Int) + 1) = v := ⟨_, rfl⟩
            rw [hv] at y
            have HV := Lib.hid hv
            clear hc hv
            cases c with
            | true =>
              go_wp2_with fail
              go_roundw
              case rel =>
                refine ⟨true, q + 1, by omega, by omega, rfl, by go_num, Lib.hid ⟨fun _ => ?_, fun _ => rfl⟩, by trivial⟩
                obtain ⟨t, h1, h2, h3⟩ := HQ.out.1 rfl
                exact ⟨t, h1, by omega, h3⟩
              case measure => simp [intOf]; omega
            | false =>
              by_cases hvn : v = (N : Int)
              · subst hvn
                go_wp2_with fail
                go_roundw
                case rel => exact ⟨true, q + 1, by omega, by omega, rfl, by go_num, Lib.hid ⟨fun _ => ⟨q, hkq, by omega, HV.out⟩, fun _ => rfl⟩, by trivial⟩
                case measure => simp [intOf]; omega
              · go_wp2_with fail
                go_roundw
                case rel =>
                  refine ⟨false, q + 1, by omega, by omega, congrArg Value.bool (beq_eq_false_iff_ne.2 hvn), by go_num, Lib.hid ⟨fun h => (by cases h), fun ⟨t, h1, h2, h3⟩ => ?_⟩, by trivial⟩
                  rcases Nat.lt_or_ge t q with h | h
                  · exact HQ.out.2 ⟨t, h1, h, h3⟩
                  · obtain rfl : t = q := by omega
                    exact absurd (HV.out.symm.trans h3) hvn
                case measure => simp [intOf]; omega
          · have hql' : (k : Int) + (W : Int) ≤ (q : Int) := by omega
            obtain rfl : q = k + W := by omega
            have HNEW := Lib.hid (HQ.out.trans HRUN.out.symm)
            go_wp2_with fail
            go_roundw
            case rel => exact ⟨c, k + 1, by omega, rfl, by go_num, HNEW, by trivial⟩
            case measure => simp [intOf]; omega
    · have hfit' : (ps.length : Int) < (k : Int) + (W : Int) := by omega
      have hcf := (HEND.out (.inl (by omega))).out
      cases c with
      | false =>
        subst hcf
        have hlt : W ≤ R := Nat.le_of_not_lt fun h => by cases HF.out.2 h
        clear HEND
        go_wp2_with fail
        refine (H.rest (N : Int) A cap ps wr (i64_small (by omega) (by omega)) (HS.out.below (HB3.out.mono (Nat.le_refl _))) hc1 hc2 (by omega)).mono ?_
        rintro e w4 ⟨rfl, hb⟩
        rw [HR.out]
        have HB4 := Lib.hid (HB3.out.trans (hb.mono HB3.out.size))
        have HW4 := Lib.hid (HW3.out.below hb)
        clear hb
        have hR0 : R ≤ ps.length := hRl
        go_wp2_with (go_at_call 8; refine (lives_any H _).mono ?_; rintro e w6 ⟨rfl, hb6⟩; have HL6 := Lib.hid (HB4.out.trans (hb6.mono HB4.out.size)); clear hb6)
        go_ret
        exact ⟨ret_bool (by simp; omega), HL6.out⟩
      | true =>
        subst hcf
        have hlt : R < W := HF.out.1 rfl
        have HD := Lib.hid (decide_eq_true (show (R : Int) < (W : Int) + 1 by omega))
        clear HEND
        go_wp2_with fail
        refine (H.rest (N : Int) A cap ps wr (i64_small (by omega) (by omega)) (HS.out.below (HB3.out.mono (Nat.le_refl _))) hc1 hc2 (by omega)).mono ?_
        rintro e w4 ⟨rfl, hb⟩
        rw [HR.out]
        have HB4 := Lib.hid (HB3.out.trans (hb.mono HB3.out.size))
        have HW4 := Lib.hid (HW3.out.below hb)
        clear hb
        have hR0 : R ≤ ps.length := hRl
        go_wp2_with fail
        refine (fair_one H N ((W : Int) + 1) A _ cap (N + 1) ps w4 hN (i64_small (by omega) (by omega)) (HS.out.below (HB4.out.mono (Nat.le_refl _))) HW4.out hc1 hc2 (Nat.le_refl _) (by omega) (by omega)).mono ?_
        rintro e w5 ⟨rfl, hb⟩
        rw [HR.out, HD.out]
        have HB5 := Lib.hid (HB4.out.trans (hb.mono HB4.out.size))
        clear hb
        go_wp2_with (go_at_call 8; refine (lives_any H _).mono ?_; rintro e w6 ⟨rfl, hb6⟩; have HL6 := Lib.hid (HB5.out.trans (hb6.mono HB5.out.size)); clear hb6)
        go_ret
        exact ⟨rfl, HL6.out⟩
set_option maxHeartbeats 1000000 in
theorem lawWindow_long (H : Prg) (n k : Int) (A : Option Addr) (m cap : Nat) (w : World) (hm : 100 < m) :
    Calls Try.prog 7 #[.slice A m cap, .int .u8 n, .int .u8 k] w fun e w' => e = .returned (.bool true) ∧ Below w.heap.size w w' := by
  go_enter Try.func7, Try.ntmps7
  go_wp2_with (go_at_call 8; refine (lives_any H _).mono ?_; rintro e w4 ⟨rfl, hb4⟩; have HL4 := Lib.hid hb4; clear hb4)
  go_ret
  exact ⟨rfl, HL4.out⟩
end Go.Proofs.Ytmominipgkchjaa
