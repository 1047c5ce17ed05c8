/-
  The document's side of stage 5: May, Done, Of; conditions: words of 64 bits, generations of 32.
-/
import Derived.Test.YtfholfmlkehfnaaDoorW4
import Derived.Test.YtfholfmlkehfnaaDoorHPlain
namespace Go.Proofs.YtfholfmlkehfnaaDoor
open Go.RowKit

theorem field_35_63 (x : Int) (w : World) (hx : U64 x) : Calls Tryd.prog 20 #[.int .u64 x, .int .i64 35, .int .i64 63] w fun e w' => e = .returned (.int .u64 (fld x 35 29)) ∧ w' = w :=
  field_any x 35 63 w hx (by decide) (by decide)
theorem fld_up0 (x : Int) (hx : U64 x) : fld x 35 29 = x / 34359738368 := by
  rw [fld_up]
  unfold U64 at hx
  omega
theorem rmay_form (x most : Int) (hx : U64 x) : mayH x most = decide (fld x 0 3 ≤ 4 ∧ fld x 35 29 = 0 ∧ fld x 3 32 ≤ most ∧ (fld x 0 3 = 4 → fld x 3 32 = most)) := by
  unfold mayH
  rw [fld_up0 x hx, fld_s, fld_g]
theorem rb {a b : Bool} (h : a = b) : Ending.returned (.bool a) = .returned (.bool b) := by rw [h]
set_option maxHeartbeats 2000000 in
theorem rmay_any (x most : Int) (w : World) (hx : U64 x) (hm : U32 most) : Calls Tryd.prog 8 #[.int .u64 x, .int .u32 most] w fun e w' => e = .returned (.bool (mayH x most)) ∧ w' = w := by
  have HF := Lib.hid (rmay_form x most hx)
  have F1 := Lib.hid (fun W => field_0_2 x W hx)
  have F2 := Lib.hid (fun W => field_3_34 x W hx)
  have F3 := Lib.hid (fun W => field_35_63 x W hx)
  have s1 := fld_nonneg x 0 3
  have s2 := fld_lt x 0 3
  have g1 := fld_nonneg x 3 32
  have g2 := fld_lt x 3 32
  have r1 := fld_nonneg x 35 29
  rw [show (2 : Int) ^ 3 = 8 by decide] at s2
  rw [show (2 : Int) ^ 32 = 4294967296 by decide] at g2
  unfold U32 at hm
  obtain ⟨m0, m1⟩ := hm
  generalize fld x 0 3 = s at *
  generalize fld x 3 32 = g at *
  generalize fld x 35 29 = r at *
  clear hx
  by_cases h1 : 4 < s
  · go_enter Tryd.func8, Tryd.ntmps8
    go_wp2_with fail
    refine (F1.out _).mono ?_
    rintro e w' ⟨rfl, rfl⟩
    go_wp2_with fail
    refine (F2.out _).mono ?_
    rintro e w' ⟨rfl, rfl⟩
    go_wp2_with fail
    go_ret
    exact ⟨rb (HF.out.trans (decide_eq_false (fun h => by have := h.1; have := h.2.1; have := h.2.2.1; omega))).symm, rfl⟩
  · have h1' : s ≤ 4 := by omega
    by_cases h2 : r = 0
    · subst h2
      by_cases h3 : most < g
      · go_enter Tryd.func8, Tryd.ntmps8
        go_wp2_with fail
        refine (F1.out _).mono ?_
        rintro e w' ⟨rfl, rfl⟩
        go_wp2_with fail
        refine (F2.out _).mono ?_
        rintro e w' ⟨rfl, rfl⟩
        go_wp2_with fail
        refine (F3.out _).mono ?_
        rintro e w' ⟨rfl, rfl⟩
        go_wp2_with fail
        go_ret
        exact ⟨rb (HF.out.trans (decide_eq_false (fun h => by have := h.1; have := h.2.1; have := h.2.2.1; omega))).symm, rfl⟩
      · have h3' : g ≤ most := by omega
        by_cases h4 : s = 4
        · subst h4
          by_cases h5 : g = most
          · subst h5
            go_enter Tryd.func8, Tryd.ntmps8
            go_wp2_with fail
            refine (F1.out _).mono ?_
            rintro e w' ⟨rfl, rfl⟩
            go_wp2_with fail
            refine (F2.out _).mono ?_
            rintro e w' ⟨rfl, rfl⟩
            go_wp2_with fail
            refine (F3.out _).mono ?_
            rintro e w' ⟨rfl, rfl⟩
            go_wp2_with fail
            go_ret
            exact ⟨rb (HF.out.trans (decide_eq_true (⟨by omega, by trivial, by omega, fun _ => by omega⟩))).symm, rfl⟩
          · go_enter Tryd.func8, Tryd.ntmps8
            go_wp2_with fail
            refine (F1.out _).mono ?_
            rintro e w' ⟨rfl, rfl⟩
            go_wp2_with fail
            refine (F2.out _).mono ?_
            rintro e w' ⟨rfl, rfl⟩
            go_wp2_with fail
            refine (F3.out _).mono ?_
            rintro e w' ⟨rfl, rfl⟩
            go_wp2_with fail
            go_ret
            exact ⟨rb ((beq_eq_false_iff_ne.2 h5).trans (HF.out.trans (decide_eq_false (fun h => h5 (h.2.2.2 (by trivial))))).symm), rfl⟩
        · go_enter Tryd.func8, Tryd.ntmps8
          go_wp2_with fail
          refine (F1.out _).mono ?_
          rintro e w' ⟨rfl, rfl⟩
          go_wp2_with fail
          refine (F2.out _).mono ?_
          rintro e w' ⟨rfl, rfl⟩
          go_wp2_with fail
          refine (F3.out _).mono ?_
          rintro e w' ⟨rfl, rfl⟩
          go_wp2_with fail
          go_ret
          exact ⟨rb (HF.out.trans (decide_eq_true (⟨by omega, by trivial, by omega, fun _ => by omega⟩))).symm, rfl⟩
    · go_enter Tryd.func8, Tryd.ntmps8
      go_wp2_with fail
      refine (F1.out _).mono ?_
      rintro e w' ⟨rfl, rfl⟩
      go_wp2_with fail
      refine (F2.out _).mono ?_
      rintro e w' ⟨rfl, rfl⟩
      go_wp2_with fail
      refine (F3.out _).mono ?_
      rintro e w' ⟨rfl, rfl⟩
      go_wp2_with fail
      go_ret
      exact ⟨rb (HF.out.trans (decide_eq_false (fun h => by have := h.1; have := h.2.1; have := h.2.2.1; omega))).symm, rfl⟩
/-- What Done tells. -/
def toldW (o : Option Int) : Value := .tuple #[.int .u64 (o.getD 0), .bool o.isSome]
theorem rt {a b : Value} (h : a = b) : Ending.returned a = .returned b := by rw [h]
theorem told_none : toldW none = .tuple #[.int .u64 0, .bool false] := rfl
theorem told_some (x : Int) : toldW (some x) = .tuple #[.int .u64 x, .bool true] := rfl
set_option maxHeartbeats 8000000 in
theorem rdone_any (x c most : Int) (w : World) (hx : U64 x) (hm : U32 most) : Calls Tryd.prog 12 #[.int .u64 x, .int .i64 c, .int .u32 most] w fun e w' => e = .returned (toldW (doneH x c most)) ∧ w' = w := by
  have CM := Lib.hid (fun W => rmay_any x most W hx hm)
  cases hb : mayH x most with
  | false =>
    have HD := Lib.hid (done_no (c := c) hb)
    rw [hb] at CM
    clear hb
    go_enter Tryd.func12, Tryd.ntmps12
    go_wp2_with fail
    refine (CM.out _).mono ?_
    rintro e w' ⟨rfl, rfl⟩
    go_wp2_with fail
    go_ret2
    exact ⟨rt (by rw [HD.out]; rfl), rfl⟩
  | true =>
    rw [hb] at CM
    obtain ⟨ho, hf⟩ := may_form hx hb
    clear hb
    generalize x % 8 = s at *
    generalize x / 8 % 4294967296 = g at *
    subst hf
    have HD := Lib.hid (done_hw (c := c) ho hm)
    have CA : Hid (∀ W, Calls Tryd.prog 23 #[.int .u64 (hw s g)] W fun e w' => e = .returned (.tuple #[.int .u8 s, .int .u32 g]) ∧ w' = W) := Lib.hid (fun W => by
      have h := asHeader24_any (hw s g) W hx
      rw [fld_s, fld_g, hw_s ho, hw_g ho hm, show stS s = s by unfold stS; rw [if_neg (by have := ho.s4; omega)]] at h
      exact h)
    have HO := Lib.hid ho
    obtain ⟨s0, s4, g0, gm, hgone⟩ := ho
    have hm' := hm
    unfold U32 at hm'
    obtain ⟨m0, m1⟩ := hm'
    have CH : Hid (∀ t h W, 0 ≤ t → t ≤ 4 → U32 h → Calls Tryd.prog 24 #[.int .u8 t, .int .u32 h] W fun e w' => e = .returned (.int .u64 (hw t h)) ∧ w' = W) := Lib.hid (fun t h W h0 h4 hh => by
      have hh' := hh
      unfold U32 at hh'
      have k := header28_any t h W ⟨by omega, by omega⟩ ⟨by omega, by omega⟩
      rw [headerW_hw h0 h4 hh] at k
      exact k)
    have hgu : U32 g := ⟨g0, by omega⟩
    clear hgone hx
    go_enter Tryd.func12, Tryd.ntmps12
    go_wp2_with fail
    refine (CM.out _).mono ?_
    rintro e w' ⟨rfl, rfl⟩
    go_wp2_with fail
    refine (CA.out _).mono ?_
    rintro e w' ⟨rfl, rfl⟩
    clear CM CA
    by_cases hc1 : c = 1
    · subst hc1
      by_cases hs : s = 0
      · subst hs
        have HR := Lib.hid (HD.out.trans (show _ = some (hw 1 g) by simp [doneS]))
        go_wp2_with fail
        refine (CH.out 1 g _ (by omega) (by omega) ⟨by omega, by omega⟩).mono ?_
        rintro e w' ⟨rfl, rfl⟩
        go_wp2_with fail
        go_ret2
        exact ⟨rt (by rw [HR.out]; rfl), rfl⟩
      · have HR := Lib.hid (HD.out.trans (show _ = (none : Option Int) by simp [doneS, hs]))
        go_wp2_with fail
        go_ret2
        exact ⟨rt (by rw [HR.out]; rfl), rfl⟩
    · skip
      by_cases hc2 : c = 2
      · subst hc2
        by_cases hs : s = 1
        · subst hs
          have HR := Lib.hid (HD.out.trans (show _ = some (hw 2 g) by simp [doneS]))
          go_wp2_with fail
          refine (CH.out 2 g _ (by omega) (by omega) ⟨by omega, by omega⟩).mono ?_
          rintro e w' ⟨rfl, rfl⟩
          go_wp2_with fail
          go_ret2
          exact ⟨rt (by rw [HR.out]; rfl), rfl⟩
        · have HR := Lib.hid (HD.out.trans (show _ = (none : Option Int) by simp [doneS, hs]))
          go_wp2_with fail
          go_ret2
          exact ⟨rt (by rw [HR.out]; rfl), rfl⟩
      · skip
        by_cases hc3 : c = 3
        · subst hc3
          by_cases hs : s = 2
          · subst hs
            by_cases hg : g < most
            · have HR := Lib.hid (HD.out.trans (show _ = some (hw 0 (g + 1)) by simp [doneS, hg]))
              go_wp2_with fail
              refine (CH.out 0 (g + 1) _ (by omega) (by omega) ⟨by omega, by omega⟩).mono ?_
              rintro e w' ⟨rfl, rfl⟩
              go_wp2_with fail
              go_ret2
              exact ⟨rt (by rw [HR.out]; rfl), rfl⟩
            · have HR := Lib.hid (HD.out.trans (show _ = (none : Option Int) by simp [doneS, hg]))
              go_wp2_with fail
              go_ret2
              exact ⟨rt (by rw [HR.out]; rfl), rfl⟩
          · have HR := Lib.hid (HD.out.trans (show _ = (none : Option Int) by simp [doneS, hs]))
            go_wp2_with fail
            go_ret2
            exact ⟨rt (by rw [HR.out]; rfl), rfl⟩
        · skip
          by_cases hc4 : c = 4
          · subst hc4
            by_cases hs : s = 1
            · subst hs
              by_cases hg : g < most
              · have HR := Lib.hid (HD.out.trans (show _ = some (hw 0 (g + 1)) by simp [doneS, hg]))
                go_wp2_with fail
                refine (CH.out 0 (g + 1) _ (by omega) (by omega) ⟨by omega, by omega⟩).mono ?_
                rintro e w' ⟨rfl, rfl⟩
                go_wp2_with fail
                go_ret2
                exact ⟨rt (by rw [HR.out]; rfl), rfl⟩
              · have HR := Lib.hid (HD.out.trans (show _ = (none : Option Int) by simp [doneS, hg]))
                go_wp2_with fail
                go_ret2
                exact ⟨rt (by rw [HR.out]; rfl), rfl⟩
            · have HR := Lib.hid (HD.out.trans (show _ = (none : Option Int) by simp [doneS, hs]))
              go_wp2_with fail
              go_ret2
              exact ⟨rt (by rw [HR.out]; rfl), rfl⟩
          · skip
            by_cases hc5 : c = 5
            · subst hc5
              by_cases hg : g = most
              · subst hg
                by_cases hs : s = 1
                · subst hs
                  have HR := Lib.hid (HD.out.trans (show _ = some (hw 4 g) by simp [doneS]))
                  go_wp2_with fail
                  refine (CH.out 4 g _ (by omega) (by omega) ⟨by omega, by omega⟩).mono ?_
                  rintro e w' ⟨rfl, rfl⟩
                  go_wp2_with fail
                  go_ret2
                  exact ⟨rt (by rw [HR.out]; rfl), rfl⟩
                · by_cases hs2 : s = 2
                  · subst hs2
                    have HR := Lib.hid (HD.out.trans (show _ = some (hw 4 g) by simp [doneS]))
                    go_wp2_with fail
                    refine (CH.out 4 g _ (by omega) (by omega) ⟨by omega, by omega⟩).mono ?_
                    rintro e w' ⟨rfl, rfl⟩
                    go_wp2_with fail
                    go_ret2
                    exact ⟨rt (by rw [HR.out]; rfl), rfl⟩
                  · have HR := Lib.hid (HD.out.trans (show _ = (none : Option Int) by simp [doneS, hs, hs2]))
                    go_wp2_with fail
                    go_ret2
                    exact ⟨rt (by rw [HR.out]; rfl), rfl⟩
              · have hgb : (g == most) = false := beq_eq_false_iff_ne.2 hg
                by_cases hs : s = 1
                · subst hs
                  have HR := Lib.hid (HD.out.trans (show _ = (none : Option Int) by simp [doneS, hg]))
                  go_wp2_with fail
                  go_ret2
                  exact ⟨rt (by rw [HR.out]; rfl), rfl⟩
                · by_cases hs2 : s = 2
                  · subst hs2
                    have HR := Lib.hid (HD.out.trans (show _ = (none : Option Int) by simp [doneS, hg]))
                    go_wp2_with fail
                    go_ret2
                    exact ⟨rt (by rw [HR.out]; rfl), rfl⟩
                  · have HR := Lib.hid (HD.out.trans (show _ = (none : Option Int) by simp [doneS, hs, hs2]))
                    go_wp2_with fail
                    go_ret2
                    exact ⟨rt (by rw [HR.out]; rfl), rfl⟩
            · skip
              by_cases hc6 : c = 6
              · subst hc6
                by_cases hs : s = 0
                · subst hs
                  have HR := Lib.hid (HD.out.trans (show _ = some (hw 3 g) by simp [doneS]))
                  go_wp2_with fail
                  refine (CH.out 3 g _ (by omega) (by omega) ⟨by omega, by omega⟩).mono ?_
                  rintro e w' ⟨rfl, rfl⟩
                  go_wp2_with fail
                  go_ret2
                  exact ⟨rt (by rw [HR.out]; rfl), rfl⟩
                · have HR := Lib.hid (HD.out.trans (show _ = (none : Option Int) by simp [doneS, hs]))
                  go_wp2_with fail
                  go_ret2
                  exact ⟨rt (by rw [HR.out]; rfl), rfl⟩
              · skip
                by_cases hc7 : c = 7
                · subst hc7
                  by_cases hs : s = 3
                  · subst hs
                    have HR := Lib.hid (HD.out.trans (show _ = some (hw 0 g) by simp [doneS]))
                    go_wp2_with fail
                    refine (CH.out 0 g _ (by omega) (by omega) ⟨by omega, by omega⟩).mono ?_
                    rintro e w' ⟨rfl, rfl⟩
                    go_wp2_with fail
                    go_ret2
                    exact ⟨rt (by rw [HR.out]; rfl), rfl⟩
                  · have HR := Lib.hid (HD.out.trans (show _ = (none : Option Int) by simp [doneS, hs]))
                    go_wp2_with fail
                    go_ret2
                    exact ⟨rt (by rw [HR.out]; rfl), rfl⟩
                · skip
                  have HR := Lib.hid (HD.out.trans (show _ = (none : Option Int) by simp [doneS, hc1, hc2, hc3, hc4, hc5, hc6, hc7]))
                  go_wp2_with fail
                  go_ret2
                  exact ⟨rt (by rw [HR.out]; rfl), rfl⟩
end Go.Proofs.YtfholfmlkehfnaaDoor
