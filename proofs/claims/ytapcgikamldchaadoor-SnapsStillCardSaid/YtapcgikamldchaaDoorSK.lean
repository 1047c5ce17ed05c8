/-
  Package snaps: how many steps a snapshot takes; condition: the threads lie as they say.
-/
import Derived.Test.YtapcgikamldchaaDoorSK4
namespace Go.Proofs.YtapcgikamldchaaDoor
open Go.RowKit Go.Maps

section
variable {w w' : World}
set_option maxRecDepth 100000 in
theorem stepsOfF {a0 a1 a2 a3 a4 a5 a6 a7 a8 a9 : Int} (w : World) : Calls Tryd.prog 32 #[.agg #[.int .u64 a0, .int .u64 a1, .int .u64 a2, .int .u64 a3, .int .u64 a4, .int .u64 a5, .int .u64 a6, .int .u64 a7, .int .u64 a8, .int .u64 a9]] w fun e w' => e = .returned (.int .i64 (if a0 = 0 then 1 else 10)) ∧ Below w.heap.size w w' := by
  have hb : Below w.heap.size w (w.alloc (.cells #[.int .u64 a0, .int .u64 a1, .int .u64 a2, .int .u64 a3, .int .u64 a4, .int .u64 a5, .int .u64 a6, .int .u64 a7, .int .u64 a8, .int .u64 a9] 52)) := (Below.refl _ w).alloc (Nat.le_refl _) _
  have HB := Lib.hid hb
  have HQ := Lib.hid (Bq.new w [.int .u64 a0, .int .u64 a1, .int .u64 a2, .int .u64 a3, .int .u64 a4, .int .u64 a5, .int .u64 a6, .int .u64 a7, .int .u64 a8, .int .u64 a9] 52)
  clear hb
  by_cases h0 : a0 = 0
  · subst h0
    rw [if_pos rfl]
    go_enter Tryd.func32, Tryd.ntmps32
    go_upto_region 1 with (fail)
    revert HB HQ
    generalize (w.alloc (.cells #[.int .u64 0, .int .u64 a1, .int .u64 a2, .int .u64 a3, .int .u64 a4, .int .u64 a5, .int .u64 a6, .int .u64 a7, .int .u64 a8, .int .u64 a9] 52)) = w1
    intro HB HQ
    have x0 : w1.cell? ⟨w.heap.size, 0, none⟩ = some (.int .u64 0) := HQ.out.cell 0
    go_wp2_with fail
    go_ret
    exact ⟨rfl, HB.out⟩
  · rw [if_neg h0]
    have h1 : (a0 == 0) = false := beq_eq_false_iff_ne.2 h0
    go_enter Tryd.func32, Tryd.ntmps32
    go_upto_region 1 with (fail)
    revert HB HQ
    generalize (w.alloc (.cells #[.int .u64 a0, .int .u64 a1, .int .u64 a2, .int .u64 a3, .int .u64 a4, .int .u64 a5, .int .u64 a6, .int .u64 a7, .int .u64 a8, .int .u64 a9] 52)) = w1
    intro HB HQ
    have x0 : w1.cell? ⟨w.heap.size, 0, none⟩ = some (.int .u64 a0) := HQ.out.cell 0
    go_wp2_with fail
    go_ret
    exact ⟨rfl, HB.out⟩
set_option maxRecDepth 100000 in
set_option maxHeartbeats 4000000 in
theorem stepsT_all {A : Option Addr} {n C : Nat} {ep : Int} {xs : List TH} (h : SeeH w (.slice A n C) xs) (hn : n < 1000) : Calls Tryd.prog 18 #[.agg #[.slice A n C, .int .u64 ep]] w fun e w' => e = .returned (.int .i64 ((1 + costL xs : Nat) : Int)) ∧ Below w.heap.size w w' := by
  have HN := Lib.hid h.len
  have hA := (Below.refl w.heap.size w).alloc (Nat.le_refl _) (.cells #[.slice A n C, .int .u64 ep] 36)
  have HA := Lib.hid hA
  have HX := Lib.hid (h.below hA)
  have HQ := Lib.hid (Bq.new w [.slice A n C, .int .u64 ep] 36)
  clear h hA
  go_enter Tryd.func18, Tryd.ntmps18
  go_upto_region 1 with (fail)
  revert HA HX HQ
  generalize w.alloc (.cells #[.slice A n C, .int .u64 ep] 36) = w1
  intro HA HX HQ
  have hc := HQ.out.cell 0
  dsimp only [List.getElem?_cons_zero] at hc
  go_wp2_with fail
  clear hc HQ
  go_loopw [3, 9] (fun x j wr => ∃ i m : Nat, i ≤ n ∧ j = .int .i64 (i : Int) ∧ x = .int .i64 (m : Int) ∧ m = 1 + costL (xs.take i) ∧ Hid (Below w.heap.size w wr ∧ SeeH wr (.slice A n C) xs)) (fun _ j _ => n - (intOf j).toNat)
  case atStart => exact ⟨0, 1, Nat.zero_le _, rfl, rfl, by simp [costL], Lib.hid ⟨HA.out, HX.out⟩⟩
  case round =>
    clear HA HX
    obtain ⟨i, m, hi, rfl, rfl, hm, HM⟩ := hrel
    rename World => wr
    have hge : (0 : Int) ≤ (i : Int) := by omega
    have hm1 : m ≤ 1 + 10 * n := by
      have := cost_le (xs.take i)
      rw [List.length_take] at this
      omega
    have HC := Lib.hid hm
    clear hm
    by_cases hlt : i < n
    · have hlt' : (i : Int) < (n : Int) := by omega
      obtain ⟨hc0, hc1, g1, o1, rfl⟩ := HM.out.2.addr (by omega)
      obtain ⟨x0, x1, x2, x3, x4, x5, x6, x7, x8, x9⟩ := HM.out.2.ten (j := i) (by have := HN.out; omega)
      have HT := Lib.hid (cost_take (xs := xs) (i := i) (by have := HN.out; omega))
      generalize hev : xs.getD i TH.zero = ev at *
      obtain ⟨a0, a1, a2, a3, a4, a5, a6, a7, a8, a9⟩ := ev
      simp only [TH.get] at x0 x1 x2 x3 x4 x5 x6 x7 x8 x9
      dsimp only at HT
      clear hev
      have hbX : Below wr.heap.size wr (wr.alloc (.cells #[.int .u64 a0, .int .u64 a1, .int .u64 a2, .int .u64 a3, .int .u64 a4, .int .u64 a5, .int .u64 a6, .int .u64 a7, .int .u64 a8, .int .u64 a9] 52)) := (Below.refl _ _).alloc (Nat.le_refl _) _
      have HBX := Lib.hid (show Below w.heap.size w (wr.alloc (.cells #[.int .u64 a0, .int .u64 a1, .int .u64 a2, .int .u64 a3, .int .u64 a4, .int .u64 a5, .int .u64 a6, .int .u64 a7, .int .u64 a8, .int .u64 a9] 52)) ∧ SeeH (wr.alloc (.cells #[.int .u64 a0, .int .u64 a1, .int .u64 a2, .int .u64 a3, .int .u64 a4, .int .u64 a5, .int .u64 a6, .int .u64 a7, .int .u64 a8, .int .u64 a9] 52)) (.slice (some ⟨g1, o1, none⟩) n C) xs from ⟨HM.out.1.trans (hbX.mono HM.out.1.size), HM.out.2.below hbX⟩)
      have HQ := Lib.hid (Bq.new wr [.int .u64 a0, .int .u64 a1, .int .u64 a2, .int .u64 a3, .int .u64 a4, .int .u64 a5, .int .u64 a6, .int .u64 a7, .int .u64 a8, .int .u64 a9] 52)
      clear hbX HM
      go_upto_region 5 with (fail)
      revert HBX HQ
      generalize (wr.alloc (.cells #[.int .u64 a0, .int .u64 a1, .int .u64 a2, .int .u64 a3, .int .u64 a4, .int .u64 a5, .int .u64 a6, .int .u64 a7, .int .u64 a8, .int .u64 a9] 52)) = w5
      generalize wr.heap.size = e5
      intro HBX HQ
      clear x0 x1 x2 x3 x4 x5 x6 x7 x8 x9
      obtain ⟨x0, x1, x2, x3, x4, x5, x6, x7, x8, x9⟩ := ten_cells HQ.out
      go_wp2_with fail
      ((with_reducible refine (stepsOfF w5).mono ?_); rintro e1 w6 ⟨rfl, hb6⟩)
      have HM6 := Lib.hid (show Below w.heap.size w w6 ∧ SeeH w6 (.slice (some ⟨g1, o1, none⟩) n C) xs from ⟨HBX.out.1.trans (hb6.mono HBX.out.1.size), HBX.out.2.below hb6⟩)
      clear HBX HQ x0 x1 x2 x3 x4 x5 x6 x7 x8 x9 hb6
      by_cases h0 : a0 = 0
      · have HE := Lib.hid (show m + 1 = 1 + costL (xs.take (i + 1)) by rw [HT.out, HC.out, if_pos h0]; omega)
        rw [if_pos h0]
        clear HC HT h0
        go_wp2_with fail
        go_roundw
        case rel => exact ⟨i + 1, m + 1, by omega, by go_num, by go_num, HE.out, HM6⟩
        case measure => simp [intOf]; omega
      · have HE := Lib.hid (show m + 10 = 1 + costL (xs.take (i + 1)) by rw [HT.out, HC.out, if_neg h0]; omega)
        rw [if_neg h0]
        clear HC HT h0
        go_wp2_with fail
        go_roundw
        case rel => exact ⟨i + 1, m + 10, by omega, by go_num, by go_num, HE.out, HM6⟩
        case measure => simp [intOf]; omega
    · have hin : i = n := by omega
      have hnl : ¬ (i : Int) < (n : Int) := by omega
      have HE := Lib.hid (show m = 1 + costL xs by rw [HC.out, List.take_of_length_le (by have := HN.out; omega)])
      clear hin HC
      go_wp2_with fail
      go_ret
      have hE : (1 : Int) + ((costL xs : Nat) : Int) = (m : Int) := by have := HE.out; omega
      exact ⟨by rw [hE]; rfl, HM.out.1⟩
end
end Go.Proofs.YtapcgikamldchaaDoor
