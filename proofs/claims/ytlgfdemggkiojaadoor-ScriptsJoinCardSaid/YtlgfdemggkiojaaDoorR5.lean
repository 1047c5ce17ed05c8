/-
  The document's Next of layer 3, where a call stands; conditions: the bytes lie as it says.
-/
import Derived.Test.YtlgfdemggkiojaaDoorR2
namespace Go.Proofs.YtlgfdemggkiojaaDoor
open Go.RowKit

set_option maxRecDepth 100000 in
set_option maxHeartbeats 4000000 in
theorem rnext_9_yes (g off n cap m p : Nat) (x1 x2 x3 x4 : Int) (w : World) (hn : n ≤ cap) (hc : cap ≤ 9223372036854775807) (hm : (n ≤ 65536 ∧ m = n) ∨ (65536 < n ∧ m = 65536)) (hp : p < m) (c0 : w.cell? ⟨g, off + p, none⟩ = some (.int .u8 135)) (d1 : ∀ W, Below w.heap.size w W → Calls Tryd.prog 27 #[.slice (some ⟨g, off, none⟩) m cap, .int .i64 (p + 1)] W fun e W' => e = .returned (.int .i64 x1) ∧ W = W') (d2 : ∀ W, Below w.heap.size w W → Calls Tryd.prog 27 #[.slice (some ⟨g, off, none⟩) m cap, .int .i64 (p + 2)] W fun e W' => e = .returned (.int .i64 x2) ∧ W = W') (d3 : ∀ W, Below w.heap.size w W → Calls Tryd.prog 27 #[.slice (some ⟨g, off, none⟩) m cap, .int .i64 (p + 3)] W fun e W' => e = .returned (.int .i64 x3) ∧ W = W') (d4 : ∀ W, Below w.heap.size w W → Calls Tryd.prog 27 #[.slice (some ⟨g, off, none⟩) m cap, .int .i64 (p + 4)] W fun e W' => e = .returned (.int .i64 x4) ∧ W = W') (h1 : x1 ≤ 15) (h2 : x2 ≤ 7) (a3 : 0 ≤ x3) (b3 : x3 ≤ 255) (a4 : 0 ≤ x4) (h4 : x4 ≤ 255) (hT : m ≤ p + 5 ∨ p + 5 < m) :
    Calls Tryd.prog 13 #[.slice (some ⟨g, off, none⟩) n cap, .int .i64 p] w fun e w' => e = .returned (someCmdR (⟨9, p, p + 5, 0, x1, 0, x2, x3, x4⟩ : Cm)) ∧ Below w.heap.size w w' := by
  have hg : g < w.heap.size := World.block_lt_of_cell? w _ c0
  simp only [someCmdR, Cm.r]
  rcases hT with hT | hT
  all_goals
    have hm1 : m ≤ cap := by omega
    have hm2 : m ≤ 65536 := by omega
    have HM := Lib.hid hm
    clear hm
    go_enter Tryd.func13, Tryd.ntmps13
    go_upto_if 13 with (fail)
    go_cut [0] (fun s0 wx => s0 = .slice (some ⟨g, off, none⟩) m cap ∧ w.alloc zeroCmdR = wx)
    case first =>
      rcases HM.out with ⟨hm, rfl⟩ | ⟨hm, rfl⟩
      all_goals
        go_wp2_with fail
        go_meet
        exact ⟨rfl, rfl⟩
    case rest =>
      obtain ⟨rfl, rfl⟩ := hcut
      unfold zeroCmdR
      clear HM hn
      go_wp2_with (first | (go_at_call 26; refine (long_is 9 4 rfl _).mono ?_; rintro e w' ⟨rfl, rfl⟩) | ((with_reducible refine (d1 _ (below_three _ _ _ _)).mono ?_); rintro e w' ⟨rfl, rfl⟩) | ((with_reducible refine (d2 _ (below_three _ _ _ _)).mono ?_); rintro e w' ⟨rfl, rfl⟩) | ((with_reducible refine (d3 _ (below_three _ _ _ _)).mono ?_); rintro e w' ⟨rfl, rfl⟩) | ((with_reducible refine (d4 _ (below_three _ _ _ _)).mono ?_); rintro e w' ⟨rfl, rfl⟩))
      all_goals
        refine bodyPost_ret (results_cell_tmp rfl _ _ w.heap.size 38 _ (0, 0) _ rfl (first_three _ _ _ _) Tryd.underlying38 rfl isz38) rfl ⟨?_, below_three _ _ _ _⟩
        simp <;> omega
set_option maxRecDepth 100000 in
set_option maxHeartbeats 4000000 in
theorem rnext_9_no1 (g off n cap m p : Nat) (T : Nat) (x1 x2 : Int) (w : World) (hn : n ≤ cap) (hc : cap ≤ 9223372036854775807) (hm : (n ≤ 65536 ∧ m = n) ∨ (65536 < n ∧ m = 65536)) (hp : p < m) (c0 : w.cell? ⟨g, off + p, none⟩ = some (.int .u8 135)) (d1 : ∀ W, Below w.heap.size w W → Calls Tryd.prog 27 #[.slice (some ⟨g, off, none⟩) m cap, .int .i64 (p + 1)] W fun e W' => e = .returned (.int .i64 x1) ∧ W = W') (d2 : ∀ W, Below w.heap.size w W → Calls Tryd.prog 27 #[.slice (some ⟨g, off, none⟩) m cap, .int .i64 (p + 2)] W fun e W' => e = .returned (.int .i64 x2) ∧ W = W') (h1 : 15 < x1) (hT : (m ≤ p + 5 ∧ m = T) ∨ (p + 5 < m ∧ p + 5 = T)) :
    Calls Tryd.prog 13 #[.slice (some ⟨g, off, none⟩) n cap, .int .i64 p] w fun e w' => e = .returned (someCmdR (⟨0, p, T, 0, 0, 0, 0, 0, 0⟩ : Cm)) ∧ Below w.heap.size w w' := by
  have hg : g < w.heap.size := World.block_lt_of_cell? w _ c0
  simp only [someCmdR, Cm.r]
  rcases hT with ⟨hT, rfl⟩ | ⟨hT, rfl⟩
  all_goals
    have hm1 : m ≤ cap := by omega
    have hm2 : m ≤ 65536 := by omega
    have HM := Lib.hid hm
    clear hm
    go_enter Tryd.func13, Tryd.ntmps13
    go_upto_if 13 with (fail)
    go_cut [0] (fun s0 wx => s0 = .slice (some ⟨g, off, none⟩) m cap ∧ w.alloc zeroCmdR = wx)
    case first =>
      rcases HM.out with ⟨hm, rfl⟩ | ⟨hm, rfl⟩
      all_goals
        go_wp2_with fail
        go_meet
        exact ⟨rfl, rfl⟩
    case rest =>
      obtain ⟨rfl, rfl⟩ := hcut
      unfold zeroCmdR
      clear HM hn
      go_wp2_with (first | (go_at_call 26; refine (long_is 9 4 rfl _).mono ?_; rintro e w' ⟨rfl, rfl⟩) | ((with_reducible refine (d1 _ (below_three _ _ _ _)).mono ?_); rintro e w' ⟨rfl, rfl⟩) | ((with_reducible refine (d2 _ (below_three _ _ _ _)).mono ?_); rintro e w' ⟨rfl, rfl⟩))
      all_goals
        refine bodyPost_ret (results_cell_tmp rfl _ _ w.heap.size 38 _ (0, 0) _ rfl (first_three _ _ _ _) Tryd.underlying38 rfl isz38) rfl ⟨?_, below_three _ _ _ _⟩
        simp <;> omega
set_option maxRecDepth 100000 in
set_option maxHeartbeats 4000000 in
theorem rnext_9_no2 (g off n cap m p : Nat) (T : Nat) (x1 x2 : Int) (w : World) (hn : n ≤ cap) (hc : cap ≤ 9223372036854775807) (hm : (n ≤ 65536 ∧ m = n) ∨ (65536 < n ∧ m = 65536)) (hp : p < m) (c0 : w.cell? ⟨g, off + p, none⟩ = some (.int .u8 135)) (d1 : ∀ W, Below w.heap.size w W → Calls Tryd.prog 27 #[.slice (some ⟨g, off, none⟩) m cap, .int .i64 (p + 1)] W fun e W' => e = .returned (.int .i64 x1) ∧ W = W') (d2 : ∀ W, Below w.heap.size w W → Calls Tryd.prog 27 #[.slice (some ⟨g, off, none⟩) m cap, .int .i64 (p + 2)] W fun e W' => e = .returned (.int .i64 x2) ∧ W = W') (h1 : x1 ≤ 15) (h2 : 7 < x2) (hT : (m ≤ p + 5 ∧ m = T) ∨ (p + 5 < m ∧ p + 5 = T)) :
    Calls Tryd.prog 13 #[.slice (some ⟨g, off, none⟩) n cap, .int .i64 p] w fun e w' => e = .returned (someCmdR (⟨0, p, T, 0, 0, 0, 0, 0, 0⟩ : Cm)) ∧ Below w.heap.size w w' := by
  have hg : g < w.heap.size := World.block_lt_of_cell? w _ c0
  simp only [someCmdR, Cm.r]
  rcases hT with ⟨hT, rfl⟩ | ⟨hT, rfl⟩
  all_goals
    have hm1 : m ≤ cap := by omega
    have hm2 : m ≤ 65536 := by omega
    have HM := Lib.hid hm
    clear hm
    go_enter Tryd.func13, Tryd.ntmps13
    go_upto_if 13 with (fail)
    go_cut [0] (fun s0 wx => s0 = .slice (some ⟨g, off, none⟩) m cap ∧ w.alloc zeroCmdR = wx)
    case first =>
      rcases HM.out with ⟨hm, rfl⟩ | ⟨hm, rfl⟩
      all_goals
        go_wp2_with fail
        go_meet
        exact ⟨rfl, rfl⟩
    case rest =>
      obtain ⟨rfl, rfl⟩ := hcut
      unfold zeroCmdR
      clear HM hn
      go_wp2_with (first | (go_at_call 26; refine (long_is 9 4 rfl _).mono ?_; rintro e w' ⟨rfl, rfl⟩) | ((with_reducible refine (d1 _ (below_three _ _ _ _)).mono ?_); rintro e w' ⟨rfl, rfl⟩) | ((with_reducible refine (d2 _ (below_three _ _ _ _)).mono ?_); rintro e w' ⟨rfl, rfl⟩))
      all_goals
        refine bodyPost_ret (results_cell_tmp rfl _ _ w.heap.size 38 _ (0, 0) _ rfl (first_three _ _ _ _) Tryd.underlying38 rfl isz38) rfl ⟨?_, below_three _ _ _ _⟩
        simp <;> omega
set_option maxRecDepth 100000 in
set_option maxHeartbeats 4000000 in
theorem rnext_9_no3 (g off n cap m p : Nat) (T : Nat) (x1 x2 x4 : Int) (w : World) (hn : n ≤ cap) (hc : cap ≤ 9223372036854775807) (hm : (n ≤ 65536 ∧ m = n) ∨ (65536 < n ∧ m = 65536)) (hp : p < m) (c0 : w.cell? ⟨g, off + p, none⟩ = some (.int .u8 135)) (d1 : ∀ W, Below w.heap.size w W → Calls Tryd.prog 27 #[.slice (some ⟨g, off, none⟩) m cap, .int .i64 (p + 1)] W fun e W' => e = .returned (.int .i64 x1) ∧ W = W') (d2 : ∀ W, Below w.heap.size w W → Calls Tryd.prog 27 #[.slice (some ⟨g, off, none⟩) m cap, .int .i64 (p + 2)] W fun e W' => e = .returned (.int .i64 x2) ∧ W = W') (d4 : ∀ W, Below w.heap.size w W → Calls Tryd.prog 27 #[.slice (some ⟨g, off, none⟩) m cap, .int .i64 (p + 4)] W fun e W' => e = .returned (.int .i64 x4) ∧ W = W') (h1 : x1 ≤ 15) (h2 : x2 ≤ 7) (h4 : 255 < x4) (hT : (m ≤ p + 5 ∧ m = T) ∨ (p + 5 < m ∧ p + 5 = T)) :
    Calls Tryd.prog 13 #[.slice (some ⟨g, off, none⟩) n cap, .int .i64 p] w fun e w' => e = .returned (someCmdR (⟨0, p, T, 0, 0, 0, 0, 0, 0⟩ : Cm)) ∧ Below w.heap.size w w' := by
  have hg : g < w.heap.size := World.block_lt_of_cell? w _ c0
  simp only [someCmdR, Cm.r]
  rcases hT with ⟨hT, rfl⟩ | ⟨hT, rfl⟩
  all_goals
    have hm1 : m ≤ cap := by omega
    have hm2 : m ≤ 65536 := by omega
    have HM := Lib.hid hm
    clear hm
    go_enter Tryd.func13, Tryd.ntmps13
    go_upto_if 13 with (fail)
    go_cut [0] (fun s0 wx => s0 = .slice (some ⟨g, off, none⟩) m cap ∧ w.alloc zeroCmdR = wx)
    case first =>
      rcases HM.out with ⟨hm, rfl⟩ | ⟨hm, rfl⟩
      all_goals
        go_wp2_with fail
        go_meet
        exact ⟨rfl, rfl⟩
    case rest =>
      obtain ⟨rfl, rfl⟩ := hcut
      unfold zeroCmdR
      clear HM hn
      go_wp2_with (first | (go_at_call 26; refine (long_is 9 4 rfl _).mono ?_; rintro e w' ⟨rfl, rfl⟩) | ((with_reducible refine (d1 _ (below_three _ _ _ _)).mono ?_); rintro e w' ⟨rfl, rfl⟩) | ((with_reducible refine (d2 _ (below_three _ _ _ _)).mono ?_); rintro e w' ⟨rfl, rfl⟩) | ((with_reducible refine (d4 _ (below_three _ _ _ _)).mono ?_); rintro e w' ⟨rfl, rfl⟩))
      all_goals
        refine bodyPost_ret (results_cell_tmp rfl _ _ w.heap.size 38 _ (0, 0) _ rfl (first_three _ _ _ _) Tryd.underlying38 rfl isz38) rfl ⟨?_, below_three _ _ _ _⟩
        simp <;> omega
end Go.Proofs.YtlgfdemggkiojaaDoor
