/-
  The document's Next of layer 3, where a command stands, kind by kind; conditions: the bytes lie as it says.
-/
import Derived.Test.YtlgfdemggkiojaaDoorR1
import Derived.Deep.DeepCutAuto
namespace Go.Proofs.YtlgfdemggkiojaaDoor
open Go.RowKit

theorem below_one (w : World) (x : Obj) : Below w.heap.size w (w.alloc x) := (Below.refl _ _).alloc (Nat.le_refl _) _
def zeroCmdR : Obj := .cells #[.int .i64 0, .int .i64 0, .int .i64 0, .int .i64 0, .int .i64 0, .int .u8 0, .int .i64 0, .int .u64 0, .int .u64 0] 38
theorem first_one (w : World) (x : Obj) : (w.alloc x).heap[w.heap.size]? = some x := heap_alloc_new w x
theorem first_two (w : World) (x y : Obj) : ((w.alloc x).alloc y).heap[w.heap.size]? = some x := (Below.heap_alloc _ _ _ (by simp)).trans (first_one w x)
theorem first_three (w : World) (x y z : Obj) : (((w.alloc x).alloc y).alloc z).heap[w.heap.size]? = some x := (Below.heap_alloc _ _ _ (by simp; omega)).trans (first_two w x y)
set_option maxRecDepth 100000 in
set_option maxHeartbeats 4000000 in
theorem rnext_pick (g off n cap m p : Nat) (x : Int) (w : World) (hn : n ≤ cap) (hc : cap ≤ 9223372036854775807) (hm : (n ≤ 65536 ∧ m = n) ∨ (65536 < n ∧ m = 65536)) (hp : p < m) (c0 : w.cell? ⟨g, off + p, none⟩ = some (.int .u8 x)) (h0 : 0 ≤ x) (h1 : x ≤ 127) :
    Calls Tryd.prog 13 #[.slice (some ⟨g, off, none⟩) n cap, .int .i64 p] w fun e w' => e = .returned (someCmdR (⟨1, p, p + 1, x, 0, 0, 0, 0, 0⟩ : Cm)) ∧ Below w.heap.size w w' := by
  have hg : g < w.heap.size := World.block_lt_of_cell? w _ c0
  simp only [someCmdR, Cm.r]
  have hm1 : m ≤ cap := by omega
  have hm2 : m ≤ 65536 := by omega
  have HM := Lib.hid hm
  clear hm
  go_enter Tryd.func13, Tryd.ntmps13
  go_upto_if 13 with (fail)
  go_cut [0] (fun s0 wx => s0 = .slice (some ⟨g, off, none⟩) m cap ∧ w.alloc zeroCmdR = wx)
  case first =>
    rcases HM.out with ⟨hm, rfl⟩ | ⟨hm, rfl⟩
    all_goals
      go_wp2_with fail
      go_meet
      exact ⟨rfl, rfl⟩
  case rest =>
    obtain ⟨rfl, rfl⟩ := hcut
    unfold zeroCmdR
    clear HM hn
    go_wp2_with (fail)
    all_goals
      refine bodyPost_ret (results_cell_tmp rfl _ _ w.heap.size 38 _ (0, 0) _ rfl (first_one _ _) Tryd.underlying38 rfl isz38) rfl ⟨?_, below_one _ _⟩
      simp <;> omega
set_option maxRecDepth 100000 in
set_option maxHeartbeats 4000000 in
theorem rnext_high (g off n cap m p : Nat) (x : Int) (w : World) (hn : n ≤ cap) (hc : cap ≤ 9223372036854775807) (hm : (n ≤ 65536 ∧ m = n) ∨ (65536 < n ∧ m = 65536)) (hp : p < m) (c0 : w.cell? ⟨g, off + p, none⟩ = some (.int .u8 x)) (h0 : 136 ≤ x) (h1 : x ≤ 255) :
    Calls Tryd.prog 13 #[.slice (some ⟨g, off, none⟩) n cap, .int .i64 p] w fun e w' => e = .returned (someCmdR (⟨0, p, p + 1, 0, 0, 0, 0, 0, 0⟩ : Cm)) ∧ Below w.heap.size w w' := by
  have hg : g < w.heap.size := World.block_lt_of_cell? w _ c0
  simp only [someCmdR, Cm.r]
  have hm1 : m ≤ cap := by omega
  have hm2 : m ≤ 65536 := by omega
  have HM := Lib.hid hm
  clear hm
  go_enter Tryd.func13, Tryd.ntmps13
  go_upto_if 13 with (fail)
  go_cut [0] (fun s0 wx => s0 = .slice (some ⟨g, off, none⟩) m cap ∧ w.alloc zeroCmdR = wx)
  case first =>
    rcases HM.out with ⟨hm, rfl⟩ | ⟨hm, rfl⟩
    all_goals
      go_wp2_with fail
      go_meet
      exact ⟨rfl, rfl⟩
  case rest =>
    obtain ⟨rfl, rfl⟩ := hcut
    unfold zeroCmdR
    clear HM hn
    go_wp2_with (fail)
    all_goals
      refine bodyPost_ret (results_cell_tmp rfl _ _ w.heap.size 38 _ (0, 0) _ rfl (first_two _ _ _) Tryd.underlying38 rfl isz38) rfl ⟨?_, below_two _ _ _⟩
      simp <;> omega
set_option maxRecDepth 100000 in
set_option maxHeartbeats 4000000 in
theorem rnext_2_yes (g off n cap m p : Nat) (x1 : Int) (w : World) (hn : n ≤ cap) (hc : cap ≤ 9223372036854775807) (hm : (n ≤ 65536 ∧ m = n) ∨ (65536 < n ∧ m = 65536)) (hp : p < m) (c0 : w.cell? ⟨g, off + p, none⟩ = some (.int .u8 128)) (d1 : ∀ W, Below w.heap.size w W → Calls Tryd.prog 27 #[.slice (some ⟨g, off, none⟩) m cap, .int .i64 (p + 1)] W fun e W' => e = .returned (.int .i64 x1) ∧ W = W') (hT : m ≤ p + 1 ∨ p + 1 < m) :
    Calls Tryd.prog 13 #[.slice (some ⟨g, off, none⟩) n cap, .int .i64 p] w fun e w' => e = .returned (someCmdR (⟨2, p, p + 1, 0, 0, 0, 0, 0, 0⟩ : Cm)) ∧ Below w.heap.size w w' := by
  have hg : g < w.heap.size := World.block_lt_of_cell? w _ c0
  simp only [someCmdR, Cm.r]
  rcases hT with hT | hT
  all_goals
    have hm1 : m ≤ cap := by omega
    have hm2 : m ≤ 65536 := by omega
    have HM := Lib.hid hm
    clear hm
    go_enter Tryd.func13, Tryd.ntmps13
    go_upto_if 13 with (fail)
    go_cut [0] (fun s0 wx => s0 = .slice (some ⟨g, off, none⟩) m cap ∧ w.alloc zeroCmdR = wx)
    case first =>
      rcases HM.out with ⟨hm, rfl⟩ | ⟨hm, rfl⟩
      all_goals
        go_wp2_with fail
        go_meet
        exact ⟨rfl, rfl⟩
    case rest =>
      obtain ⟨rfl, rfl⟩ := hcut
      unfold zeroCmdR
      clear HM hn
      go_wp2_with (first | (go_at_call 26; refine (long_is 2 0 rfl _).mono ?_; rintro e w' ⟨rfl, rfl⟩) | ((with_reducible refine (d1 _ (below_three _ _ _ _)).mono ?_); rintro e w' ⟨rfl, rfl⟩))
      all_goals
        refine bodyPost_ret (results_cell_tmp rfl _ _ w.heap.size 38 _ (0, 0) _ rfl (first_three _ _ _ _) Tryd.underlying38 rfl isz38) rfl ⟨?_, below_three _ _ _ _⟩
        simp <;> omega
set_option maxRecDepth 100000 in
set_option maxHeartbeats 4000000 in
theorem rnext_7_yes (g off n cap m p : Nat) (x1 : Int) (w : World) (hn : n ≤ cap) (hc : cap ≤ 9223372036854775807) (hm : (n ≤ 65536 ∧ m = n) ∨ (65536 < n ∧ m = 65536)) (hp : p < m) (c0 : w.cell? ⟨g, off + p, none⟩ = some (.int .u8 133)) (d1 : ∀ W, Below w.heap.size w W → Calls Tryd.prog 27 #[.slice (some ⟨g, off, none⟩) m cap, .int .i64 (p + 1)] W fun e W' => e = .returned (.int .i64 x1) ∧ W = W') (hT : m ≤ p + 1 ∨ p + 1 < m) :
    Calls Tryd.prog 13 #[.slice (some ⟨g, off, none⟩) n cap, .int .i64 p] w fun e w' => e = .returned (someCmdR (⟨7, p, p + 1, 0, 0, 0, 0, 0, 0⟩ : Cm)) ∧ Below w.heap.size w w' := by
  have hg : g < w.heap.size := World.block_lt_of_cell? w _ c0
  simp only [someCmdR, Cm.r]
  rcases hT with hT | hT
  all_goals
    have hm1 : m ≤ cap := by omega
    have hm2 : m ≤ 65536 := by omega
    have HM := Lib.hid hm
    clear hm
    go_enter Tryd.func13, Tryd.ntmps13
    go_upto_if 13 with (fail)
    go_cut [0] (fun s0 wx => s0 = .slice (some ⟨g, off, none⟩) m cap ∧ w.alloc zeroCmdR = wx)
    case first =>
      rcases HM.out with ⟨hm, rfl⟩ | ⟨hm, rfl⟩
      all_goals
        go_wp2_with fail
        go_meet
        exact ⟨rfl, rfl⟩
    case rest =>
      obtain ⟨rfl, rfl⟩ := hcut
      unfold zeroCmdR
      clear HM hn
      go_wp2_with (first | (go_at_call 26; refine (long_is 7 0 rfl _).mono ?_; rintro e w' ⟨rfl, rfl⟩) | ((with_reducible refine (d1 _ (below_three _ _ _ _)).mono ?_); rintro e w' ⟨rfl, rfl⟩))
      all_goals
        refine bodyPost_ret (results_cell_tmp rfl _ _ w.heap.size 38 _ (0, 0) _ rfl (first_three _ _ _ _) Tryd.underlying38 rfl isz38) rfl ⟨?_, below_three _ _ _ _⟩
        simp <;> omega
set_option maxRecDepth 100000 in
set_option maxHeartbeats 4000000 in
theorem rnext_8_yes (g off n cap m p : Nat) (x1 : Int) (w : World) (hn : n ≤ cap) (hc : cap ≤ 9223372036854775807) (hm : (n ≤ 65536 ∧ m = n) ∨ (65536 < n ∧ m = 65536)) (hp : p < m) (c0 : w.cell? ⟨g, off + p, none⟩ = some (.int .u8 134)) (d1 : ∀ W, Below w.heap.size w W → Calls Tryd.prog 27 #[.slice (some ⟨g, off, none⟩) m cap, .int .i64 (p + 1)] W fun e W' => e = .returned (.int .i64 x1) ∧ W = W') (hT : m ≤ p + 1 ∨ p + 1 < m) :
    Calls Tryd.prog 13 #[.slice (some ⟨g, off, none⟩) n cap, .int .i64 p] w fun e w' => e = .returned (someCmdR (⟨8, p, p + 1, 0, 0, 0, 0, 0, 0⟩ : Cm)) ∧ Below w.heap.size w w' := by
  have hg : g < w.heap.size := World.block_lt_of_cell? w _ c0
  simp only [someCmdR, Cm.r]
  rcases hT with hT | hT
  all_goals
    have hm1 : m ≤ cap := by omega
    have hm2 : m ≤ 65536 := by omega
    have HM := Lib.hid hm
    clear hm
    go_enter Tryd.func13, Tryd.ntmps13
    go_upto_if 13 with (fail)
    go_cut [0] (fun s0 wx => s0 = .slice (some ⟨g, off, none⟩) m cap ∧ w.alloc zeroCmdR = wx)
    case first =>
      rcases HM.out with ⟨hm, rfl⟩ | ⟨hm, rfl⟩
      all_goals
        go_wp2_with fail
        go_meet
        exact ⟨rfl, rfl⟩
    case rest =>
      obtain ⟨rfl, rfl⟩ := hcut
      unfold zeroCmdR
      clear HM hn
      go_wp2_with (first | (go_at_call 26; refine (long_is 8 0 rfl _).mono ?_; rintro e w' ⟨rfl, rfl⟩) | ((with_reducible refine (d1 _ (below_three _ _ _ _)).mono ?_); rintro e w' ⟨rfl, rfl⟩))
      all_goals
        refine bodyPost_ret (results_cell_tmp rfl _ _ w.heap.size 38 _ (0, 0) _ rfl (first_three _ _ _ _) Tryd.underlying38 rfl isz38) rfl ⟨?_, below_three _ _ _ _⟩
        simp <;> omega
set_option maxRecDepth 100000 in
set_option maxHeartbeats 4000000 in
theorem rnext_3_yes (g off n cap m p : Nat) (x1 : Int) (w : World) (hn : n ≤ cap) (hc : cap ≤ 9223372036854775807) (hm : (n ≤ 65536 ∧ m = n) ∨ (65536 < n ∧ m = 65536)) (hp : p < m) (c0 : w.cell? ⟨g, off + p, none⟩ = some (.int .u8 129)) (d1 : ∀ W, Below w.heap.size w W → Calls Tryd.prog 27 #[.slice (some ⟨g, off, none⟩) m cap, .int .i64 (p + 1)] W fun e W' => e = .returned (.int .i64 x1) ∧ W = W') (h1 : x1 ≤ 15) (hT : m ≤ p + 2 ∨ p + 2 < m) :
    Calls Tryd.prog 13 #[.slice (some ⟨g, off, none⟩) n cap, .int .i64 p] w fun e w' => e = .returned (someCmdR (⟨3, p, p + 2, 0, x1, 0, 0, 0, 0⟩ : Cm)) ∧ Below w.heap.size w w' := by
  have hg : g < w.heap.size := World.block_lt_of_cell? w _ c0
  simp only [someCmdR, Cm.r]
  rcases hT with hT | hT
  all_goals
    have hm1 : m ≤ cap := by omega
    have hm2 : m ≤ 65536 := by omega
    have HM := Lib.hid hm
    clear hm
    go_enter Tryd.func13, Tryd.ntmps13
    go_upto_if 13 with (fail)
    go_cut [0] (fun s0 wx => s0 = .slice (some ⟨g, off, none⟩) m cap ∧ w.alloc zeroCmdR = wx)
    case first =>
      rcases HM.out with ⟨hm, rfl⟩ | ⟨hm, rfl⟩
      all_goals
        go_wp2_with fail
        go_meet
        exact ⟨rfl, rfl⟩
    case rest =>
      obtain ⟨rfl, rfl⟩ := hcut
      unfold zeroCmdR
      clear HM hn
      go_wp2_with (first | (go_at_call 26; refine (long_is 3 1 rfl _).mono ?_; rintro e w' ⟨rfl, rfl⟩) | ((with_reducible refine (d1 _ (below_three _ _ _ _)).mono ?_); rintro e w' ⟨rfl, rfl⟩))
      all_goals
        refine bodyPost_ret (results_cell_tmp rfl _ _ w.heap.size 38 _ (0, 0) _ rfl (first_three _ _ _ _) Tryd.underlying38 rfl isz38) rfl ⟨?_, below_three _ _ _ _⟩
        simp <;> omega
set_option maxRecDepth 100000 in
set_option maxHeartbeats 4000000 in
theorem rnext_3_no (g off n cap m p : Nat) (T : Nat) (x1 : Int) (w : World) (hn : n ≤ cap) (hc : cap ≤ 9223372036854775807) (hm : (n ≤ 65536 ∧ m = n) ∨ (65536 < n ∧ m = 65536)) (hp : p < m) (c0 : w.cell? ⟨g, off + p, none⟩ = some (.int .u8 129)) (d1 : ∀ W, Below w.heap.size w W → Calls Tryd.prog 27 #[.slice (some ⟨g, off, none⟩) m cap, .int .i64 (p + 1)] W fun e W' => e = .returned (.int .i64 x1) ∧ W = W') (h1 : 15 < x1) (hT : (m ≤ p + 2 ∧ m = T) ∨ (p + 2 < m ∧ p + 2 = T)) :
    Calls Tryd.prog 13 #[.slice (some ⟨g, off, none⟩) n cap, .int .i64 p] w fun e w' => e = .returned (someCmdR (⟨0, p, T, 0, 0, 0, 0, 0, 0⟩ : Cm)) ∧ Below w.heap.size w w' := by
  have hg : g < w.heap.size := World.block_lt_of_cell? w _ c0
  simp only [someCmdR, Cm.r]
  rcases hT with ⟨hT, rfl⟩ | ⟨hT, rfl⟩
  all_goals
    have hm1 : m ≤ cap := by omega
    have hm2 : m ≤ 65536 := by omega
    have HM := Lib.hid hm
    clear hm
    go_enter Tryd.func13, Tryd.ntmps13
    go_upto_if 13 with (fail)
    go_cut [0] (fun s0 wx => s0 = .slice (some ⟨g, off, none⟩) m cap ∧ w.alloc zeroCmdR = wx)
    case first =>
      rcases HM.out with ⟨hm, rfl⟩ | ⟨hm, rfl⟩
      all_goals
        go_wp2_with fail
        go_meet
        exact ⟨rfl, rfl⟩
    case rest =>
      obtain ⟨rfl, rfl⟩ := hcut
      unfold zeroCmdR
      clear HM hn
      go_wp2_with (first | (go_at_call 26; refine (long_is 3 1 rfl _).mono ?_; rintro e w' ⟨rfl, rfl⟩) | ((with_reducible refine (d1 _ (below_three _ _ _ _)).mono ?_); rintro e w' ⟨rfl, rfl⟩))
      all_goals
        refine bodyPost_ret (results_cell_tmp rfl _ _ w.heap.size 38 _ (0, 0) _ rfl (first_three _ _ _ _) Tryd.underlying38 rfl isz38) rfl ⟨?_, below_three _ _ _ _⟩
        simp <;> omega
end Go.Proofs.YtlgfdemggkiojaaDoor
