/-
  The program's read of layer 3: what it gives back; condition: the bytes lie as it says.
-/
import Derived.Test.YtlgfdemggkiojaaDoorF2
import Derived.BigRegion
namespace Go.Proofs.YtlgfdemggkiojaaDoor
open Go.RowKit

set_option maxHeartbeats 1000000 in
theorem read0 (A : Option Addr) (n cap : Nat) (w : World) :
    Calls Tryd.prog 30 #[.int .u8 0, .slice A n cap] w fun e w' => e = .returned (.agg #[.int .u8 0, .int .i64 0, .int .i64 0, .int .i64 0, .int .i64 0, .int .u8 0, .int .u8 0, .int .u64 0, .int .u64 0]) ∧ Below w.heap.size w w' := by
  go_enter Tryd.func30, Tryd.ntmps30
  go_wp2_with fail
  exact bodyPost_ret (v := .agg #[.int .u8 0, .int .i64 0, .int .i64 0, .int .i64 0, .int .i64 0, .int .u8 0, .int .u8 0, .int .u64 0, .int .u64 0]) (by simp [results, Tryd.results30, go_sem]) rfl ⟨rfl, below_two _ _ _⟩
set_option maxHeartbeats 1000000 in
theorem read2 (A : Option Addr) (n cap : Nat) (w : World) :
    Calls Tryd.prog 30 #[.int .u8 2, .slice A n cap] w fun e w' => e = .returned (.agg #[.int .u8 2, .int .i64 0, .int .i64 0, .int .i64 0, .int .i64 0, .int .u8 0, .int .u8 0, .int .u64 0, .int .u64 0]) ∧ Below w.heap.size w w' := by
  go_enter Tryd.func30, Tryd.ntmps30
  go_wp2_with fail
  exact bodyPost_ret (v := .agg #[.int .u8 2, .int .i64 0, .int .i64 0, .int .i64 0, .int .i64 0, .int .u8 0, .int .u8 0, .int .u64 0, .int .u64 0]) (by simp [results, Tryd.results30, go_sem]) rfl ⟨rfl, below_two _ _ _⟩
set_option maxHeartbeats 1000000 in
theorem read7 (A : Option Addr) (n cap : Nat) (w : World) :
    Calls Tryd.prog 30 #[.int .u8 7, .slice A n cap] w fun e w' => e = .returned (.agg #[.int .u8 7, .int .i64 0, .int .i64 0, .int .i64 0, .int .i64 0, .int .u8 0, .int .u8 0, .int .u64 0, .int .u64 0]) ∧ Below w.heap.size w w' := by
  go_enter Tryd.func30, Tryd.ntmps30
  go_wp2_with fail
  exact bodyPost_ret (v := .agg #[.int .u8 7, .int .i64 0, .int .i64 0, .int .i64 0, .int .i64 0, .int .u8 0, .int .u8 0, .int .u64 0, .int .u64 0]) (by simp [results, Tryd.results30, go_sem]) rfl ⟨rfl, below_two _ _ _⟩
set_option maxHeartbeats 1000000 in
theorem read8 (A : Option Addr) (n cap : Nat) (w : World) :
    Calls Tryd.prog 30 #[.int .u8 8, .slice A n cap] w fun e w' => e = .returned (.agg #[.int .u8 8, .int .i64 0, .int .i64 0, .int .i64 0, .int .i64 0, .int .u8 0, .int .u8 0, .int .u64 0, .int .u64 0]) ∧ Below w.heap.size w w' := by
  go_enter Tryd.func30, Tryd.ntmps30
  go_wp2_with fail
  exact bodyPost_ret (v := .agg #[.int .u8 8, .int .i64 0, .int .i64 0, .int .i64 0, .int .i64 0, .int .u8 0, .int .u8 0, .int .u64 0, .int .u64 0]) (by simp [results, Tryd.results30, go_sem]) rfl ⟨rfl, below_two _ _ _⟩
set_option maxHeartbeats 1000000 in
theorem read1 (g off n cap : Nat) (x0 : Int) (w : World) (hn : 1 ≤ n) (h0 : w.cell? ⟨g, off, none⟩ = some (.int .u8 x0)) (l0 : 0 ≤ x0) (u0 : x0 ≤ 255) :
    Calls Tryd.prog 30 #[.int .u8 1, .slice (some ⟨g, off, none⟩) n cap] w fun e w' => e = .returned (.agg #[.int .u8 1, .int .i64 0, .int .i64 0, .int .i64 x0, .int .i64 0, .int .u8 0, .int .u8 0, .int .u64 0, .int .u64 0]) ∧ Below w.heap.size w w' := by
  have k0 := ((below_two w (.cells #[.int .u8 0, .int .i64 0, .int .i64 0, .int .i64 0, .int .i64 0, .int .u8 0, .int .u8 0, .int .u64 0, .int .u64 0] 34) (.cells #[.int .u8 1, .int .i64 0, .int .i64 0, .int .i64 0, .int .i64 0, .int .u8 0, .int .u8 0, .int .u64 0, .int .u64 0] 34)).cell (p := ⟨g, off, none⟩) (World.block_lt_of_cell? w _ h0)).trans h0
  have hg : g < w.heap.size := World.block_lt_of_cell? w _ h0
  go_enter Tryd.func30, Tryd.ntmps30
  go_wp2_with fail
  exact bodyPost_ret (v := .agg #[.int .u8 1, .int .i64 0, .int .i64 0, .int .i64 x0, .int .i64 0, .int .u8 0, .int .u8 0, .int .u64 0, .int .u64 0]) (by simp [results, Tryd.results30, go_sem]) rfl ⟨rfl, below_two _ _ _⟩
set_option maxHeartbeats 1000000 in
theorem read3 (g off n cap : Nat) (x1 : Int) (w : World) (hn : 2 ≤ n) (h1 : w.cell? ⟨g, off + 1, none⟩ = some (.int .u8 x1)) (l1 : 0 ≤ x1) (u1 : x1 ≤ 255) :
    Calls Tryd.prog 30 #[.int .u8 3, .slice (some ⟨g, off, none⟩) n cap] w fun e w' => e = .returned (.agg #[.int .u8 3, .int .i64 0, .int .i64 0, .int .i64 0, .int .i64 x1, .int .u8 0, .int .u8 0, .int .u64 0, .int .u64 0]) ∧ Below w.heap.size w w' := by
  have k1 := ((below_two w (.cells #[.int .u8 0, .int .i64 0, .int .i64 0, .int .i64 0, .int .i64 0, .int .u8 0, .int .u8 0, .int .u64 0, .int .u64 0] 34) (.cells #[.int .u8 3, .int .i64 0, .int .i64 0, .int .i64 0, .int .i64 0, .int .u8 0, .int .u8 0, .int .u64 0, .int .u64 0] 34)).cell (p := ⟨g, off + 1, none⟩) (World.block_lt_of_cell? w _ h1)).trans h1
  have hg : g < w.heap.size := World.block_lt_of_cell? w _ h1
  go_enter Tryd.func30, Tryd.ntmps30
  go_wp2_with fail
  exact bodyPost_ret (v := .agg #[.int .u8 3, .int .i64 0, .int .i64 0, .int .i64 0, .int .i64 x1, .int .u8 0, .int .u8 0, .int .u64 0, .int .u64 0]) (by simp [results, Tryd.results30, go_sem]) rfl ⟨rfl, below_two _ _ _⟩
set_option maxHeartbeats 1000000 in
theorem read4 (g off n cap : Nat) (x1 : Int) (w : World) (hn : 2 ≤ n) (h1 : w.cell? ⟨g, off + 1, none⟩ = some (.int .u8 x1)) :
    Calls Tryd.prog 30 #[.int .u8 4, .slice (some ⟨g, off, none⟩) n cap] w fun e w' => e = .returned (.agg #[.int .u8 4, .int .i64 0, .int .i64 0, .int .i64 0, .int .i64 0, .int .u8 x1, .int .u8 0, .int .u64 0, .int .u64 0]) ∧ Below w.heap.size w w' := by
  have k1 := ((below_two w (.cells #[.int .u8 0, .int .i64 0, .int .i64 0, .int .i64 0, .int .i64 0, .int .u8 0, .int .u8 0, .int .u64 0, .int .u64 0] 34) (.cells #[.int .u8 4, .int .i64 0, .int .i64 0, .int .i64 0, .int .i64 0, .int .u8 0, .int .u8 0, .int .u64 0, .int .u64 0] 34)).cell (p := ⟨g, off + 1, none⟩) (World.block_lt_of_cell? w _ h1)).trans h1
  have hg : g < w.heap.size := World.block_lt_of_cell? w _ h1
  go_enter Tryd.func30, Tryd.ntmps30
  go_wp2_with fail
  exact bodyPost_ret (v := .agg #[.int .u8 4, .int .i64 0, .int .i64 0, .int .i64 0, .int .i64 0, .int .u8 x1, .int .u8 0, .int .u64 0, .int .u64 0]) (by simp [results, Tryd.results30, go_sem]) rfl ⟨rfl, below_two _ _ _⟩
set_option maxHeartbeats 1000000 in
theorem read5 (g off n cap : Nat) (x1 : Int) (w : World) (hn : 2 ≤ n) (h1 : w.cell? ⟨g, off + 1, none⟩ = some (.int .u8 x1)) (l1 : 0 ≤ x1) (u1 : x1 ≤ 255) :
    Calls Tryd.prog 30 #[.int .u8 5, .slice (some ⟨g, off, none⟩) n cap] w fun e w' => e = .returned (.agg #[.int .u8 5, .int .i64 0, .int .i64 0, .int .i64 x1, .int .i64 0, .int .u8 0, .int .u8 0, .int .u64 0, .int .u64 0]) ∧ Below w.heap.size w w' := by
  have k1 := ((below_two w (.cells #[.int .u8 0, .int .i64 0, .int .i64 0, .int .i64 0, .int .i64 0, .int .u8 0, .int .u8 0, .int .u64 0, .int .u64 0] 34) (.cells #[.int .u8 5, .int .i64 0, .int .i64 0, .int .i64 0, .int .i64 0, .int .u8 0, .int .u8 0, .int .u64 0, .int .u64 0] 34)).cell (p := ⟨g, off + 1, none⟩) (World.block_lt_of_cell? w _ h1)).trans h1
  have hg : g < w.heap.size := World.block_lt_of_cell? w _ h1
  go_enter Tryd.func30, Tryd.ntmps30
  go_wp2_with fail
  exact bodyPost_ret (v := .agg #[.int .u8 5, .int .i64 0, .int .i64 0, .int .i64 x1, .int .i64 0, .int .u8 0, .int .u8 0, .int .u64 0, .int .u64 0]) (by simp [results, Tryd.results30, go_sem]) rfl ⟨rfl, below_two _ _ _⟩
set_option maxHeartbeats 1000000 in
theorem read6 (g off n cap : Nat) (x1 : Int) (w : World) (hn : 2 ≤ n) (h1 : w.cell? ⟨g, off + 1, none⟩ = some (.int .u8 x1)) (l1 : 0 ≤ x1) (u1 : x1 ≤ 255) :
    Calls Tryd.prog 30 #[.int .u8 6, .slice (some ⟨g, off, none⟩) n cap] w fun e w' => e = .returned (.agg #[.int .u8 6, .int .i64 0, .int .i64 0, .int .i64 x1, .int .i64 0, .int .u8 0, .int .u8 0, .int .u64 0, .int .u64 0]) ∧ Below w.heap.size w w' := by
  have k1 := ((below_two w (.cells #[.int .u8 0, .int .i64 0, .int .i64 0, .int .i64 0, .int .i64 0, .int .u8 0, .int .u8 0, .int .u64 0, .int .u64 0] 34) (.cells #[.int .u8 6, .int .i64 0, .int .i64 0, .int .i64 0, .int .i64 0, .int .u8 0, .int .u8 0, .int .u64 0, .int .u64 0] 34)).cell (p := ⟨g, off + 1, none⟩) (World.block_lt_of_cell? w _ h1)).trans h1
  have hg : g < w.heap.size := World.block_lt_of_cell? w _ h1
  go_enter Tryd.func30, Tryd.ntmps30
  go_wp2_with fail
  exact bodyPost_ret (v := .agg #[.int .u8 6, .int .i64 0, .int .i64 0, .int .i64 x1, .int .i64 0, .int .u8 0, .int .u8 0, .int .u64 0, .int .u64 0]) (by simp [results, Tryd.results30, go_sem]) rfl ⟨rfl, below_two _ _ _⟩
set_option maxHeartbeats 1000000 in
theorem read9 (g off n cap : Nat) (x1 x2 x3 x4 : Int) (w : World) (hn : 5 ≤ n) (h1 : w.cell? ⟨g, off + 1, none⟩ = some (.int .u8 x1)) (l1 : 0 ≤ x1) (u1 : x1 ≤ 255) (h2 : w.cell? ⟨g, off + 2, none⟩ = some (.int .u8 x2)) (h3 : w.cell? ⟨g, off + 3, none⟩ = some (.int .u8 x3)) (l3 : 0 ≤ x3) (u3 : x3 ≤ 255) (h4 : w.cell? ⟨g, off + 4, none⟩ = some (.int .u8 x4)) (l4 : 0 ≤ x4) (u4 : x4 ≤ 255) :
    Calls Tryd.prog 30 #[.int .u8 9, .slice (some ⟨g, off, none⟩) n cap] w fun e w' => e = .returned (.agg #[.int .u8 9, .int .i64 0, .int .i64 0, .int .i64 0, .int .i64 x1, .int .u8 0, .int .u8 x2, .int .u64 x3, .int .u64 x4]) ∧ Below w.heap.size w w' := by
  have k1 := ((below_two w (.cells #[.int .u8 0, .int .i64 0, .int .i64 0, .int .i64 0, .int .i64 0, .int .u8 0, .int .u8 0, .int .u64 0, .int .u64 0] 34) (.cells #[.int .u8 9, .int .i64 0, .int .i64 0, .int .i64 0, .int .i64 0, .int .u8 0, .int .u8 0, .int .u64 0, .int .u64 0] 34)).cell (p := ⟨g, off + 1, none⟩) (World.block_lt_of_cell? w _ h1)).trans h1
  have k2 := ((below_two w (.cells #[.int .u8 0, .int .i64 0, .int .i64 0, .int .i64 0, .int .i64 0, .int .u8 0, .int .u8 0, .int .u64 0, .int .u64 0] 34) (.cells #[.int .u8 9, .int .i64 0, .int .i64 0, .int .i64 0, .int .i64 0, .int .u8 0, .int .u8 0, .int .u64 0, .int .u64 0] 34)).cell (p := ⟨g, off + 2, none⟩) (World.block_lt_of_cell? w _ h2)).trans h2
  have k3 := ((below_two w (.cells #[.int .u8 0, .int .i64 0, .int .i64 0, .int .i64 0, .int .i64 0, .int .u8 0, .int .u8 0, .int .u64 0, .int .u64 0] 34) (.cells #[.int .u8 9, .int .i64 0, .int .i64 0, .int .i64 0, .int .i64 0, .int .u8 0, .int .u8 0, .int .u64 0, .int .u64 0] 34)).cell (p := ⟨g, off + 3, none⟩) (World.block_lt_of_cell? w _ h3)).trans h3
  have k4 := ((below_two w (.cells #[.int .u8 0, .int .i64 0, .int .i64 0, .int .i64 0, .int .i64 0, .int .u8 0, .int .u8 0, .int .u64 0, .int .u64 0] 34) (.cells #[.int .u8 9, .int .i64 0, .int .i64 0, .int .i64 0, .int .i64 0, .int .u8 0, .int .u8 0, .int .u64 0, .int .u64 0] 34)).cell (p := ⟨g, off + 4, none⟩) (World.block_lt_of_cell? w _ h4)).trans h4
  have hg : g < w.heap.size := World.block_lt_of_cell? w _ h1
  go_enter Tryd.func30, Tryd.ntmps30
  go_wp2_with fail
  go_region
  go_wp2_with fail
  exact bodyPost_ret (v := .agg #[.int .u8 9, .int .i64 0, .int .i64 0, .int .i64 0, .int .i64 x1, .int .u8 0, .int .u8 x2, .int .u64 x3, .int .u64 x4]) (by simp [results, Tryd.results30, go_sem]) rfl ⟨rfl, (below_two _ _ _).drew⟩
end Go.Proofs.YtlgfdemggkiojaaDoor
