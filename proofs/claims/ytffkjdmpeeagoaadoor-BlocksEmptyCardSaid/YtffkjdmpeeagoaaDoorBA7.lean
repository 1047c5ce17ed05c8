/-
  The law's table at first: its actors with nothing joined, its keeper; condition: all lies as it says.
-/
import Derived.Test.YtffkjdmpeeagoaaDoorBA5
import Derived.Test.YtffkjdmpeeagoaaDoorBA6
namespace Go.Proofs.YtffkjdmpeeagoaaDoor
open Go.RowKit Go.Maps

def act8 : Array Value := #[.int .i64 0, .pointer none, .pointer none, .int .i64 0, .pointer none, .pointer none, .int .i64 0, .pointer none, .pointer none, .int .i64 0, .pointer none, .pointer none, .int .i64 0, .pointer none, .pointer none, .int .i64 0, .pointer none, .pointer none, .int .i64 0, .pointer none, .pointer none, .int .i64 0, .pointer none, .pointer none]
theorem mkA8 (w : World) : (Instr.makeSlice 66 (.int .i64 8) (.int .i64 8)).run Tryd.prog w = .ok (.slice (some ⟨w.heap.size, 0, none⟩) 8 8) (w.alloc (.cells act8 70)) := by kernel_rfl
/-- The actors' cells behind so many rounds of the first loop. -/
def actL (i : Nat) : List Value := (List.range 8).flatMap fun j => [.int .i64 (if j < i then -1 else 0), .pointer none, .pointer none]
theorem actL_0 : act8 = (actL 0).toArray := by rfl
theorem actL_set {i : Nat} (h : i < 8) : actL (i + 1) = (actL i).set (3 * i) (.int .i64 (-1)) := by
  rcases lt8 h with rfl | rfl | rfl | rfl | rfl | rfl | rfl | rfl <;> rfl
theorem actL_8 {j : Nat} (h : j < 8) : (actL 8)[3 * j]? = some (.int .i64 (-1)) ∧ (actL 8)[3 * j + 1]? = some (.pointer none) ∧ (actL 8)[3 * j + 2]? = some (.pointer none) := by
  rcases lt8 h with rfl | rfl | rfl | rfl | rfl | rfl | rfl | rfl <;> exact ⟨rfl, rfl, rfl⟩
section
variable {p b G : Nat} {V : Ad → Int} {n st : Int} {W w : World}
/-- The first loop's state. -/
structure Beg (W : World) (p b G : Nat) (n : Int) (i : Nat) (w : World) : Prop where
  me : Me W p b (V0t n) 1 w
  G0 : W.heap.size ≤ G
  blk : Bq G 70 (actL i) w
theorem Me.beg (h : Me W p b (V0t n) 1 w) : Beg W p b w.heap.size n 0 (w.alloc (.cells act8 70)) := by
  refine ⟨h.below ((Below.refl _ _).alloc (Nat.le_refl _) _), h.low.size, ?_⟩
  rw [actL_0]
  exact Bq.new w _ _
theorem Beg.step {i : Nat} (h : Beg W p b G n i w) (hi : i < 8) (h1 : 1 < W.heap.size) {a : Addr} (ha : a = ⟨G, 3 * i, none⟩) : Beg W p b G n (i + 1) (w.setCell a (.int .i64 (-1))) := by
  subst ha
  obtain ⟨⟨M, g1, g2, F⟩, g4, g5, g6⟩ := h.me
  obtain ⟨n1, n2⟩ := F.ne (by decide) h.blk
  have := h.G0
  exact ⟨⟨⟨M, g1, g2, F.setQ n1 n2 (by omega) _ _⟩, g4.setCell (p := ⟨G, 3 * i, none⟩) h.G0 _, g5, g6⟩, h.G0, h.blk.set _ _ (actL_set hi)⟩
theorem Beg.free {i : Nat} (h : Beg W p b G n i w) (j : Nat) : w.frozen? ⟨G, j, none⟩ = false := h.blk.free j
theorem Beg.cell {i : Nat} (h : Beg W p b G n i w) (hi : i < 8) : ∃ v, w.cell? ⟨G, 3 * i, none⟩ = some v := by
  rw [h.blk.cell]
  rcases lt8 hi with rfl | rfl | rfl | rfl | rfl | rfl | rfl | rfl <;> exact ⟨_, rfl⟩
theorem tsn_first (h : Beg W p b G n 8 w) (hn : 1 ≤ n ∧ n ≤ 4) : ∃ k, k.ln = 0 ∧ TSn W.heap.size p b G w.heap.size n n 200 k W (w.alloc (.cells #[.pointer none, .pointer none] 72)) := by
  obtain ⟨⟨M, g1, g2, F⟩, g4, g5, g6⟩ := h.me
  have hb : Below w.heap.size w (w.alloc (.cells #[.pointer none, .pointer none] 72)) := (Below.refl _ _).alloc (Nat.le_refl _) _
  have hk : Bq w.heap.size 72 [.pointer none, .pointer none] (w.alloc (.cells #[.pointer none, .pointer none] 72)) := Bq.new w _ _
  have ho : (newL (-1)).ln = 0 := by unfold newL; rw [if_pos (by decide)]
  have hblk := h.blk.below hb
  refine ⟨⟨false, 0, 0, 0⟩, rfl, fun _ => 0, fun _ => ⟨-1, newL (-1)⟩, 0, M, F.below hb, by omega, ?_, ⟨u64_0', by simp, fun h => absurd rfl h, fun _ => by simp, fun h => by cases h⟩, ⟨h.G0, ⟨(actL 8).toArray, hblk, rfl, fun j hj => ?_⟩, fun j hj hl => absurd ho hl, fun i j _ _ _ h1 _ => absurd ho h1⟩, ⟨g4.size, by rw [pM_no rfl, pS_no rfl]; exact hk, fun h => absurd rfl h⟩, g4.trans (hb.mono g4.size)⟩
  · rw [g1]
    exact .first hn V0t_N (fun x hx => setV_other hx n) ho (.newL _) rfl
  · obtain ⟨c0, c1, c2⟩ := actL_8 hj
    rw [pJ_no ho, pL_no ho]
    simpa using ⟨c0, c1, c2⟩
end
theorem tab_nums {z : Int} (h : U8 z) : ∃ r n : Nat, r < 4 ∧ n = r + 1 ∧ Int.tmod z 4 = (r : Int) := by
  obtain ⟨a, b⟩ := h
  refine ⟨(z % 4).toNat, (z % 4).toNat + 1, by omega, rfl, ?_⟩
  rw [Int.tmod_eq_emod_of_nonneg a]; omega
theorem tab_parts {x : Int} (h : U8 x) : ∃ k d e : Nat, k < 10 ∧ d < 26 ∧ e < 2 ∧ Int.tmod x 10 = (k : Int) ∧ Int.tdiv x 10 = (d : Int) ∧ Int.tmod (d : Int) 2 = (e : Int) := by
  obtain ⟨a, b⟩ := h
  refine ⟨(x % 10).toNat, (x / 10).toNat, (x / 10).toNat % 2, by omega, by omega, by omega, ?_, ?_, ?_⟩
  · rw [Int.tmod_eq_emod_of_nonneg a]; omega
  · rw [Int.tdiv_eq_ediv_of_nonneg a]; omega
  · rw [Int.tmod_eq_emod_of_nonneg (by omega)]; omega
theorem iwB {n : Nat} (h : n < 1000000) : IntKind.i64.wrap (n : Int) = (n : Int) := by simp [IntKind.wrap, IntKind.bits, IntKind.signed]; omega
theorem low_cellB {W w : World} (h : Below W.heap.size W w) {a : Addr} {v : Value} (hc : W.cell? a = some v) : w.cell? a = some v := by
  have hlt : a.block < W.heap.size := by
    refine Decidable.byContradiction fun hn => ?_
    simp [World.cell?, Array.getElem?_eq_none (Nat.le_of_not_lt hn)] at hc
  have hb := h.block a.block hlt
  unfold World.cell? at hc ⊢
  rw [hb]
  exact hc
end Go.Proofs.YtffkjdmpeeagoaaDoor
