/-
  Words for rows of the call's own: what is left alone, what a block just made holds; the commands' cells one behind the other; no condition.
-/
import Derived.Test.YtlgfdemggkiojaaDoorW1
import Derived.OwnWalk
import Derived.Laws.OwnMore
namespace Go.Proofs.YtlgfdemggkiojaaDoor
open Go.RowKit

theorem own_same {w w' : World} {base : Nat} {e : TypeId} {size : Nat} {v : Value} {n : Nat} {xs : List Value} (h : w.ownsRow base e size v n xs) (hs : ∀ g, v.ownBlock = some g → w'.heap[g]? = w.heap[g]?) : w'.ownsRow base e size v n xs := by
  refine ⟨h.1, ?_⟩
  rcases h.2 with h2 | ⟨g, cap, cur, hv, hg, hh, r⟩
  · exact .inl h2
  · subst hv
    exact .inr ⟨g, cap, cur, rfl, hg, (hs g rfl).trans hh, r⟩
theorem own_below {w w' : World} {B base : Nat} {e : TypeId} {size : Nat} {v : Value} {n : Nat} {xs : List Value} (h : w.ownsRow base e size v n xs) (hb : Below B w w') (hB : ∀ g, v.ownBlock = some g → g < B) : w'.ownsRow base e size v n xs :=
  own_same h fun g hg => hb.block g (hB g hg)
theorem own_low {w w' : World} {base : Nat} {e : TypeId} {size : Nat} {v : Value} {n : Nat} {xs : List Value} (h : w.ownsRow base e size v n xs) (hb : Below w.heap.size w w') : w'.ownsRow base e size v n xs :=
  own_below h hb fun g hg => (h.lt g hg).2
theorem cells_new (w : World) (t : TypeId) (xs : List Value) : ∀ j u, xs[j]? = some u → (w.alloc (.cells xs.toArray t)).cell? ((⟨w.heap.size, 0, none⟩ : Addr).add j) = some u := by
  intro j u hu
  have hadd : (⟨w.heap.size, 0, none⟩ : Addr).add j = ⟨w.heap.size, j, none⟩ := by unfold Addr.add; split <;> simp_all
  rw [hadd, cell_of_row _ _ j xs.toArray t (0, 0) (heap_alloc_new w _)]
  simpa using hu
theorem cell_grown {w w' : World} {row : Option Nat} {b i : Nat} {v : Value} (h : w.grownBy w' row) (hc : w.cell? ⟨b, i, none⟩ = some v) (hn : some b ≠ row) : w'.cell? ⟨b, i, none⟩ = some v :=
  (World.cell?_of_block (h.block b (World.block_lt_of_cell? w _ hc) hn)).trans hc
/-- A command's cells, as the program has them; as the document has them. -/
def vC (c : Cm) : List Value := [.int .u8 c.kind, .int .i64 c.fr, .int .i64 c.to, .int .i64 c.at_, .int .i64 c.thr, .int .u8 c.sch, .int .u8 c.op, .int .u64 c.key, .int .u64 c.val]
def rC (c : Cm) : List Value := [.int .i64 c.kind, .int .i64 c.fr, .int .i64 c.to, .int .i64 c.at_, .int .i64 c.thr, .int .u8 c.sch, .int .i64 c.op, .int .u64 c.key, .int .u64 c.val]
def flatV (l : List Cm) : List Value := l.flatMap vC
def flatR (l : List Cm) : List Value := l.flatMap rC
theorem flatV_snoc (l : List Cm) (c : Cm) : flatV (l ++ [c]) = flatV l ++ vC c := by simp [flatV]
theorem flatR_snoc (l : List Cm) (c : Cm) : flatR (l ++ [c]) = flatR l ++ rC c := by simp [flatR]
theorem vC_one (c : Cm) : ∀ u ∈ vC c, u.oneCell' = true := by
  intro u hu
  simp [vC] at hu
  rcases hu with rfl | rfl | rfl | rfl | rfl | rfl | rfl | rfl | rfl <;> rfl
theorem rC_one (c : Cm) : ∀ u ∈ rC c, u.oneCell' = true := by
  intro u hu
  simp [rC] at hu
  rcases hu with rfl | rfl | rfl | rfl | rfl | rfl | rfl | rfl | rfl <;> rfl
theorem flat_length {f : Cm → List Value} (hf : ∀ c, (f c).length = 9) (l : List Cm) : (l.flatMap f).length = l.length * 9 := by
  induction l with
  | nil => rfl
  | cons c r ih =>
    rw [List.flatMap_cons, List.length_append, hf, ih, List.length_cons]
    omega
theorem flat_at {f : Cm → List Value} (hf : ∀ c, (f c).length = 9) (l : List Cm) (i j : Nat) (c : Cm) (h : l[i]? = some c) (hj : j < 9) : (l.flatMap f)[i * 9 + j]? = (f c)[j]? := by
  induction l generalizing i with
  | nil => simp at h
  | cons d r ih =>
    rw [List.flatMap_cons]
    cases i with
    | zero =>
      simp at h
      subst h
      rw [Nat.zero_mul, Nat.zero_add, List.getElem?_append_left (by rw [hf]; exact hj)]
    | succ i =>
      rw [List.getElem?_append_right (by rw [hf]; omega), hf, show (i + 1) * 9 + j - 9 = i * 9 + j by omega]
      exact ih i (by simpa using h)
theorem Tryd_info34 : (Tryd.prog.info? 34).map (fun i => (i.zero, i.size, i.bytes)) = some (some (.agg #[.int .u8 0, .int .i64 0, .int .i64 0, .int .i64 0, .int .i64 0, .int .u8 0, .int .u8 0, .int .u64 0, .int .u64 0]), 9, 64) := by kernel_rfl
theorem Tryd_info38 : (Tryd.prog.info? 38).map (fun i => (i.zero, i.size, i.bytes)) = some (some (.agg #[.int .i64 0, .int .i64 0, .int .i64 0, .int .i64 0, .int .i64 0, .int .u8 0, .int .i64 0, .int .u64 0, .int .u64 0]), 9, 72) := by kernel_rfl
theorem Tryd_info5 : (Tryd.prog.info? 5).map (fun i => (i.zero, i.size, i.bytes)) = some (some (.int .u8 0), 1, 1) := by kernel_rfl
end Go.Proofs.YtlgfdemggkiojaaDoor
