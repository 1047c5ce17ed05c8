/-
  Rows of entries: where one is read, where one is the call's own; condition: it lies as it says.
-/
import Derived.Test.YtjpanofkikfeoaaGreatDoorOP1
import Derived.Test.YtjpanofkikfeoaaGreatDoorD0
import Derived.Laws.OwnMore
import Derived.Laws.AppendOwnNone
import Derived.Maps.AppendAt
namespace Go.Proofs.YtjpanofkikfeoaaGreatDoor
open Go.RowKit Go.Maps

def flatE (xs : List EP) : List Value := xs.flatMap EP.cells
theorem EP.cells_len (e : EP) : e.cells.length = 6 := rfl
theorem flatE_len : ∀ xs : List EP, (flatE xs).length = xs.length * 6
  | [] => rfl
  | x :: r => by
    have := flatE_len r
    unfold flatE at this ⊢
    rw [List.flatMap_cons, List.length_append, this, EP.cells_len, List.length_cons]
    omega
theorem flatE_app (xs ys : List EP) : flatE (xs ++ ys) = flatE xs ++ flatE ys := List.flatMap_append
theorem flatE_at : ∀ (xs : List EP) (j i : Nat), j < xs.length → i < 6 → (flatE xs)[j * 6 + i]? = (xs.getD j EP.zero).cells[i]?
  | [], _, _, h, _ => absurd h (by simp)
  | x :: r, 0, i, _, hi => by
    unfold flatE
    rw [List.flatMap_cons, List.getElem?_append_left (by rw [EP.cells_len]; omega)]
    simp
  | x :: r, j + 1, i, h, hi => by
    have := flatE_at r j i (by simpa using h) hi
    unfold flatE at this ⊢
    rw [List.flatMap_cons, List.getElem?_append_right (by rw [EP.cells_len]; omega), EP.cells_len, show (j + 1) * 6 + i - 6 = j * 6 + i by omega, this]
    simp
theorem flatE_one {xs : List EP} : ∀ u ∈ flatE xs, u.oneCell' = true := fun u hu => by
  unfold flatE at hu
  obtain ⟨e, _, hu⟩ := List.mem_flatMap.1 hu
  simp only [EP.cells, List.mem_cons, List.not_mem_nil, or_false] at hu
  rcases hu with rfl | rfl | rfl | rfl | rfl | rfl <;> rfl
theorem infoE : (Tryz.prog.info? 62).map (fun i => (i.zero, i.size, i.bytes)) = some (some (.agg #[.int .i64 0, .int .u32 0, .bool false, .int .u64 0, .int .u64 0, .int .u64 0]), 6, 40) := by kernel_rfl
/-- A row that is read. -/
def SeeE (w : World) (v : Value) (xs : List EP) : Prop := (v = .slice none 0 0 ∧ xs = []) ∨ ∃ g off c, v = .slice (some ⟨g, off, none⟩) xs.length c ∧ xs.length ≤ c ∧ c ≤ 9223372036854775807 ∧ ∀ j u, (flatE xs)[j]? = some u → w.cell? ⟨g, off + j, none⟩ = some u
/-- A row of the call's own. -/
def OwnE (w : World) (B : Nat) (v : Value) (xs : List EP) : Prop := w.ownsRow B 62 6 v xs.length (flatE xs)
section
variable {w w' : World} {B B' : Nat} {v : Value} {xs ys : List EP}
theorem OwnE.nil (w : World) (B : Nat) : OwnE w B (.slice none 0 0) [] := World.ownsRow_nil _ _ _ _
theorem OwnE.see (h : OwnE w B v xs) : SeeE w v xs := by
  obtain ⟨_, h⟩ := h
  rcases h with ⟨rfl, h0⟩ | ⟨g, cap, cur, rfl, _, hg, hc, hm, hs, ht⟩
  · exact .inl ⟨rfl, List.length_eq_zero_iff.1 h0⟩
  · refine .inr ⟨g, 0, cap, rfl, hc, by unfold maxLen at hm; exact hm, fun j u hu => ?_⟩
    have hj : j < xs.length * 6 := by have := (List.getElem?_eq_some_iff.1 hu).1; rwa [flatE_len] at this
    rw [← ht, List.getElem?_take, if_pos hj] at hu
    rw [Nat.zero_add, cell_of_row w g j cur _ (0, 0) hg]
    simpa using hu
theorem OwnE.mono (h : OwnE w B v xs) (hB : B' ≤ B) : OwnE w B' v xs := by
  obtain ⟨h1, h⟩ := h
  refine ⟨h1, ?_⟩
  rcases h with h | ⟨g, cap, cur, e, hb, rest⟩
  · exact .inl h
  · exact .inr ⟨g, cap, cur, e, Nat.le_trans hB hb, rest⟩
theorem OwnE.same (h : OwnE w B v xs) (hs : ∀ g, v.ownBlock = some g → w'.heap[g]? = w.heap[g]?) : OwnE w' B v xs := by
  obtain ⟨h1, h⟩ := h
  refine ⟨h1, ?_⟩
  rcases h with h | ⟨g, cap, cur, rfl, hb, hg, rest⟩
  · exact .inl h
  · exact .inr ⟨g, cap, cur, rfl, hb, (hs g rfl).trans hg, rest⟩
theorem OwnE.bq (h : OwnE w B v xs) {g : Nat} (hg : v.ownBlock = some g) : B ≤ g ∧ ∃ cs, Bq g 62 cs w := by
  obtain ⟨_, h⟩ := h
  rcases h with ⟨rfl, _⟩ | ⟨g', cap, cur, rfl, hb, hh, _⟩
  · cases hg
  · obtain rfl : g' = g := by simpa [Value.ownBlock] using hg
    exact ⟨hb, cur.toList, by unfold Bq; simpa using hh⟩
theorem OwnE.lt (h : OwnE w B v xs) {g : Nat} (hg : v.ownBlock = some g) : g < w.heap.size := by obtain ⟨_, cs, k⟩ := h.bq hg; exact k.lt
theorem OwnE.below (h : OwnE w B v xs) (hb : Below w.heap.size w w') : OwnE w' B v xs := h.same fun _ hg => hb.block _ (h.lt hg)
theorem SeeE.below (h : SeeE w v xs) (hb : Below w.heap.size w w') : SeeE w' v xs := by
  rcases h with h | ⟨g, off, c, rfl, h1, h2, h3⟩
  · exact .inl h
  · exact .inr ⟨g, off, c, rfl, h1, h2, fun j u hu => (hb.cell (p := ⟨g, off + j, none⟩) (World.block_lt_of_cell? w _ (h3 j u hu))).trans (h3 j u hu)⟩
/-- The cells of one of its entries. -/
theorem SeeE.at_ {g off n c : Nat} (h : SeeE w (.slice (some ⟨g, off, none⟩) n c) xs) {j : Nat} (hj : j < xs.length) : ∀ i, i < 6 → w.cell? ⟨g, off + j * 6 + i, none⟩ = (xs.getD j EP.zero).cells[i]? := fun i hi => by
  rcases h with ⟨e, _⟩ | ⟨g', off', c', e, _, _, h3⟩
  · cases e
  · injection e with e1 e2 e3
    injection e1 with e1
    injection e1 with e1 e4
    subst e1 e4
    have hf := flatE_at xs j i hj hi
    have : ((xs.getD j EP.zero).cells)[i]? = some ((xs.getD j EP.zero).cells[i]'(by rw [EP.cells_len]; exact hi)) := List.getElem?_eq_getElem _
    rw [this] at hf ⊢
    rw [Nat.add_assoc]
    exact h3 _ _ hf
theorem SeeE.addr {A : Option Addr} {n c : Nat} (h : SeeE w (.slice A n c) xs) (hn : 0 < n) : n ≤ c ∧ c ≤ 9223372036854775807 ∧ ∃ g off, A = some ⟨g, off, none⟩ := by
  rcases h with ⟨e, _⟩ | ⟨g, off, c', e, h1, h2, _⟩
  · injection e with _ e2; omega
  · injection e with e1 e2 e3
    subst e1 e2 e3
    exact ⟨h1, h2, g, off, rfl⟩
theorem SeeE.six {g off n c : Nat} (h : SeeE w (.slice (some ⟨g, off, none⟩) n c) xs) {j : Nat} (hj : j < xs.length) : w.cell? ⟨g, off + j * 6, none⟩ = some (.int .i64 (xs.getD j EP.zero).s) ∧ w.cell? ⟨g, off + j * 6 + 1, none⟩ = some (.int .u32 (xs.getD j EP.zero).g) ∧ w.cell? ⟨g, off + j * 6 + 2, none⟩ = some (.bool (xs.getD j EP.zero).k) ∧ w.cell? ⟨g, off + j * 6 + 3, none⟩ = some (.int .u64 (xs.getD j EP.zero).b) ∧ w.cell? ⟨g, off + j * 6 + 4, none⟩ = some (.int .u64 (xs.getD j EP.zero).c) ∧ w.cell? ⟨g, off + j * 6 + 5, none⟩ = some (.int .u64 (xs.getD j EP.zero).d) :=
  ⟨h.at_ hj 0 (by decide), h.at_ hj 1 (by decide), h.at_ hj 2 (by decide), h.at_ hj 3 (by decide), h.at_ hj 4 (by decide), h.at_ hj 5 (by decide)⟩
theorem SeeE.len {A : Option Addr} {n c : Nat} (h : SeeE w (.slice A n c) xs) : n = xs.length := by
  rcases h with ⟨e, rfl⟩ | ⟨g, off, c', e, _⟩
  · injection e
  · injection e
end
end Go.Proofs.YtjpanofkikfeoaaGreatDoor
