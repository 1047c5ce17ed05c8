/-
  Rows of threads: where one is read, where one is the call's own; condition: it lies as it says.
  Two threads compared; the law's helper Same: whether two snapshots are one; condition: they lie as they say.
-/
import Derived.Test.YtapcgikamldchaaDoorSP1
import Derived.Test.YtapcgikamldchaaDoorA1
import Derived.Laws.OwnMore
import Derived.Laws.AppendOwnNone
import Derived.Maps.AppendAt
import Derived.BigQuiet
import Derived.Deep.QuietTactic
namespace Go.Proofs.YtapcgikamldchaaDoor
open Go.RowKit Go.Maps

def flatH (xs : List TH) : List Value := xs.flatMap TH.cells
theorem flatH_len : ∀ xs : List TH, (flatH xs).length = xs.length * 10
  | [] => rfl
  | x :: r => by
    have := flatH_len r
    unfold flatH at this ⊢
    rw [List.flatMap_cons, List.length_append, this, TH.cells_len, List.length_cons]
    omega
theorem flatH_app (xs ys : List TH) : flatH (xs ++ ys) = flatH xs ++ flatH ys := List.flatMap_append
theorem flatH_at : ∀ (xs : List TH) (j i : Nat), j < xs.length → i < 10 → (flatH xs)[j * 10 + i]? = (xs.getD j TH.zero).cells[i]?
  | [], _, _, h, _ => absurd h (by simp)
  | x :: r, 0, i, _, hi => by
    unfold flatH
    rw [List.flatMap_cons, List.getElem?_append_left (by rw [TH.cells_len]; omega)]
    simp
  | x :: r, j + 1, i, h, hi => by
    have := flatH_at r j i (by simpa using h) hi
    unfold flatH at this ⊢
    rw [List.flatMap_cons, List.getElem?_append_right (by rw [TH.cells_len]; omega), TH.cells_len, show (j + 1) * 10 + i - 10 = j * 10 + i by omega, this]
    simp
theorem flatH_one {xs : List TH} : ∀ u ∈ flatH xs, u.oneCell' = true := fun u hu => by
  unfold flatH at hu
  obtain ⟨e, _, hu⟩ := List.mem_flatMap.1 hu
  simp only [TH.cells, List.mem_cons, List.not_mem_nil, or_false] at hu
  rcases hu with rfl | rfl | rfl | rfl | rfl | rfl | rfl | rfl | rfl | rfl <;> rfl
theorem infoH : (Tryd.prog.info? 52).map (fun i => (i.zero, i.size, i.bytes)) = some (some (.agg #[.int .u64 0, .int .u64 0, .int .u64 0, .int .u64 0, .int .u64 0, .int .u64 0, .int .u64 0, .int .u64 0, .int .u64 0, .int .u64 0]), 10, 80) := by kernel_rfl
/-- A row that is read. -/
def SeeH (w : World) (v : Value) (xs : List TH) : Prop := (v = .slice none 0 0 ∧ xs = []) ∨ ∃ g off c, v = .slice (some ⟨g, off, none⟩) xs.length c ∧ xs.length ≤ c ∧ c ≤ 9223372036854775807 ∧ ∀ j u, (flatH xs)[j]? = some u → w.cell? ⟨g, off + j, none⟩ = some u
/-- A row of the call's own. -/
def OwnH (w : World) (B : Nat) (v : Value) (xs : List TH) : Prop := w.ownsRow B 52 10 v xs.length (flatH xs)
section
variable {w w' : World} {B B' : Nat} {v : Value} {xs ys : List TH}
theorem OwnH.nil (w : World) (B : Nat) : OwnH w B (.slice none 0 0) [] := World.ownsRow_nil _ _ _ _
theorem OwnH.see (h : OwnH w B v xs) : SeeH w v xs := by
  obtain ⟨_, h⟩ := h
  rcases h with ⟨rfl, h0⟩ | ⟨g, cap, cur, rfl, _, hg, hc, hm, hs, ht⟩
  · exact .inl ⟨rfl, List.length_eq_zero_iff.1 h0⟩
  · refine .inr ⟨g, 0, cap, rfl, hc, by unfold maxLen at hm; exact hm, fun j u hu => ?_⟩
    have hj : j < xs.length * 10 := by have := (List.getElem?_eq_some_iff.1 hu).1; rwa [flatH_len] at this
    rw [← ht, List.getElem?_take, if_pos hj] at hu
    rw [Nat.zero_add, cell_of_row w g j cur _ (0, 0) hg]
    simpa using hu
theorem OwnH.mono (h : OwnH w B v xs) (hB : B' ≤ B) : OwnH w B' v xs := by
  obtain ⟨h1, h⟩ := h
  refine ⟨h1, ?_⟩
  rcases h with h | ⟨g, cap, cur, e, hb, rest⟩
  · exact .inl h
  · exact .inr ⟨g, cap, cur, e, Nat.le_trans hB hb, rest⟩
theorem OwnH.same (h : OwnH w B v xs) (hs : ∀ g, v.ownBlock = some g → w'.heap[g]? = w.heap[g]?) : OwnH w' B v xs := by
  obtain ⟨h1, h⟩ := h
  refine ⟨h1, ?_⟩
  rcases h with h | ⟨g, cap, cur, rfl, hb, hg, rest⟩
  · exact .inl h
  · exact .inr ⟨g, cap, cur, rfl, hb, (hs g rfl).trans hg, rest⟩
theorem OwnH.bq (h : OwnH w B v xs) {g : Nat} (hg : v.ownBlock = some g) : B ≤ g ∧ ∃ cs, Bq g 52 cs w := by
  obtain ⟨_, h⟩ := h
  rcases h with ⟨rfl, _⟩ | ⟨g', cap, cur, rfl, hb, hh, _⟩
  · cases hg
  · obtain rfl : g' = g := by simpa [Value.ownBlock] using hg
    exact ⟨hb, cur.toList, by unfold Bq; simpa using hh⟩
theorem OwnH.lt (h : OwnH w B v xs) {g : Nat} (hg : v.ownBlock = some g) : g < w.heap.size := by obtain ⟨_, cs, k⟩ := h.bq hg; exact k.lt
theorem OwnH.below (h : OwnH w B v xs) (hb : Below w.heap.size w w') : OwnH w' B v xs := h.same fun _ hg => hb.block _ (h.lt hg)
theorem SeeH.below (h : SeeH w v xs) (hb : Below w.heap.size w w') : SeeH w' v xs := by
  rcases h with h | ⟨g, off, c, rfl, h1, h2, h3⟩
  · exact .inl h
  · exact .inr ⟨g, off, c, rfl, h1, h2, fun j u hu => (hb.cell (p := ⟨g, off + j, none⟩) (World.block_lt_of_cell? w _ (h3 j u hu))).trans (h3 j u hu)⟩
/-- The cells of one of its threads. -/
theorem SeeH.at_ {g off n c : Nat} (h : SeeH w (.slice (some ⟨g, off, none⟩) n c) xs) {j : Nat} (hj : j < xs.length) : ∀ i, i < 10 → w.cell? ⟨g, off + j * 10 + i, none⟩ = (xs.getD j TH.zero).cells[i]? := fun i hi => by
  rcases h with ⟨e, _⟩ | ⟨g', off', c', e, _, _, h3⟩
  · cases e
  · injection e with e1 e2 e3
    injection e1 with e1
    injection e1 with e1 e4
    subst e1 e4
    have hf := flatH_at xs j i hj hi
    have : ((xs.getD j TH.zero).cells)[i]? = some ((xs.getD j TH.zero).cells[i]'(by rw [TH.cells_len]; exact hi)) := List.getElem?_eq_getElem _
    rw [this] at hf ⊢
    rw [Nat.add_assoc]
    exact h3 _ _ hf
theorem SeeH.addr {A : Option Addr} {n c : Nat} (h : SeeH w (.slice A n c) xs) (hn : 0 < n) : n ≤ c ∧ c ≤ 9223372036854775807 ∧ ∃ g off, A = some ⟨g, off, none⟩ := by
  rcases h with ⟨e, _⟩ | ⟨g, off, c', e, h1, h2, _⟩
  · injection e with _ e2; omega
  · injection e with e1 e2 e3
    subst e1 e2 e3
    exact ⟨h1, h2, g, off, rfl⟩
theorem SeeH.ten {g off n c : Nat} (h : SeeH w (.slice (some ⟨g, off, none⟩) n c) xs) {j : Nat} (hj : j < xs.length) : w.cell? ⟨g, off + j * 10, none⟩ = some (.int .u64 ((xs.getD j TH.zero).get 0)) ∧ w.cell? ⟨g, off + j * 10 + 1, none⟩ = some (.int .u64 ((xs.getD j TH.zero).get 1)) ∧ w.cell? ⟨g, off + j * 10 + 2, none⟩ = some (.int .u64 ((xs.getD j TH.zero).get 2)) ∧ w.cell? ⟨g, off + j * 10 + 3, none⟩ = some (.int .u64 ((xs.getD j TH.zero).get 3)) ∧ w.cell? ⟨g, off + j * 10 + 4, none⟩ = some (.int .u64 ((xs.getD j TH.zero).get 4)) ∧ w.cell? ⟨g, off + j * 10 + 5, none⟩ = some (.int .u64 ((xs.getD j TH.zero).get 5)) ∧ w.cell? ⟨g, off + j * 10 + 6, none⟩ = some (.int .u64 ((xs.getD j TH.zero).get 6)) ∧ w.cell? ⟨g, off + j * 10 + 7, none⟩ = some (.int .u64 ((xs.getD j TH.zero).get 7)) ∧ w.cell? ⟨g, off + j * 10 + 8, none⟩ = some (.int .u64 ((xs.getD j TH.zero).get 8)) ∧ w.cell? ⟨g, off + j * 10 + 9, none⟩ = some (.int .u64 ((xs.getD j TH.zero).get 9)) :=
  ⟨(h.at_ hj 0 (by decide)).trans (TH.cells_get _ (by decide)), (h.at_ hj 1 (by decide)).trans (TH.cells_get _ (by decide)), (h.at_ hj 2 (by decide)).trans (TH.cells_get _ (by decide)), (h.at_ hj 3 (by decide)).trans (TH.cells_get _ (by decide)), (h.at_ hj 4 (by decide)).trans (TH.cells_get _ (by decide)), (h.at_ hj 5 (by decide)).trans (TH.cells_get _ (by decide)), (h.at_ hj 6 (by decide)).trans (TH.cells_get _ (by decide)), (h.at_ hj 7 (by decide)).trans (TH.cells_get _ (by decide)), (h.at_ hj 8 (by decide)).trans (TH.cells_get _ (by decide)), (h.at_ hj 9 (by decide)).trans (TH.cells_get _ (by decide))⟩
theorem SeeH.len {A : Option Addr} {n c : Nat} (h : SeeH w (.slice A n c) xs) : n = xs.length := by
  rcases h with ⟨e, rfl⟩ | ⟨g, off, c', e, _⟩
  · injection e
  · injection e
end
end Go.Proofs.YtapcgikamldchaaDoor
namespace Go.Proofs.YtapcgikamldchaaDoor
open Go.RowKit Go.Maps

set_option maxRecDepth 100000 in
set_option maxHeartbeats 4000000 in
theorem eqHaz (a7 a8 a9 b7 b8 b9 : Int) (w : World) : (Op.equalIn 9999 50 (.agg #[.int .u64 a7, .int .u64 a8, .int .u64 a9]) (.agg #[.int .u64 b7, .int .u64 b8, .int .u64 b9])).run Tryd.prog w = .ok (a7 == b7 && (a8 == b8 && a9 == b9)) w := by
  have ud := Tryd.underlying34
  have vd := Tryd.isAgg34
  have zd := Tryd.sizeOf34
  have ua := Tryd.underlying50
  have va := Tryd.isAgg50
  have za := Tryd.sizeOf50
  unfold Op.equalIn
  go_simp
  rw [show List.range' 0 3 = [0, 1, 2] from rfl]
  simp only [List.forIn_cons, List.forIn_nil]
  go_simp
  by_cases h7 : a7 = b7
  · subst h7
    by_cases h8 : a8 = b8
    · subst h8
      by_cases h9 : a9 = b9
      · subst h9
        simp
      · simp [h9]
    · simp [h8]
  · simp [h7]
theorem th_dec (a0 a1 a2 a3 a4 a5 a6 a7 a8 a9 b0 b1 b2 b3 b4 b5 b6 b7 b8 b9 : Int) : decide ((⟨a0, a1, a2, a3, a4, a5, a6, a7, a8, a9⟩ : TH) = ⟨b0, b1, b2, b3, b4, b5, b6, b7, b8, b9⟩) = (a0 == b0 && (a1 == b1 && (a2 == b2 && (a3 == b3 && (a4 == b4 && (a5 == b5 && (a6 == b6 && (a7 == b7 && (a8 == b8 && a9 == b9))))))))) := by
  rw [Bool.eq_iff_iff]
  simp
set_option maxRecDepth 100000 in
set_option maxHeartbeats 16000000 in
theorem neq_th (a0 a1 a2 a3 a4 a5 a6 a7 a8 a9 b0 b1 b2 b3 b4 b5 b6 b7 b8 b9 : Int) (w : World) : (binOp .neq 52 (.agg #[.int .u64 a0, .int .u64 a1, .int .u64 a2, .int .u64 a3, .int .u64 a4, .int .u64 a5, .int .u64 a6, .int .u64 a7, .int .u64 a8, .int .u64 a9]) (.agg #[.int .u64 b0, .int .u64 b1, .int .u64 b2, .int .u64 b3, .int .u64 b4, .int .u64 b5, .int .u64 b6, .int .u64 b7, .int .u64 b8, .int .u64 b9])).run Tryd.prog w = .ok (.bool (!decide ((⟨a0, a1, a2, a3, a4, a5, a6, a7, a8, a9⟩ : TH) = ⟨b0, b1, b2, b3, b4, b5, b6, b7, b8, b9⟩))) w := by
  have hS : Tryd.prog.underlying 52 = some (.struct (Tryd.prog.fieldsOf 52)) := by kernel_rfl
  have hp : Tryd.prog.stoodInHeld 52 = false := by kernel_rfl
  have ud := Tryd.underlying34
  have vd := Tryd.isAgg34
  have zd := Tryd.sizeOf34
  have va := Tryd.isAgg50
  have za := Tryd.sizeOf50
  have hR := eqHaz a7 a8 a9 b7 b8 b9
  rw [run_neq_struct, show (10000 : Nat) = 9999 + 1 from rfl, run_equalIn_agg w 9999 52 _ _ hS hp, th_dec]
  simp only [Program.fieldsOf, Tryd.underlying52]
  clear hS hp
  go_simp
  by_cases h0 : a0 = b0
  · subst h0
    by_cases h1 : a1 = b1
    · subst h1
      by_cases h2 : a2 = b2
      · subst h2
        by_cases h3 : a3 = b3
        · subst h3
          by_cases h4 : a4 = b4
          · subst h4
            by_cases h5 : a5 = b5
            · subst h5
              by_cases h6 : a6 = b6
              · subst h6
                by_cases h7 : a7 = b7
                · subst h7
                  by_cases h8 : a8 = b8
                  · subst h8
                    by_cases h9 : a9 = b9
                    · subst h9
                      simp
                    · simp [h9]
                  · simp [h8]
                · simp [h7]
              · simp [h6]
            · simp [h5]
          · simp [h4]
        · simp [h3]
      · simp [h2]
    · simp [h1]
  · simp [h0]
set_option maxRecDepth 100000 in
set_option maxHeartbeats 16000000 in
theorem eql_th (a0 a1 a2 a3 a4 a5 a6 a7 a8 a9 b0 b1 b2 b3 b4 b5 b6 b7 b8 b9 : Int) (w : World) : (binOp .eql 52 (.agg #[.int .u64 a0, .int .u64 a1, .int .u64 a2, .int .u64 a3, .int .u64 a4, .int .u64 a5, .int .u64 a6, .int .u64 a7, .int .u64 a8, .int .u64 a9]) (.agg #[.int .u64 b0, .int .u64 b1, .int .u64 b2, .int .u64 b3, .int .u64 b4, .int .u64 b5, .int .u64 b6, .int .u64 b7, .int .u64 b8, .int .u64 b9])).run Tryd.prog w = .ok (.bool (decide ((⟨a0, a1, a2, a3, a4, a5, a6, a7, a8, a9⟩ : TH) = ⟨b0, b1, b2, b3, b4, b5, b6, b7, b8, b9⟩))) w := by
  have hS : Tryd.prog.underlying 52 = some (.struct (Tryd.prog.fieldsOf 52)) := by kernel_rfl
  have hp : Tryd.prog.stoodInHeld 52 = false := by kernel_rfl
  have ud := Tryd.underlying34
  have vd := Tryd.isAgg34
  have zd := Tryd.sizeOf34
  have va := Tryd.isAgg50
  have za := Tryd.sizeOf50
  have hR := eqHaz a7 a8 a9 b7 b8 b9
  rw [run_eql_struct, show (10000 : Nat) = 9999 + 1 from rfl, run_equalIn_agg w 9999 52 _ _ hS hp, th_dec]
  simp only [Program.fieldsOf, Tryd.underlying52]
  clear hS hp
  go_simp
  by_cases h0 : a0 = b0
  · subst h0
    by_cases h1 : a1 = b1
    · subst h1
      by_cases h2 : a2 = b2
      · subst h2
        by_cases h3 : a3 = b3
        · subst h3
          by_cases h4 : a4 = b4
          · subst h4
            by_cases h5 : a5 = b5
            · subst h5
              by_cases h6 : a6 = b6
              · subst h6
                by_cases h7 : a7 = b7
                · subst h7
                  by_cases h8 : a8 = b8
                  · subst h8
                    by_cases h9 : a9 = b9
                    · subst h9
                      simp
                    · simp [h9]
                  · simp [h8]
                · simp [h7]
              · simp [h6]
            · simp [h5]
          · simp [h4]
        · simp [h3]
      · simp [h2]
    · simp [h1]
  · simp [h0]
theorem neq_any (t u : TH) (w : World) : (binOp .neq 52 (.agg #[.int .u64 (t.get 0), .int .u64 (t.get 1), .int .u64 (t.get 2), .int .u64 (t.get 3), .int .u64 (t.get 4), .int .u64 (t.get 5), .int .u64 (t.get 6), .int .u64 (t.get 7), .int .u64 (t.get 8), .int .u64 (t.get 9)]) (.agg #[.int .u64 (u.get 0), .int .u64 (u.get 1), .int .u64 (u.get 2), .int .u64 (u.get 3), .int .u64 (u.get 4), .int .u64 (u.get 5), .int .u64 (u.get 6), .int .u64 (u.get 7), .int .u64 (u.get 8), .int .u64 (u.get 9)])).run Tryd.prog w = .ok (.bool (!decide (t = u))) w := by
  obtain ⟨a0, a1, a2, a3, a4, a5, a6, a7, a8, a9⟩ := t
  obtain ⟨b0, b1, b2, b3, b4, b5, b6, b7, b8, b9⟩ := u
  exact neq_th _ _ _ _ _ _ _ _ _ _ _ _ _ _ _ _ _ _ _ _ w
theorem eql_any (t u : TH) (w : World) : (binOp .eql 52 (.agg #[.int .u64 (t.get 0), .int .u64 (t.get 1), .int .u64 (t.get 2), .int .u64 (t.get 3), .int .u64 (t.get 4), .int .u64 (t.get 5), .int .u64 (t.get 6), .int .u64 (t.get 7), .int .u64 (t.get 8), .int .u64 (t.get 9)]) (.agg #[.int .u64 (u.get 0), .int .u64 (u.get 1), .int .u64 (u.get 2), .int .u64 (u.get 3), .int .u64 (u.get 4), .int .u64 (u.get 5), .int .u64 (u.get 6), .int .u64 (u.get 7), .int .u64 (u.get 8), .int .u64 (u.get 9)])).run Tryd.prog w = .ok (.bool (decide (t = u))) w := by
  obtain ⟨a0, a1, a2, a3, a4, a5, a6, a7, a8, a9⟩ := t
  obtain ⟨b0, b1, b2, b3, b4, b5, b6, b7, b8, b9⟩ := u
  exact eql_th _ _ _ _ _ _ _ _ _ _ _ _ _ _ _ _ _ _ _ _ w
theorem takeH_next {g : List TH} {i : Nat} (hi : i < g.length) : g.take (i + 1) = g.take i ++ [g.getD i TH.zero] := by
  rw [List.getD_eq_getElem?_getD, List.getElem?_eq_getElem hi, List.take_succ_eq_append_getElem hi]
  rfl
section
variable {w : World} {xs ys : List TH}
set_option maxRecDepth 100000 in
set_option maxHeartbeats 4000000 in
theorem same_snap {A B : Option Addr} {n m c d : Nat} {ep : Int} (hx : SeeH w (.slice A n c) xs) (hy : SeeH w (.slice B m d) ys) (hn : n < 100000) : Calls Tryd.prog 12 #[.agg #[.slice A n c, .int .u64 ep], .agg #[.slice B m d, .int .u64 ep]] w fun e w' => e = .returned (.bool (decide (xs = ys))) ∧ Below w.heap.size w w' := by
  have HNX := Lib.hid hx.len
  have HNY := Lib.hid hy.len
  have HX := Lib.hid hx
  have HY := Lib.hid hy
  have hA1 := (Below.refl w.heap.size w).alloc (Nat.le_refl _) (.cells #[.slice A n c, .int .u64 ep] 36)
  have hA2 := hA1.alloc (by show w.heap.size ≤ (w.heap.push _).size; simp) (.cells #[.slice B m d, .int .u64 ep] 36)
  have HA := Lib.hid hA2
  clear hx hy hA1 hA2
  go_enter Tryd.func12, Tryd.ntmps12
  by_cases hnm : n = m
  · subst hnm
    go_wp2_with fail
    generalize hW1 : (w.alloc (.cells #[.slice A n c, .int .u64 ep] 36)).alloc (.cells #[.slice B n d, .int .u64 ep] 36) = w1 at *
    have q0 : Bq w.heap.size 36 [.slice A n c, .int .u64 ep] w1 := by rw [← hW1]; exact (Bq.new w [.slice A n c, .int .u64 ep] 36).below ((Below.refl _ _).alloc (Nat.le_refl _) _)
    have q1 : Bq (w.heap.size + 1) 36 [.slice B n d, .int .u64 ep] w1 := by
      rw [← hW1]
      have h9 := Bq.new (w.alloc (.cells #[.slice A n c, .int .u64 ep] 36)) [.slice B n d, .int .u64 ep] 36
      have hz : (w.alloc (.cells #[.slice A n c, .int .u64 ep] 36)).heap.size = w.heap.size + 1 := by show (w.heap.push _).size = _; simp
      rw [hz] at h9
      exact h9
    clear hW1
    have Q0 := Lib.hid q0
    have Q1 := Lib.hid q1
    clear q0 q1
    go_loopw [5] (fun j wr => ∃ i : Nat, i ≤ n ∧ j = .int .i64 (i : Int) ∧ Hid (Below w1.heap.size w1 wr ∧ xs.take i = ys.take i)) (fun j _ => n - (intOf j).toNat)
    case atStart => exact ⟨0, Nat.zero_le _, rfl, Lib.hid ⟨Below.refl _ _, rfl⟩⟩
    case round =>
      obtain ⟨i, hi, rfl, HR⟩ := hrel
      rename World => wr
      have HBW := Lib.hid (HA.out.trans (HR.out.1.mono HA.out.size))
      have hq0 := (Q0.out.below HR.out.1).cell 0
      have hq1 := (Q1.out.below HR.out.1).cell 0
      dsimp only [List.getElem?_cons_zero] at hq0 hq1
      have hge : (0 : Int) ≤ (i : Int) := by omega
      by_cases hlt : i < n
      · have hlt' : (i : Int) < (n : Int) := by omega
        have hx := HX.out.below HBW.out
        have hy := HY.out.below HBW.out
        obtain ⟨hc, hcm, g, off, rfl⟩ := hx.addr (by omega)
        obtain ⟨hd, hdm, g', off', rfl⟩ := hy.addr (by omega)
        obtain ⟨x0, x1, x2, x3, x4, x5, x6, x7, x8, x9⟩ := hx.ten (j := i) (by have := HNX.out; omega)
        obtain ⟨y0, y1, y2, y3, y4, y5, y6, y7, y8, y9⟩ := hy.ten (j := i) (by have := HNY.out; omega)
        have HZX := Lib.hid (takeH_next (g := xs) (i := i) (by have := HNX.out; omega))
        have HZY := Lib.hid (takeH_next (g := ys) (i := i) (by have := HNY.out; omega))
        have HEX := Lib.hid (List.getElem?_eq_getElem (l := xs) (i := i) (by have := HNX.out; omega))
        have HEY := Lib.hid (List.getElem?_eq_getElem (l := ys) (i := i) (by have := HNY.out; omega))
        have HGX := Lib.hid (show xs[i]? = some (xs.getD i TH.zero) by rw [List.getD_eq_getElem?_getD, HEX.out]; rfl)
        have HGY := Lib.hid (show ys[i]? = some (ys.getD i TH.zero) by rw [List.getD_eq_getElem?_getD, HEY.out]; rfl)
        clear hx hy HEX HEY
        generalize xs.getD i TH.zero = x at *
        generalize ys.getD i TH.zero = y at *
        have hq := neq_any x y
        by_cases he : x = y
        · have hd0 : (!decide (x = y)) = false := by simp [he]
          rw [hd0] at hq
          have HE := Lib.hid he
          clear he hd0
          go_wp2_with fail
          go_quiet (fail)
          have hbn := Lib.hid (HR.out.1.trans ((below_drewN' (Below.refl _ wr) nq).mono HR.out.1.size))
          clear hq x0 y0 x1 y1 x2 y2 x3 y3 x4 y4 x5 y5 x6 y6 x7 y7 x8 y8 x9 y9 hq0 hq1
          go_wp2_with fail
          go_roundw
          case rel => exact ⟨i + 1, by omega, by go_num, Lib.hid ⟨hbn.out, by rw [HZX.out, HZY.out, HR.out.2, HE.out]⟩⟩
          case measure => simp [intOf]; omega
        · have hd0 : (!decide (x = y)) = true := by simp [he]
          rw [hd0] at hq
          have HE := Lib.hid he
          clear he hd0
          go_wp2_with fail
          go_quiet (fail)
          have hbn := Lib.hid (HBW.out.trans ((below_drewN' (Below.refl _ wr) nq).mono HBW.out.size))
          clear hq x0 y0 x1 y1 x2 y2 x3 y3 x4 y4 x5 y5 x6 y6 x7 y7 x8 y8 x9 y9 hq0 hq1
          go_wp2_with fail
          go_ret
          refine ⟨?_, hbn.out⟩
          have hne : ¬ xs = ys := fun e => by
            have h1 := HGX.out
            rw [e, HGY.out] at h1
            injection h1 with h1
            exact HE.out h1.symm
          rw [decide_eq_false hne]
          rfl
      · have hin : i = n := by omega
        have hnl : ¬ (i : Int) < (n : Int) := by omega
        have hte : xs = ys := by
          have h1 := HR.out.2
          rwa [List.take_of_length_le (by have := HNX.out; omega), List.take_of_length_le (by have := HNY.out; omega)] at h1
        have HT := Lib.hid (decide_eq_true hte)
        clear hin hte
        go_wp2_with fail
        go_ret
        rw [HT.out]
        exact ⟨rfl, HBW.out⟩
  · have h1 : ¬ (n : Int) = (m : Int) := by omega
    have hne : ¬ xs = ys := fun e => hnm (by rw [HNX.out, HNY.out, e])
    have HD := Lib.hid (decide_eq_false hne)
    clear hne
    go_wp2_with fail
    go_ret
    rw [HD.out]
    exact ⟨rfl, HA.out⟩
end
end Go.Proofs.YtapcgikamldchaaDoor
