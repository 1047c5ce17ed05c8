/-
  The document's words of layer 2, told in order: the list that comes of them by insertion, and the three appends of one insertion; condition: the row that is inserted into is owned.
-/
import Derived.Test.YtipgidkpjilhoaaDoorD0
namespace Go.Proofs.YtipgidkpjilhoaaDoor
open Go.RowKit

def lessW (x y : Wd) : Bool := lessB x.k x.a x.f y.k y.a y.f
def insW : List Wd → Wd → List Wd
  | [], y => [y]
  | x :: r, y => if lessW x y = true then x :: insW r y else y :: x :: r
def stepW (acc : List Wd) (y : Wd) : List Wd := if y.v = 0 then acc else insW acc y
/-- The document's words, in order. -/
def wordsF (l : List Wd) : List Wd := l.foldl stepW []
theorem insW_len (sl : List Wd) (y : Wd) : (insW sl y).length = sl.length + 1 := by
  induction sl with
  | nil => rfl
  | cons x r ih => unfold insW; split <;> simp [ih]
theorem insW_at (y : Wd) : ∀ (sl : List Wd) (k : Nat), k ≤ sl.length → (∀ c, c < k → lessW (sl.getD c wd0) y = true) → (k = sl.length ∨ lessW (sl.getD k wd0) y = false) → insW sl y = sl.take k ++ [y] ++ sl.drop k := by
  intro sl
  induction sl with
  | nil => intro k hk _ _; simp at hk; subst hk; rfl
  | cons x r ih =>
    intro k hk hb ht
    cases k with
    | zero =>
      rcases ht with ht | ht
      · simp at ht
      · simp at ht
        simp [insW, ht]
    | succ k =>
      have h0 := hb 0 (by omega)
      simp at h0
      have h1 := ih k (by simpa using hk) (fun c hc => by simpa using hb (c + 1) (by omega)) (by
        rcases ht with ht | ht
        · exact .inl (by simpa using ht)
        · exact .inr (by simpa using ht))
      unfold insW
      rw [if_pos h0, h1]
      simp
theorem wordsF_succ (l : List Wd) (i : Nat) (hi : i < l.length) : wordsF (l.take (i + 1)) = stepW (wordsF (l.take i)) (l.getD i wd0) := by
  unfold wordsF
  rw [List.take_add_one, List.getElem?_eq_getElem hi, List.foldl_append]
  simp [List.getD_eq_getElem?_getD, List.getElem?_eq_getElem hi]
theorem wordsF_len (l : List Wd) : ∀ acc : List Wd, (l.foldl stepW acc).length ≤ acc.length + l.length := by
  induction l with
  | nil => intro acc; simp
  | cons y r ih =>
    intro acc
    refine Nat.le_trans (ih _) ?_
    have : (stepW acc y).length ≤ acc.length + 1 := by unfold stepW; split <;> simp [insW_len]
    simp only [List.length_cons]
    omega
theorem wordsF_le (l : List Wd) (i : Nat) : (wordsF (l.take i)).length ≤ i := by
  have := wordsF_len (l.take i) []
  unfold wordsF
  simp at this ⊢
  omega

theorem addr_plus (g o j : Nat) : (⟨g, o, none⟩ : Addr).add j = ⟨g, o + j, none⟩ := by unfold Addr.add; split <;> simp_all
theorem flat_app (x y : List Wd) : flat (x ++ y) = flat x ++ flat y := by simp [flat]
theorem flat_split (sl : List Wd) (k : Nat) : flat sl = flat (sl.take k) ++ flat (sl.drop k) := by
  rw [← flat_app, List.take_append_drop]
theorem flat_one (sl : List Wd) : ∀ u ∈ flat sl, u.oneCell' = true := by
  intro u hu
  simp [flat, Wd.cells] at hu
  obtain ⟨x, _, h⟩ := hu
  rcases h with rfl | rfl | rfl | rfl <;> rfl
theorem cells_one (y : Wd) : ∀ u ∈ y.cells, u.oneCell' = true := by
  intro u hu
  simp [Wd.cells] at hu
  rcases hu with rfl | rfl | rfl | rfl <;> rfl
section
variable {W : World} {B0 g2 c2 k : Nat} {sl : List Wd}
theorem news_take (h : W.ownsRow B0 104 4 (.slice (some ⟨g2, 0, none⟩) sl.length c2) sl.length (flat sl)) (hk : k ≤ sl.length) : ∀ j u, (flat (sl.take k))[j]? = some u → W.cell? ((⟨g2, 0, none⟩ : Addr).add j) = some u := by
  intro j u hj
  have hlt := (List.getElem?_eq_some_iff.1 hj).1
  have hl := flat_len (sl.take k)
  rw [List.length_take, Nat.min_eq_left hk] at hl
  rw [addr_plus, Nat.zero_add, h.cellAt j (by omega), flat_split sl k, List.getElem?_append_left hlt, hj]
theorem news_drop (h : W.ownsRow B0 104 4 (.slice (some ⟨g2, 0, none⟩) sl.length c2) sl.length (flat sl)) (hk : k ≤ sl.length) : ∀ j u, (flat (sl.drop k))[j]? = some u → W.cell? ((⟨g2, k * 4, none⟩ : Addr).add j) = some u := by
  intro j u hj
  have hlt := (List.getElem?_eq_some_iff.1 hj).1
  have hl := flat_len (sl.drop k)
  have hl1 := flat_len (sl.take k)
  rw [List.length_take, Nat.min_eq_left hk] at hl1
  rw [List.length_drop] at hl
  rw [addr_plus, h.cellAt (k * 4 + j) (by omega), flat_split sl k, List.getElem?_append_right (by omega), hl1, Nat.add_sub_cancel_left, hj]
theorem row_below {w0 : World} {B : Nat} {v : Value} {n : Nat} {xs : List Value} (h : w0.ownsRow B 104 4 v n xs) (hb : Below w0.heap.size w0 W) : W.ownsRow B 104 4 v n xs := by
  refine ⟨h.1, ?_⟩
  rcases h.2 with hn | ⟨g, cap, cur, hv, hB, hg, r⟩
  · exact .inl hn
  · refine .inr ⟨g, cap, cur, hv, hB, ?_, r⟩
    exact (hb.block g (Array.getElem?_eq_some_iff.1 hg).1).trans hg
theorem row_base {B : Nat} {v : Value} {n : Nat} {xs : List Value} (h : W.ownsRow B 104 4 v n xs) : ∀ q, v.ownBlock = some q → B ≤ q := by
  intro q hq
  rcases h.2 with ⟨hv, _⟩ | ⟨g, cap, cur, hv, hB, hg, r⟩
  · subst hv; simp [Value.ownBlock] at hq
  · subst hv
    simp only [Value.ownBlock, Option.some.injEq] at hq
    omega
theorem row_mono {B B' : Nat} {v : Value} {n : Nat} {xs : List Value} (h : W.ownsRow B 104 4 v n xs) (hb : B' ≤ B) : W.ownsRow B' 104 4 v n xs := by
  refine ⟨h.1, ?_⟩
  rcases h.2 with hn | ⟨g, cap, cur, hv, hB, hg, r⟩
  · exact .inl hn
  · exact .inr ⟨g, cap, cur, hv, Nat.le_trans hb hB, hg, r⟩

variable {ops : Array Oper} {o : Oper} {a : Act} {K : Act → World → Prop} {Q : Exit → Act → World → Prop} {E : Prop} {w0 : World}
/-- The first append: what stands ahead, in memory of its own. -/
theorem appA (hgd : o.guard = none) (s x : Operand) (ho : o.op = .call { callee := .builtin .append, args := #[s, x], argTypes := #[84, 84] })
    (hW : Below w0.heap.size w0 W) (h : w0.ownsRow B0 104 4 (.slice (some ⟨g2, 0, none⟩) sl.length c2) sl.length (flat sl)) (hk : k ≤ sl.length) (hn : sl.length ≤ 1000) (c : Nat)
    (hs : a.eval s = .slice none 0 0) (hx : a.eval x = .slice (some ⟨g2, 0, none⟩) k c)
    (hK : ∀ v1 w1, w1.ownsRow w0.heap.size 104 4 v1 k (flat (sl.take k)) → Below W.heap.size W w1 → Below w0.heap.size w0 w1 → K (a.put o.dst v1) w1) :
    if Region.wanted o (yielded ops a.tmps) = true then Oper.wp Tryd.prog o a W K Q else E := by
  obtain ⟨i0, q1, q2, q3, q4⟩ := info_parts Tryd_info64
  have hl := flat_len (sl.take k)
  rw [List.length_take, Nat.min_eq_left hk] at hl
  refine step_append_at W hgd s x 84 ho w0.heap.size 104 i0 (.agg #[.int .u8 0, .int .i64 0, .int .i64 0, .int .u64 0]) 4 32 Tryd.underlying84 q1 q2 q3 q4 rfl (by decide) (.slice none 0 0) 0 [] hs (World.ownsRow_nil _ _ _ _) ⟨g2, 0, none⟩ k c (flat (sl.take k)) hx hl
    (news_take (row_below h hW) hk) (flat_one _) (by unfold maxLen; omega) (by omega) hW.size ?_
  intro v1 w1 h1 h2 _
  rw [Nat.zero_add, List.nil_append] at h1
  have hb : Below W.heap.size W w1 := (Below.refl _ W).grown h2 (Nat.le_refl _) (fun q hq => by simp [Value.ownBlock] at hq)
  exact hK v1 w1 h1 hb (hW.trans (hb.mono hW.size))
/-- The second: the word itself. -/
theorem appB {v1 : Value} {y : Wd} {q : Nat} (hgd : o.guard = none) (s x : Operand) (ho : o.op = .call { callee := .builtin .append, args := #[s, x], argTypes := #[84, 84] })
    (hW : Below w0.heap.size w0 W) (xs : List Wd) (hn : xs.length ≤ 1000) (h : W.ownsRow w0.heap.size 104 4 v1 xs.length (flat xs)) (hq : W.heap[q]? = some (.cells y.cells.toArray 104 (0, 0))) (c : Nat)
    (hs : a.eval s = v1) (hx : a.eval x = .slice (some ⟨q, 0, none⟩) 1 c)
    (hK : ∀ v2 w2, w2.ownsRow w0.heap.size 104 4 v2 (xs.length + 1) (flat (xs ++ [y])) → Below w0.heap.size w0 w2 → K (a.put o.dst v2) w2) :
    if Region.wanted o (yielded ops a.tmps) = true then Oper.wp Tryd.prog o a W K Q else E := by
  obtain ⟨i0, q1, q2, q3, q4⟩ := info_parts Tryd_info64
  refine step_append_at W hgd s x 84 ho w0.heap.size 104 i0 (.agg #[.int .u8 0, .int .i64 0, .int .i64 0, .int .u64 0]) 4 32 Tryd.underlying84 q1 q2 q3 q4 rfl (by decide) v1 xs.length (flat xs) hs h ⟨q, 0, none⟩ 1 c y.cells hx rfl
    (by simpa using World.news_of_block hq) (cells_one y) (by unfold maxLen; omega) (by omega) hW.size ?_
  intro v2 w2 h1 h2 _
  exact hK v2 w2 (by rw [flat_push]; exact h1) (hW.grown h2 hW.size (fun k hk => row_base h k hk))
/-- The third: what stands behind. -/
theorem appC {v2 : Value} (hgd : o.guard = none) (s x : Operand) (ho : o.op = .call { callee := .builtin .append, args := #[s, x], argTypes := #[84, 84] })
    (hW : Below w0.heap.size w0 W) (h : w0.ownsRow B0 104 4 (.slice (some ⟨g2, 0, none⟩) sl.length c2) sl.length (flat sl)) (hk : k ≤ sl.length) (hn : sl.length ≤ 1000) (xs : List Wd) (hxs : xs.length ≤ 1001) (hv : W.ownsRow w0.heap.size 104 4 v2 xs.length (flat xs)) (c : Nat)
    (hs : a.eval s = v2) (hc2 : sl.length ≤ c2) (hx : a.eval x = .slice (if c2 = k then some ⟨g2, 0, none⟩ else some ⟨g2, k * 4, none⟩) (sl.length - k) c)
    (hK : ∀ v3 w3, w3.ownsRow w0.heap.size 104 4 v3 (xs ++ sl.drop k).length (flat (xs ++ sl.drop k)) → Below w0.heap.size w0 w3 → K (a.put o.dst v3) w3) :
    if Region.wanted o (yielded ops a.tmps) = true then Oper.wp Tryd.prog o a W K Q else E := by
  obtain ⟨i0, q1, q2, q3, q4⟩ := info_parts Tryd_info64
  have hl := flat_len (sl.drop k)
  rw [List.length_drop] at hl
  obtain ⟨ad, hx', hnw⟩ : ∃ ad : Addr, a.eval x = .slice (some ad) (sl.length - k) c ∧ ∀ j u, (flat (sl.drop k))[j]? = some u → W.cell? (ad.add j) = some u := by
    by_cases hc : c2 = k
    · rw [if_pos hc] at hx
      refine ⟨_, hx, fun j u hj => ?_⟩
      have := (List.getElem?_eq_some_iff.1 hj).1
      omega
    · rw [if_neg hc] at hx
      exact ⟨_, hx, news_drop (row_below h hW) hk⟩
  refine step_append_at W hgd s x 84 ho w0.heap.size 104 i0 (.agg #[.int .u8 0, .int .i64 0, .int .i64 0, .int .u64 0]) 4 32 Tryd.underlying84 q1 q2 q3 q4 rfl (by decide) v2 xs.length (flat xs) hs hv ad (sl.length - k) c (flat (sl.drop k)) hx' hl
    hnw (flat_one _) (by unfold maxLen; omega) (by omega) hW.size ?_
  intro v3 w3 h1 h2 _
  refine hK v3 w3 ?_ (hW.grown h2 hW.size (fun k hk => row_base hv k hk))
  rw [List.length_append, List.length_drop, show flat (xs ++ sl.drop k) = flat xs ++ flat (sl.drop k) by simp [flat]]
  exact h1
end
end Go.Proofs.YtipgidkpjilhoaaDoor
