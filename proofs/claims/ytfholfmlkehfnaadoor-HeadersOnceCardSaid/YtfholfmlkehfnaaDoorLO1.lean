/-
  What HeadersOnce asks besides: how often each generation was live, counted in an array; three appends of parts of a row that stays; conditions: the rows lie as it says.
-/
import Derived.Test.YtfholfmlkehfnaaDoorHE5
import Derived.Test.YtfholfmlkehfnaaDoorU1
import Derived.Maps.AppendAt
namespace Go.Proofs.YtfholfmlkehfnaaDoor
open Go.RowKit

/-- The array holds how often each generation was live among the first i headers. -/
structure LiveC (c : Array Value) (ps : List Int) (i : Nat) : Prop where
  size : c.size = 10
  at_ : ∀ j : Nat, j < 10 → c[j]? = some (.int .i64 ((liveN (ps.take i) (j : Int) : Nat) : Int))
theorem LiveC.start (ps : List Int) : LiveC #[.int .i64 0, .int .i64 0, .int .i64 0, .int .i64 0, .int .i64 0, .int .i64 0, .int .i64 0, .int .i64 0, .int .i64 0, .int .i64 0] ps 0 := by
  refine ⟨rfl, fun j hj => ?_⟩
  match j, hj with
  | 0, _ => rfl
  | 1, _ => rfl
  | 2, _ => rfl
  | 3, _ => rfl
  | 4, _ => rfl
  | 5, _ => rfl
  | 6, _ => rfl
  | 7, _ => rfl
  | 8, _ => rfl
  | 9, _ => rfl
  | j + 10, h => exact absurd h (by omega)
theorem liveN_take {ps : List Int} {i : Nat} (hi : i < ps.length) (g : Int) : liveN (ps.take (i + 1)) g = liveN (ps.take i) g + if ps.getD i 0 = hw 1 g then 1 else 0 := by
  rw [List.take_add_one, List.getElem?_eq_getElem hi]
  rw [show (some ps[i]).toList = [ps.getD i 0] by simp [List.getD_eq_getElem?_getD, List.getElem?_eq_getElem hi]]
  exact liveN_snoc _ _ _
theorem liveN_le (ps : List Int) (i : Nat) (g : Int) : liveN (ps.take i) g ≤ liveN ps g := by
  unfold liveN
  exact ((List.take_sublist i ps).filter _).length_le
theorem LiveC.skip {c : Array Value} {ps : List Int} {i : Nat} (h : LiveC c ps i) (hi : i < ps.length) (hx : ∀ g : Int, ps.getD i 0 ≠ hw 1 g) : LiveC c ps (i + 1) :=
  ⟨h.size, fun j hj => by rw [h.at_ j hj, liveN_take hi, if_neg (hx _), Nat.add_zero]⟩
theorem LiveC.push {c : Array Value} {ps : List Int} {i b : Nat} (h : LiveC c ps i) (hi : i < ps.length) (hb : b < 10) (hx : ps.getD i 0 = hw 1 (b : Int)) (V : Int) (hV : V = ((liveN (ps.take i) (b : Int) : Nat) : Int) + 1) : LiveC (c.setIfInBounds b (.int .i64 V)) ps (i + 1) := by
  refine ⟨by rw [Array.size_setIfInBounds]; exact h.size, fun j hj => ?_⟩
  rw [liveN_take hi]
  by_cases e : b = j
  · subst e
    rw [if_pos hx, Array.getElem?_setIfInBounds_self_of_lt (by rw [h.size]; exact hb), hV]
    rfl
  · rw [Array.getElem?_setIfInBounds_ne e, h.at_ j hj, if_neg, Nat.add_zero]
    rw [hx]
    intro e2
    unfold hw at e2
    omega
theorem isz3 : (Tryd.prog.info? 3).map (·.size) = some 1 := by kernel_rfl
section
variable {P : Program} (w : World)
theorem step_append_at {ops : Array Oper} {o : Oper} {a : Act} {K : Act → World → Prop} {Q : Exit → Act → World → Prop} {E : Prop} (hgd : o.guard = none) (s x : Operand) (t : TypeId)
    (ho : o.op = .call { callee := .builtin .append, args := #[s, x], argTypes := #[t, t] })
    (base : Nat) (e : TypeId) (i : TypeInfo) (z : Value) (size bytes : Nat) (ht : P.underlying t = some (.slice e)) (hi : P.info? e = some i) (hz : i.zero = some z)
    (hsize : i.size = size) (hby : i.bytes = bytes) (hzs : z.cells.size = size) (hsz : 0 < size)
    (v : Value) (n : Nat) (xs : List Value) (hs : a.eval s = v) (hown : w.ownsRow base e size v n xs)
    (ad : Addr) (m c : Nat) (news : List Value) (hx : a.eval x = .slice (some ad) m c) (hl : news.length = m * size) (hnews : ∀ j u, news[j]? = some u → w.cell? (ad.add j) = some u) (h1 : ∀ u ∈ news, u.oneCell' = true)
    (h63 : n + m ≤ maxLen) (hbytes : (n + m) * bytes ≤ 140737488355328) (hbase : base ≤ w.heap.size)
    (h : ∀ v' w', w'.ownsRow base e size v' (n + m) (xs ++ news) → w.grownBy w' v.ownBlock → (v'.ownBlock = v.ownBlock ∨ v'.ownBlock = some w.heap.size) → K (a.put o.dst v') w') :
    if Region.wanted o (yielded ops a.tmps) = true then Oper.wp P o a w K Q else E := by
  have hw : Region.wanted o (yielded ops a.tmps) = true := by simp [Region.wanted, hgd]
  rw [if_pos hw]
  obtain ⟨v', w', hr, h2, h3, _, h5⟩ := run_append_own_at (P := P) w base t o.type e i z size bytes ht hi hz hsize hby hzs hsz v n xs hown ad m c news hl hnews h1 h63 hbytes hbase
  unfold Oper.wp execOp
  simp only [ho, resolve, invoke, builtin, Sem.run_bind, Sem.run_pure, Result.andThen_ok, List.map_toArray, List.map_cons, List.map_nil, hs, hx, hr]
  exact h v' w' h2 h3 h5
end
section
variable {W : World} {B0 g2 c2 k : Nat} {sl : List Int}
theorem news_take (h : W.ownsRow B0 22 1 (.slice (some ⟨g2, 0, none⟩) sl.length c2) sl.length (sl.map uV)) (hk : k ≤ sl.length) : ∀ j u, ((sl.take k).map uV)[j]? = some u → W.cell? ((⟨g2, 0, none⟩ : Addr).add j) = some u := by
  intro j u hj
  have hlt := (List.getElem?_eq_some_iff.1 hj).1
  rw [List.length_map, List.length_take] at hlt
  rw [add_plus, Nat.zero_add, h.cellAt j (by omega), ← hj, List.map_take, List.getElem?_take_of_lt (by omega)]
theorem news_drop (h : W.ownsRow B0 22 1 (.slice (some ⟨g2, 0, none⟩) sl.length c2) sl.length (sl.map uV)) (_ : k ≤ sl.length) : ∀ j u, ((sl.drop k).map uV)[j]? = some u → W.cell? ((⟨g2, k, none⟩ : Addr).add j) = some u := by
  intro j u hj
  have hlt := (List.getElem?_eq_some_iff.1 hj).1
  rw [List.length_map, List.length_drop] at hlt
  rw [add_plus, h.cellAt (k + j) (by omega), ← hj, List.map_drop, List.getElem?_drop]
variable {ops : Array Oper} {o : Oper} {a : Act} {K : Act → World → Prop} {Q : Exit → Act → World → Prop} {E : Prop} {w0 : World}
/-- The first append: what stands ahead, in memory of its own. -/
theorem appA (hgd : o.guard = none) (s x : Operand) (ho : o.op = .call { callee := .builtin .append, args := #[s, x], argTypes := #[36, 36] })
    (hW : Below w0.heap.size w0 W) (h : w0.ownsRow B0 22 1 (.slice (some ⟨g2, 0, none⟩) sl.length c2) sl.length (sl.map uV)) (hk : k ≤ sl.length) (hn : sl.length ≤ 1000) (c : Nat)
    (hs : a.eval s = .slice none 0 0) (hx : a.eval x = .slice (some ⟨g2, 0, none⟩) k c)
    (hK : ∀ v1 w1, w1.ownsRow w0.heap.size 22 1 v1 k ((sl.take k).map uV) → Below W.heap.size W w1 → Below w0.heap.size w0 w1 → K (a.put o.dst v1) w1) :
    if Region.wanted o (yielded ops a.tmps) = true then Oper.wp Tryd.prog o a W K Q else E := by
  obtain ⟨i0, q1, q2, q3, q4⟩ := info_parts Tryd_infoU
  refine step_append_at W hgd s x 36 ho w0.heap.size 22 i0 (.int .u64 0) 1 8 Tryd.underlying36 q1 q2 q3 q4 rfl (by decide) (.slice none 0 0) 0 [] hs (World.ownsRow_nil _ _ _ _) ⟨g2, 0, none⟩ k c ((sl.take k).map uV) hx (by rw [List.length_map, List.length_take]; omega)
    (news_take (own_low h hW) hk) (uV_one _) (by unfold maxLen; omega) (by omega) hW.size ?_
  intro v1 w1 h1 h2 _
  rw [Nat.zero_add, List.nil_append] at h1
  have hb : Below W.heap.size W w1 := (Below.refl _ W).grown h2 (Nat.le_refl _) (fun q hq => by simp [Value.ownBlock] at hq)
  exact hK v1 w1 h1 hb (hW.trans (hb.mono hW.size))
/-- The second: the word itself. -/
theorem appB {v1 : Value} {y : Int} {q : Nat} (hgd : o.guard = none) (s x : Operand) (ho : o.op = .call { callee := .builtin .append, args := #[s, x], argTypes := #[36, 36] })
    (hW : Below w0.heap.size w0 W) (xs : List Int) (hn : xs.length ≤ 1000) (h : W.ownsRow w0.heap.size 22 1 v1 xs.length (xs.map uV)) (hq : W.heap[q]? = some (.cells #[.int .u64 y] 22 (0, 0))) (c : Nat)
    (hs : a.eval s = v1) (hx : a.eval x = .slice (some ⟨q, 0, none⟩) 1 c)
    (hK : ∀ v2 w2, w2.ownsRow w0.heap.size 22 1 v2 (xs.length + 1) ((xs ++ [y]).map uV) → Below w0.heap.size w0 w2 → K (a.put o.dst v2) w2) :
    if Region.wanted o (yielded ops a.tmps) = true then Oper.wp Tryd.prog o a W K Q else E := by
  obtain ⟨i0, q1, q2, q3, q4⟩ := info_parts Tryd_infoU
  refine step_append_at W hgd s x 36 ho w0.heap.size 22 i0 (.int .u64 0) 1 8 Tryd.underlying36 q1 q2 q3 q4 rfl (by decide) v1 xs.length (xs.map uV) hs h ⟨q, 0, none⟩ 1 c [uV y] hx rfl
    (fun j u hj => ?_) (fun u hu => by rw [List.mem_singleton.1 hu]; rfl) (by unfold maxLen; omega) (by omega) hW.size ?_
  · have hj0 : j = 0 := by have := (List.getElem?_eq_some_iff.1 hj).1; simpa using this
    subst hj0
    rw [add_plus, cell_of_row _ _ _ _ _ _ hq]
    exact hj
  · intro v2 w2 h1 h2 _
    exact hK v2 w2 (by rw [List.map_append]; exact h1) (hW.grown h2 hW.size (fun k hk => (h.lt k hk).1))
/-- The third: what stands behind. -/
theorem appC {v2 : Value} (hgd : o.guard = none) (s x : Operand) (ho : o.op = .call { callee := .builtin .append, args := #[s, x], argTypes := #[36, 36] })
    (hW : Below w0.heap.size w0 W) (h : w0.ownsRow B0 22 1 (.slice (some ⟨g2, 0, none⟩) sl.length c2) sl.length (sl.map uV)) (hk : k ≤ sl.length) (hn : sl.length ≤ 1000) (xs : List Int) (hxs : xs.length ≤ 1001) (hv : W.ownsRow w0.heap.size 22 1 v2 xs.length (xs.map uV)) (c : Nat)
    (hs : a.eval s = v2) (hc2 : sl.length ≤ c2) (hx : a.eval x = .slice (if c2 = k then some ⟨g2, 0, none⟩ else some ⟨g2, k, none⟩) (sl.length - k) c)
    (hK : ∀ v3 w3, w3.ownsRow w0.heap.size 22 1 v3 (xs ++ sl.drop k).length ((xs ++ sl.drop k).map uV) → Below w0.heap.size w0 w3 → K (a.put o.dst v3) w3) :
    if Region.wanted o (yielded ops a.tmps) = true then Oper.wp Tryd.prog o a W K Q else E := by
  obtain ⟨i0, q1, q2, q3, q4⟩ := info_parts Tryd_infoU
  obtain ⟨ad, hx', hnw⟩ : ∃ ad : Addr, a.eval x = .slice (some ad) (sl.length - k) c ∧ ∀ j u, ((sl.drop k).map uV)[j]? = some u → W.cell? (ad.add j) = some u := by
    by_cases hc : c2 = k
    · rw [if_pos hc] at hx
      refine ⟨_, hx, fun j u hj => ?_⟩
      have := (List.getElem?_eq_some_iff.1 hj).1
      rw [List.length_map, List.length_drop] at this
      omega
    · rw [if_neg hc] at hx
      exact ⟨_, hx, news_drop (own_low h hW) hk⟩
  refine step_append_at W hgd s x 36 ho w0.heap.size 22 i0 (.int .u64 0) 1 8 Tryd.underlying36 q1 q2 q3 q4 rfl (by decide) v2 xs.length (xs.map uV) hs hv ad (sl.length - k) c ((sl.drop k).map uV) hx' (by rw [List.length_map, List.length_drop]; omega)
    hnw (uV_one _) (by unfold maxLen; omega) (by omega) hW.size ?_
  intro v3 w3 h1 h2 _
  refine hK v3 w3 ?_ (hW.grown h2 hW.size (fun k hk => (hv.lt k hk).1))
  rw [List.length_append, List.length_drop, List.map_append]
  exact h1
end
/-- What stands while the three parts are put together: one word that is read, the past's row. -/
theorem SOn.of {w0 w1 : World} {g k : Nat} {x : Int} (h : w0.cell? ⟨g, k, none⟩ = some (.int .u64 x)) (hb : Below w0.heap.size w0 w1) : w1.cell? ⟨g, k, none⟩ = some (.int .u64 x) ∧ Hid (Below w0.heap.size w0 w1) :=
  ⟨(hb.cell (p := ⟨g, k, none⟩) (World.block_lt_of_cell? w0 _ h)).trans h, Lib.hid hb⟩
theorem SOn.bel {w0 w1 : World} {g k : Nat} {x : Int} (h : w1.cell? ⟨g, k, none⟩ = some (.int .u64 x) ∧ Hid (Below w0.heap.size w0 w1)) : Below w0.heap.size w0 w1 := h.2.out
end Go.Proofs.YtfholfmlkehfnaaDoor
