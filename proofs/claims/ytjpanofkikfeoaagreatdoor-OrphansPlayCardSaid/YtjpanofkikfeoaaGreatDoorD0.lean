/-
  append, in whatever case: onto a slice that the call owns, something or nothing, of a row that is known cell by cell; and of nil: the value as it was; no condition.
  The document's words of layer 2, told in order: the list that comes of them by insertion, and the three appends of one insertion; condition: the row that is inserted into is owned.
  The document's words of layer 2: the call tells the words that are not 0, by insertion, in memory of its own; condition: the memory lies as it says, at most 5000 words.
  The document's words of layer 2 of whatever memory, and how they stand to the program's: both lists are the same where each address has the same word; condition: one entry an address.
-/
import Derived.Test.YtjpanofkikfeoaaGreatDoorR3
import Derived.Test.YtjpanofkikfeoaaGreatDoorT1
import Derived.Outline
import Derived.Test.YtjpanofkikfeoaaGreatDoorO1
namespace Go.Proofs.YtjpanofkikfeoaaGreatDoor
open Go.RowKit

section
variable {P : Program} (w : World)
theorem step_append_at {ops : Array Oper} {o : Oper} {a : Act} {K : Act → World → Prop} {Q : Exit → Act → World → Prop} {E : Prop} (hgd : o.guard = none) (s x : Operand) (t : TypeId)
    (ho : o.op = .call { callee := .builtin .append, args := #[s, x], argTypes := #[t, t] })
    (base : Nat) (e : TypeId) (i : TypeInfo) (z : Value) (size bytes : Nat) (ht : P.underlying t = some (.slice e)) (hi : P.info? e = some i) (hz : i.zero = some z)
    (hsize : i.size = size) (hby : i.bytes = bytes) (hzs : z.cells.size = size) (hsz : 0 < size)
    (v : Value) (n : Nat) (xs : List Value) (hs : a.eval s = v) (hown : w.ownsRow base e size v n xs)
    (ad : Addr) (m c : Nat) (news : List Value) (hx : a.eval x = .slice (some ad) m c) (hl : news.length = m * size) (hnews : ∀ j u, news[j]? = some u → w.cell? (ad.add j) = some u) (h1 : ∀ u ∈ news, u.oneCell' = true)
    (h63 : n + m ≤ maxLen) (hbytes : (n + m) * bytes ≤ 140737488355328) (hbase : base ≤ w.heap.size)
    (h : ∀ v' w', w'.ownsRow base e size v' (n + m) (xs ++ news) → w.grownBy w' v.ownBlock → (v'.ownBlock = v.ownBlock ∨ v'.ownBlock = some w.heap.size) → K (a.put o.dst v') w') :
    if Region.wanted o (yielded ops a.tmps) = true then Oper.wp P o a w K Q else E := by
  have hw : Region.wanted o (yielded ops a.tmps) = true := by simp [Region.wanted, hgd]
  rw [if_pos hw]
  obtain ⟨v', w', hr, h2, h3, _, h5⟩ := run_append_own_at (P := P) w base t o.type e i z size bytes ht hi hz hsize hby hzs hsz v n xs hown ad m c news hl hnews h1 h63 hbytes hbase
  unfold Oper.wp execOp
  simp only [ho, resolve, invoke, builtin, Sem.run_bind, Sem.run_pure, Result.andThen_ok, List.map_toArray, List.map_cons, List.map_nil, hs, hx, hr]
  exact h v' w' h2 h3 h5
theorem run_append_none (base : Nat) (t ty e : TypeId) (i : TypeInfo) (size : Nat) (ht : P.underlying t = some (.slice e)) (hi : P.info? e = some i) (v : Value) (n : Nat) (xs : List Value) (hown : w.ownsRow base e size v n xs) :
    (Builtin.append_ #[t, t] ty #[v, .slice none 0 0]).run P w = .ok v w := by
  rcases hown.2 with ⟨rfl, rfl⟩ | ⟨g, cap, cur, rfl, hbg, hg, hnc, hcm, hcs, htake⟩
  · simp [Builtin.append_, run_underlying ht, sizeOf, typeInfo, hi, Builtin.lenOf, Builtin.firstCells]
  · simp [Builtin.append_, run_underlying ht, sizeOf, typeInfo, hi, Builtin.lenOf, Builtin.firstCells, loadCells, hnc, storeCells]
theorem step_append_none {ops : Array Oper} {o : Oper} {a : Act} {K : Act → World → Prop} {Q : Exit → Act → World → Prop} {E : Prop} (hgd : o.guard = none) (s x : Operand) (t : TypeId)
    (ho : o.op = .call { callee := .builtin .append, args := #[s, x], argTypes := #[t, t] })
    (base : Nat) (e : TypeId) (i : TypeInfo) (size : Nat) (ht : P.underlying t = some (.slice e)) (hi : P.info? e = some i) (v : Value) (n : Nat) (xs : List Value) (hs : a.eval s = v) (hown : w.ownsRow base e size v n xs)
    (hx : a.eval x = .slice none 0 0) (h : K (a.put o.dst v) w) :
    if Region.wanted o (yielded ops a.tmps) = true then Oper.wp P o a w K Q else E := by
  have hw : Region.wanted o (yielded ops a.tmps) = true := by simp [Region.wanted, hgd]
  rw [if_pos hw]
  unfold Oper.wp execOp
  simp only [ho, resolve, invoke, builtin, Sem.run_bind, Sem.run_pure, Result.andThen_ok, List.map_toArray, List.map_cons, List.map_nil, hs, hx, run_append_none (P := P) w base t o.type e i size ht hi v n xs hown]
  exact h
end
end Go.Proofs.YtjpanofkikfeoaaGreatDoor
namespace Go.Proofs.YtjpanofkikfeoaaGreatDoor
open Go.RowKit

def lessW (x y : Wd) : Bool := lessB x.k x.a x.f y.k y.a y.f
def insW : List Wd → Wd → List Wd
  | [], y => [y]
  | x :: r, y => if lessW x y = true then x :: insW r y else y :: x :: r
def stepW (acc : List Wd) (y : Wd) : List Wd := if y.v = 0 then acc else insW acc y
/-- The document's words, in order. -/
def wordsF (l : List Wd) : List Wd := l.foldl stepW []
theorem insW_len (sl : List Wd) (y : Wd) : (insW sl y).length = sl.length + 1 := by
  induction sl with
  | nil => rfl
  | cons x r ih => unfold insW; split <;> simp [ih]
theorem insW_at (y : Wd) : ∀ (sl : List Wd) (k : Nat), k ≤ sl.length → (∀ c, c < k → lessW (sl.getD c wd0) y = true) → (k = sl.length ∨ lessW (sl.getD k wd0) y = false) → insW sl y = sl.take k ++ [y] ++ sl.drop k := by
  intro sl
  induction sl with
  | nil => intro k hk _ _; simp at hk; subst hk; rfl
  | cons x r ih =>
    intro k hk hb ht
    cases k with
    | zero =>
      rcases ht with ht | ht
      · simp at ht
      · simp at ht
        simp [insW, ht]
    | succ k =>
      have h0 := hb 0 (by omega)
      simp at h0
      have h1 := ih k (by simpa using hk) (fun c hc => by simpa using hb (c + 1) (by omega)) (by
        rcases ht with ht | ht
        · exact .inl (by simpa using ht)
        · exact .inr (by simpa using ht))
      unfold insW
      rw [if_pos h0, h1]
      simp
theorem wordsF_succ (l : List Wd) (i : Nat) (hi : i < l.length) : wordsF (l.take (i + 1)) = stepW (wordsF (l.take i)) (l.getD i wd0) := by
  unfold wordsF
  rw [List.take_add_one, List.getElem?_eq_getElem hi, List.foldl_append]
  simp [List.getD_eq_getElem?_getD, List.getElem?_eq_getElem hi]
theorem wordsF_len (l : List Wd) : ∀ acc : List Wd, (l.foldl stepW acc).length ≤ acc.length + l.length := by
  induction l with
  | nil => intro acc; simp
  | cons y r ih =>
    intro acc
    refine Nat.le_trans (ih _) ?_
    have : (stepW acc y).length ≤ acc.length + 1 := by unfold stepW; split <;> simp [insW_len]
    simp only [List.length_cons]
    omega
theorem wordsF_le (l : List Wd) (i : Nat) : (wordsF (l.take i)).length ≤ i := by
  have := wordsF_len (l.take i) []
  unfold wordsF
  simp at this ⊢
  omega

theorem addr_plus (g o j : Nat) : (⟨g, o, none⟩ : Addr).add j = ⟨g, o + j, none⟩ := by unfold Addr.add; split <;> simp_all
theorem flat_app (x y : List Wd) : flat (x ++ y) = flat x ++ flat y := by simp [flat]
theorem flat_split (sl : List Wd) (k : Nat) : flat sl = flat (sl.take k) ++ flat (sl.drop k) := by
  rw [← flat_app, List.take_append_drop]
theorem flat_one (sl : List Wd) : ∀ u ∈ flat sl, u.oneCell' = true := by
  intro u hu
  simp [flat, Wd.cells] at hu
  obtain ⟨x, _, h⟩ := hu
  rcases h with rfl | rfl | rfl | rfl <;> rfl
theorem cells_one (y : Wd) : ∀ u ∈ y.cells, u.oneCell' = true := by
  intro u hu
  simp [Wd.cells] at hu
  rcases hu with rfl | rfl | rfl | rfl <;> rfl
section
variable {W : World} {B0 g2 c2 k : Nat} {sl : List Wd}
theorem news_take (h : W.ownsRow B0 93 4 (.slice (some ⟨g2, 0, none⟩) sl.length c2) sl.length (flat sl)) (hk : k ≤ sl.length) : ∀ j u, (flat (sl.take k))[j]? = some u → W.cell? ((⟨g2, 0, none⟩ : Addr).add j) = some u := by
  intro j u hj
  have hlt := (List.getElem?_eq_some_iff.1 hj).1
  have hl := flat_len (sl.take k)
  rw [List.length_take, Nat.min_eq_left hk] at hl
  rw [addr_plus, Nat.zero_add, h.cellAt j (by omega), flat_split sl k, List.getElem?_append_left hlt, hj]
theorem news_drop (h : W.ownsRow B0 93 4 (.slice (some ⟨g2, 0, none⟩) sl.length c2) sl.length (flat sl)) (hk : k ≤ sl.length) : ∀ j u, (flat (sl.drop k))[j]? = some u → W.cell? ((⟨g2, k * 4, none⟩ : Addr).add j) = some u := by
  intro j u hj
  have hlt := (List.getElem?_eq_some_iff.1 hj).1
  have hl := flat_len (sl.drop k)
  have hl1 := flat_len (sl.take k)
  rw [List.length_take, Nat.min_eq_left hk] at hl1
  rw [List.length_drop] at hl
  rw [addr_plus, h.cellAt (k * 4 + j) (by omega), flat_split sl k, List.getElem?_append_right (by omega), hl1, Nat.add_sub_cancel_left, hj]
theorem row_below {w0 : World} {B : Nat} {v : Value} {n : Nat} {xs : List Value} (h : w0.ownsRow B 93 4 v n xs) (hb : Below w0.heap.size w0 W) : W.ownsRow B 93 4 v n xs := by
  refine ⟨h.1, ?_⟩
  rcases h.2 with hn | ⟨g, cap, cur, hv, hB, hg, r⟩
  · exact .inl hn
  · refine .inr ⟨g, cap, cur, hv, hB, ?_, r⟩
    exact (hb.block g (Array.getElem?_eq_some_iff.1 hg).1).trans hg
theorem row_base {B : Nat} {v : Value} {n : Nat} {xs : List Value} (h : W.ownsRow B 93 4 v n xs) : ∀ q, v.ownBlock = some q → B ≤ q := by
  intro q hq
  rcases h.2 with ⟨hv, _⟩ | ⟨g, cap, cur, hv, hB, hg, r⟩
  · subst hv; simp [Value.ownBlock] at hq
  · subst hv
    simp only [Value.ownBlock, Option.some.injEq] at hq
    omega
theorem row_mono {B B' : Nat} {v : Value} {n : Nat} {xs : List Value} (h : W.ownsRow B 93 4 v n xs) (hb : B' ≤ B) : W.ownsRow B' 93 4 v n xs := by
  refine ⟨h.1, ?_⟩
  rcases h.2 with hn | ⟨g, cap, cur, hv, hB, hg, r⟩
  · exact .inl hn
  · exact .inr ⟨g, cap, cur, hv, Nat.le_trans hb hB, hg, r⟩

variable {ops : Array Oper} {o : Oper} {a : Act} {K : Act → World → Prop} {Q : Exit → Act → World → Prop} {E : Prop} {w0 : World}
/-- The first append: what stands ahead, in memory of its own. -/
theorem appA (hgd : o.guard = none) (s x : Operand) (ho : o.op = .call { callee := .builtin .append, args := #[s, x], argTypes := #[65, 65] })
    (hW : Below w0.heap.size w0 W) (h : w0.ownsRow B0 93 4 (.slice (some ⟨g2, 0, none⟩) sl.length c2) sl.length (flat sl)) (hk : k ≤ sl.length) (hn : sl.length ≤ 5000) (c : Nat)
    (hs : a.eval s = .slice none 0 0) (hx : a.eval x = .slice (some ⟨g2, 0, none⟩) k c)
    (hK : ∀ v1 w1, w1.ownsRow w0.heap.size 93 4 v1 k (flat (sl.take k)) → Below W.heap.size W w1 → Below w0.heap.size w0 w1 → K (a.put o.dst v1) w1) :
    if Region.wanted o (yielded ops a.tmps) = true then Oper.wp Tryz.prog o a W K Q else E := by
  obtain ⟨i0, q1, q2, q3, q4⟩ := info_parts Tryz_info64
  have hl := flat_len (sl.take k)
  rw [List.length_take, Nat.min_eq_left hk] at hl
  refine step_append_at W hgd s x 65 ho w0.heap.size 93 i0 (.agg #[.int .u8 0, .int .i64 0, .int .i64 0, .int .u64 0]) 4 32 Tryz.underlying65 q1 q2 q3 q4 rfl (by decide) (.slice none 0 0) 0 [] hs (World.ownsRow_nil _ _ _ _) ⟨g2, 0, none⟩ k c (flat (sl.take k)) hx hl
    (news_take (row_below h hW) hk) (flat_one _) (by unfold maxLen; omega) (by omega) hW.size ?_
  intro v1 w1 h1 h2 _
  rw [Nat.zero_add, List.nil_append] at h1
  have hb : Below W.heap.size W w1 := (Below.refl _ W).grown h2 (Nat.le_refl _) (fun q hq => by simp [Value.ownBlock] at hq)
  exact hK v1 w1 h1 hb (hW.trans (hb.mono hW.size))
/-- The second: the word itself. -/
theorem appB {v1 : Value} {y : Wd} {q : Nat} (hgd : o.guard = none) (s x : Operand) (ho : o.op = .call { callee := .builtin .append, args := #[s, x], argTypes := #[65, 65] })
    (hW : Below w0.heap.size w0 W) (xs : List Wd) (hn : xs.length ≤ 5000) (h : W.ownsRow w0.heap.size 93 4 v1 xs.length (flat xs)) (hq : W.heap[q]? = some (.cells y.cells.toArray 93 (0, 0))) (c : Nat)
    (hs : a.eval s = v1) (hx : a.eval x = .slice (some ⟨q, 0, none⟩) 1 c)
    (hK : ∀ v2 w2, w2.ownsRow w0.heap.size 93 4 v2 (xs.length + 1) (flat (xs ++ [y])) → Below w0.heap.size w0 w2 → K (a.put o.dst v2) w2) :
    if Region.wanted o (yielded ops a.tmps) = true then Oper.wp Tryz.prog o a W K Q else E := by
  obtain ⟨i0, q1, q2, q3, q4⟩ := info_parts Tryz_info64
  refine step_append_at W hgd s x 65 ho w0.heap.size 93 i0 (.agg #[.int .u8 0, .int .i64 0, .int .i64 0, .int .u64 0]) 4 32 Tryz.underlying65 q1 q2 q3 q4 rfl (by decide) v1 xs.length (flat xs) hs h ⟨q, 0, none⟩ 1 c y.cells hx rfl
    (by simpa using World.news_of_block hq) (cells_one y) (by unfold maxLen; omega) (by omega) hW.size ?_
  intro v2 w2 h1 h2 _
  exact hK v2 w2 (by rw [flat_push]; exact h1) (hW.grown h2 hW.size (fun k hk => row_base h k hk))
/-- The third: what stands behind. -/
theorem appC {v2 : Value} (hgd : o.guard = none) (s x : Operand) (ho : o.op = .call { callee := .builtin .append, args := #[s, x], argTypes := #[65, 65] })
    (hW : Below w0.heap.size w0 W) (h : w0.ownsRow B0 93 4 (.slice (some ⟨g2, 0, none⟩) sl.length c2) sl.length (flat sl)) (hk : k ≤ sl.length) (hn : sl.length ≤ 5000) (xs : List Wd) (hxs : xs.length ≤ 5001) (hv : W.ownsRow w0.heap.size 93 4 v2 xs.length (flat xs)) (c : Nat)
    (hs : a.eval s = v2) (hc2 : sl.length ≤ c2) (hx : a.eval x = .slice (if c2 = k then some ⟨g2, 0, none⟩ else some ⟨g2, k * 4, none⟩) (sl.length - k) c)
    (hK : ∀ v3 w3, w3.ownsRow w0.heap.size 93 4 v3 (xs ++ sl.drop k).length (flat (xs ++ sl.drop k)) → Below w0.heap.size w0 w3 → K (a.put o.dst v3) w3) :
    if Region.wanted o (yielded ops a.tmps) = true then Oper.wp Tryz.prog o a W K Q else E := by
  obtain ⟨i0, q1, q2, q3, q4⟩ := info_parts Tryz_info64
  have hl := flat_len (sl.drop k)
  rw [List.length_drop] at hl
  obtain ⟨ad, hx', hnw⟩ : ∃ ad : Addr, a.eval x = .slice (some ad) (sl.length - k) c ∧ ∀ j u, (flat (sl.drop k))[j]? = some u → W.cell? (ad.add j) = some u := by
    by_cases hc : c2 = k
    · rw [if_pos hc] at hx
      refine ⟨_, hx, fun j u hj => ?_⟩
      have := (List.getElem?_eq_some_iff.1 hj).1
      omega
    · rw [if_neg hc] at hx
      exact ⟨_, hx, news_drop (row_below h hW) hk⟩
  refine step_append_at W hgd s x 65 ho w0.heap.size 93 i0 (.agg #[.int .u8 0, .int .i64 0, .int .i64 0, .int .u64 0]) 4 32 Tryz.underlying65 q1 q2 q3 q4 rfl (by decide) v2 xs.length (flat xs) hs hv ad (sl.length - k) c (flat (sl.drop k)) hx' hl
    hnw (flat_one _) (by unfold maxLen; omega) (by omega) hW.size ?_
  intro v3 w3 h1 h2 _
  refine hK v3 w3 ?_ (hW.grown h2 hW.size (fun k hk => row_base hv k hk))
  rw [List.length_append, List.length_drop, show flat (xs ++ sl.drop k) = flat xs ++ flat (sl.drop k) by simp [flat]]
  exact h1
end
end Go.Proofs.YtjpanofkikfeoaaGreatDoor
namespace Go.Proofs.YtjpanofkikfeoaaGreatDoor
open Go.RowKit

/-- What Words of the document leaves. -/
def RefWords (l : List Wd) (w : World) (e : Ending) (w' : World) : Prop :=
  ∃ v, e = .returned v ∧ w'.ownsRow w.heap.size 93 4 v (wordsF l).length (flat (wordsF l)) ∧ Below w.heap.size w w'
/-- Between two rounds. -/
def Mid (w : World) (l : List Wd) (i : Nat) (v : Value) (wr : World) : Prop :=
  wr.ownsRow w.heap.size 93 4 v (wordsF (l.take i)).length (flat (wordsF (l.take i))) ∧ Below w.heap.size w wr

/-- What the three appends read, while the world goes on. -/
def S9 (b g cap i : Nat) (l : List Wd) (y : Wd) (w0 W : World) : Prop :=
  (W.cell? ⟨b, 0, none⟩ = some (.slice (some ⟨g, 0, none⟩) l.length cap) ∧ W.cell? ⟨g, i * 4, none⟩ = some (.int .u8 y.k) ∧ W.cell? ⟨g, i * 4 + 1, none⟩ = some (.int .i64 y.a) ∧ W.cell? ⟨g, i * 4 + 2, none⟩ = some (.int .i64 y.f) ∧ W.cell? ⟨g, i * 4 + 3, none⟩ = some (.int .u64 y.v)) ∧ Hid (Below w0.heap.size w0 W)
theorem S9.of {b g cap i : Nat} {l : List Wd} {y : Wd} {w0 W : World} (h : S9 b g cap i l y w0 w0) (hb : Below w0.heap.size w0 W) : S9 b g cap i l y w0 W := by
  obtain ⟨⟨h0, h1, h2, h3, h4⟩, _⟩ := h
  have k : ∀ {q j : Nat} {v : Value}, w0.cell? ⟨q, j, none⟩ = some v → W.cell? ⟨q, j, none⟩ = some v := fun {q j v} hc => (hb.cell (p := ⟨q, j, none⟩) (World.block_lt_of_cell? w0 _ hc)).trans hc
  exact ⟨⟨k h0, k h1, k h2, k h3, k h4⟩, Lib.hid hb⟩
theorem S9.bel {b g cap i : Nat} {l : List Wd} {y : Wd} {w0 W : World} (h : S9 b g cap i l y w0 W) : Below w0.heap.size w0 W := h.2.out
theorem R2.s9 {B b g cap i : Nat} {l : List Wd} {y : Wd} {rest : List Value} {W : World} (h : R2 B b l (.slice (some ⟨g, 0, none⟩) l.length cap) rest W) (hi : i < l.length) (hy : l.getD i wd0 = y) : S9 b g cap i l y W W := by
  obtain ⟨c0, c1, c2, c3⟩ := own_cells h.own i hi
  rw [hy] at c0 c1 c2 c3
  exact ⟨⟨h.head, c0, c1, c2, c3⟩, Lib.hid (Below.refl _ _)⟩

set_option maxRecDepth 100000 in
set_option maxHeartbeats 4000000 in
theorem ref_words (B b g cap : Nat) (l : List Wd) (rest : List Value) (w : World) (h : R2 B b l (.slice (some ⟨g, 0, none⟩) l.length cap) rest w) (hn : l.length ≤ 5000) :
    Calls Tryz.prog 34 #[.pointer (some ⟨b, 0, none⟩)] w (RefWords l w) := by
  have HR := Lib.hid h
  clear h
  go_enter Tryz.func34, Tryz.ntmps34
  go_wp2_with fail
  go_loopw [3, 4] (fun v j wr => ∃ i : Nat, i ≤ l.length ∧ j = .int .i64 (i : Int) ∧ Hid (Mid w l i v wr)) (fun _ j _ => l.length - (intOf j).toNat)
  case atStart => exact ⟨0, Nat.zero_le _, rfl, Lib.hid ⟨World.ownsRow_nil _ _ _ _, Below.refl _ _⟩⟩
  case round =>
    obtain ⟨i, hi, rfl, hm⟩ := hrel
    have hcb := (HR.out.below hm.out.2).head
    by_cases hlt : i < l.length
    · have hlt' : (i : Int) < (l.length : Int) := by omega
      have hge : (0 : Int) ≤ (i : Int) := by omega
      obtain ⟨c0, c1, c2, c3⟩ := own_cells (HR.out.below hm.out.2).own i hlt
      have HS := Lib.hid (wordsF_succ l i hlt)
      have HLE := Lib.hid (wordsF_le l i)
      generalize hy : l.getD i wd0 = y at c0 c1 c2 c3 HS
      have HY := Lib.hid hy
      clear hy
      by_cases hz : y.v = 0
      · have hz' : (y.v == 0) = true := by simpa using hz
        have HZ := Lib.hid hz
        clear hz
        go_wp2_with fail
        go_roundw
        case rel =>
          refine ⟨i + 1, by omega, by go_num, Lib.hid ⟨?_, hm.out.2⟩⟩
          rw [HS.out, stepW, if_pos HZ.out]
          exact hm.out.1
        case measure => simp [intOf]; omega
      · have hz' : (y.v == 0) = false := by simpa using hz
        have HI := Lib.hid (show wordsF (l.take (i + 1)) = insW (wordsF (l.take i)) y by rw [HS.out, stepW, if_neg hz])
        have hM1 := hm.out.1
        have HM2 := Lib.hid hm.out.2
        clear hz hm HS
        generalize hsl : wordsF (l.take i) = sl at hM1 HI HLE
        clear hsl
        rcases hM1.2 with ⟨hv, h0⟩ | ⟨g2, cap2, cur2, hv, hB2, hg2, hr2⟩
        · obtain rfl : sl = [] := List.length_eq_zero_iff.1 h0
          subst hv
          clear hM1 h0
          go_wp2_with fail
          refine wp_loop_rounds 1 ?_
          rw [rounds_succ]
          go_wp2_with fail
          go_quiet (fail)
          go_wp2_with fail
          have HS0 := Lib.hid (show S9 b g cap i l y (wr.drewN nq) (wr.drewN nq) from (HR.out.below (below_drewNM' HM2.out nq)).s9 hlt HY.out)
          have HM3 := Lib.hid (show Below w.heap.size w (wr.drewN nq) from below_drewNM' HM2.out nq)
          obtain ⟨i0, q1, q2, q3, q4⟩ := info_parts Tryz_info64
          have HQ := Lib.hid q1
          clear q1 q2 q3 q4 c0 c1 c2 c3 hcb
          generalize wr.drewN nq = w0 at HS0 HM3 ⊢
          go_region_held3 (fun w1 => (w1.cell? ⟨b, 0, none⟩ = some (.slice (some ⟨g, 0, none⟩) l.length cap) ∧ w1.cell? ⟨g, i * 4, none⟩ = some (.int .u8 y.k) ∧ w1.cell? ⟨g, i * 4 + 1, none⟩ = some (.int .i64 y.a) ∧ w1.cell? ⟨g, i * 4 + 2, none⟩ = some (.int .i64 y.f) ∧ w1.cell? ⟨g, i * 4 + 3, none⟩ = some (.int .u64 y.v)) ∧ Hid (Below w0.heap.size w0 w1))
            (first | assumption | exact HS0.out.of (Below.refl _ _).drew | exact HS0.out.of G2.out | exact HS0.out.of (((Below.refl _ _).drew).alloc (Nat.le_refl _) _))
            (first
              | (refine step_append_none _ rfl (.const (.slice none 0 0)) (.tmp 48) 65 rfl 0 93 i0 4 Tryz.underlying65 HQ.out (.slice none 0 0) 0 [] rfl (World.ownsRow_nil _ _ _ _) rfl ?_)
              | (refine appB (w0 := w0) (y := y) rfl (.tmp 49) (.tmp 57) rfl ?_ [] (by decide) (World.ownsRow_nil _ _ _ _) (World.alloc_heap_new _ _) _ rfl rfl ?_; (refine S9.bel (b := b) (g := g) (cap := cap) (i := i) (l := l) (y := y) ?_; assumption); intro v2 w2 h2 hb2; have P2 := Lib.hid h2; have G2 := Lib.hid hb2; clear h2 hb2)
              | (refine step_append_none _ rfl (.tmp 58) (.tmp 61) 65 rfl w0.heap.size 93 i0 4 Tryz.underlying65 HQ.out v2 1 (flat [y]) rfl P2.out rfl ?_))
          all_goals
            go_wp2_with fail
            go_roundw
            case rel =>
              refine ⟨i + 1, by omega, by go_num, Lib.hid ⟨?_, HM3.out.trans (G2.out.mono HM3.out.size)⟩⟩
              rw [HI.out]
              exact row_mono P2.out HM3.out.size
            case measure => simp [intOf]; omega
        · subst hv
          have HM1 := Lib.hid hM1
          have hsn : sl.length ≤ 5000 := by have := HLE.out; omega
          have HCC := Lib.hid (show sl.length ≤ cap2 from hr2.1)
          have hsc : (sl.length : Int) ≤ (cap2 : Int) := by have := hr2.1; omega
          clear hM1 hB2 hg2 hr2
          go_wp2_with fail
          obtain ⟨wo, rfl⟩ : ∃ wo, wo = wr := ⟨wr, rfl⟩
          go_loopw [5] (fun j wr => ∃ k : Nat, k ≤ sl.length ∧ j = .int .i64 (k : Int) ∧ Hid (∀ c, c < k → lessW (sl.getD c wd0) y = true) ∧ Hid (Below wo.heap.size wo wr)) (fun j _ => sl.length - (intOf j).toNat)
          case atStart => exact ⟨0, Nat.zero_le _, rfl, Lib.hid (fun c hc => absurd hc (Nat.not_lt_zero _)), Lib.hid (Below.refl _ _)⟩
          case round =>
            obtain ⟨k, hk, rfl, hno, hbk⟩ := hrel
            have HM4 := Lib.hid (show Below w.heap.size w wr from HM2.out.trans (hbk.out.mono HM2.out.size))
            have HO := Lib.hid (row_below HM1.out hbk.out)
            have HSk := Lib.hid ((HR.out.below HM4.out).s9 hlt HY.out)
            clear c0 c1 c2 c3 hcb
            have hgk : (0 : Int) ≤ (k : Int) := by omega
            by_cases hkl : k < sl.length
            · have hkl' : (k : Int) < (sl.length : Int) := by omega
              obtain ⟨d0, d1, d2, d3⟩ := own_cells HO.out k hkl
              obtain ⟨⟨c9, c0, c1, c2, c3⟩, _⟩ := HSk.out
              have HD := Lib.hid (show wr.drew.heap.size = wr.heap.size from rfl)
              by_cases hll : lessW (sl.getD k wd0) y = true
              · have HLL := Lib.hid hll
                clear hll
                generalize hx : sl.getD k wd0 = x at d0 d1 d2 d3 HLL
                have HX := Lib.hid hx
                clear hx d3 c3
                go_wp2_with fail
                refine wp_region_still_tail 18 (by kernel_rfl) (by kernel_rfl) ?_
                change wpStill _ _ wr.drew (fun a' => wpList _ _ _ _ a' wr.drew) _ _
                change wr.drew.cell? _ = _ at d0 d1 d2 c0 c1 c2 c9
                have HM5 := Lib.hid (show Below wo.heap.size wo wr.drew from hbk.out.drew)
                clear HM4 HO HSk hbk HD
                generalize wr.drew = wd at HM5 d0 d1 d2 c0 c1 c2 c9 ⊢
                simp only [List.take_succ_cons, List.take_zero, List.drop_succ_cons, List.drop_zero]
                iterate 18 still_step
                refine wpStill_nil ?_
                go_wp2_with fail
                ((with_reducible refine (less_any x.k x.a x.f y.k y.a y.f wd).mono ?_); rintro e w' ⟨rfl, hb⟩)
                have HM6 := Lib.hid (HM5.out.trans (hb.mono HM5.out.size))
                rw [show lessB x.k x.a x.f y.k y.a y.f = true from HLL.out]
                clear hb HM5
                go_wp2_with fail
                go_roundw
                case rel =>
                  refine ⟨k + 1, by omega, by go_num, Lib.hid (fun c hc => ?_), HM6⟩
                  by_cases he : c = k
                  · subst he; rw [HX.out]; exact HLL.out
                  · exact hno.out c (by omega)
                case measure => simp [intOf]; omega
              · have HLL := Lib.hid (show lessW (sl.getD k wd0) y = false by simpa using hll)
                have HII := Lib.hid (show wordsF (l.take (i + 1)) = sl.take k ++ [y] ++ sl.drop k from HI.out.trans (insW_at y sl k hk hno.out (.inr HLL.out)))
                clear hll
                generalize hx : sl.getD k wd0 = x at d0 d1 d2 d3 HLL
                clear hx d3 c3
                go_wp2_with fail
                refine wp_region_still_tail 18 (by kernel_rfl) (by kernel_rfl) ?_
                change wpStill _ _ wr.drew (fun a' => wpList _ _ _ _ a' wr.drew) _ _
                change wr.drew.cell? _ = _ at d0 d1 d2 c0 c1 c2 c9
                have HM5 := Lib.hid (show Below wo.heap.size wo wr.drew from hbk.out.drew)
                clear HM4 HO HSk hbk HD
                generalize wr.drew = wd at HM5 d0 d1 d2 c0 c1 c2 c9 ⊢
                simp only [List.take_succ_cons, List.take_zero, List.drop_succ_cons, List.drop_zero]
                iterate 18 still_step
                refine wpStill_nil ?_
                go_wp2_with fail
                ((with_reducible refine (less_any x.k x.a x.f y.k y.a y.f wd).mono ?_); rintro e w0 ⟨rfl, hb⟩)
                have HW0 : Below wo.heap.size wo w0 := HM5.out.trans (hb.mono HM5.out.size)
                have HM6 : Below w.heap.size w w0 := HM2.out.trans (HW0.mono HM2.out.size)
                rw [show lessB x.k x.a x.f y.k y.a y.f = false from HLL.out]
                clear hb HM5 d0 d1 d2 c0 c1 c2 c9
                go_wp2_with fail
                have HS0 := Lib.hid (show S9 b g cap i l y w0 w0 from (HR.out.below HM6).s9 hlt HY.out)
                have HO0 := Lib.hid (row_below HM1.out HW0)
                have HM3 := Lib.hid (show Below w.heap.size w w0 from HM6)
                have HT := Lib.hid (show (sl.take k).length ≤ 5000 by rw [List.length_take]; omega)
                have HT2 := Lib.hid (show (sl.take k ++ [y]).length ≤ 5001 by simp only [List.length_append, List.length_take, List.length_singleton]; omega)
                have hki : (k : Int) ≤ (sl.length : Int) := by omega
                have hkc : (k : Int) ≤ (cap2 : Int) := by omega
                clear HM6 HW0
                go_region_held3 (fun w1 => (w1.cell? ⟨b, 0, none⟩ = some (.slice (some ⟨g, 0, none⟩) l.length cap) ∧ w1.cell? ⟨g, i * 4, none⟩ = some (.int .u8 y.k) ∧ w1.cell? ⟨g, i * 4 + 1, none⟩ = some (.int .i64 y.a) ∧ w1.cell? ⟨g, i * 4 + 2, none⟩ = some (.int .i64 y.f) ∧ w1.cell? ⟨g, i * 4 + 3, none⟩ = some (.int .u64 y.v)) ∧ Hid (Below w0.heap.size w0 w1))
                  (first | assumption | exact HS0.out.of (Below.refl _ _).drew | exact HS0.out.of G3.out | exact HS0.out.of G2.out | exact HS0.out.of G1.out | exact HS0.out.of (G1.out.alloc G1.out.size _) | exact HS0.out.of (((Below.refl _ _).drew).alloc (Nat.le_refl _) _))
                  (first
                    | (refine appA (w0 := w0) (sl := sl) (k := k) rfl (.const (.slice none 0 0)) (.tmp 48) rfl ?_ HO0.out hk hsn _ rfl rfl ?_; (refine S9.bel (b := b) (g := g) (cap := cap) (i := i) (l := l) (y := y) ?_; assumption); intro v1 w1 h1 hb1 hB1; have P1 := Lib.hid (show w1.ownsRow w0.heap.size 93 4 v1 (sl.take k).length (flat (sl.take k)) by rw [List.length_take, Nat.min_eq_left hk]; exact h1); have G1b := Lib.hid hb1; have G1 := Lib.hid hB1; clear h1 hb1 hB1)
                    | (refine appB (w0 := w0) (y := y) rfl (.tmp 49) (.tmp 57) rfl ?_ (sl.take k) HT.out P1.out ?_ _ rfl rfl ?_; (refine S9.bel (b := b) (g := g) (cap := cap) (i := i) (l := l) (y := y) ?_; assumption); exact (G1b.out.block _ (by simp)).trans (World.alloc_heap_new _ _); intro v2 w2 h2 hb2; have P2 := Lib.hid (show w2.ownsRow w0.heap.size 93 4 v2 (sl.take k ++ [y]).length (flat (sl.take k ++ [y])) by rw [List.length_append]; exact h2); have G2 := Lib.hid hb2; clear h2 hb2)
                    | (refine appB (w0 := w0) (y := y) rfl (.tmp 49) (.tmp 57) rfl ?_ (sl.take k) HT.out (P1.out.alloc _) (World.alloc_heap_new _ _) _ rfl rfl ?_; (refine S9.bel (b := b) (g := g) (cap := cap) (i := i) (l := l) (y := y) ?_; assumption); intro v2 w2 h2 hb2; have P2 := Lib.hid (show w2.ownsRow w0.heap.size 93 4 v2 (sl.take k ++ [y]).length (flat (sl.take k ++ [y])) by rw [List.length_append]; exact h2); have G2 := Lib.hid hb2; clear h2 hb2)
                    | (refine appC (w0 := w0) (sl := sl) (k := k) rfl (.tmp 58) (.tmp 61) rfl ?_ HO0.out hk hsn (sl.take k ++ [y]) HT2.out P2.out _ rfl HCC.out rfl ?_; (refine S9.bel (b := b) (g := g) (cap := cap) (i := i) (l := l) (y := y) ?_; assumption); intro v3 w3 h3 hb3; have P3 := Lib.hid h3; have G3 := Lib.hid hb3; clear h3 hb3))
                all_goals
                  go_wp2_with fail
                  go_roundw
                  case rel =>
                    refine ⟨i + 1, by omega, by go_num, Lib.hid ⟨?_, HM3.out.trans (G3.out.mono HM3.out.size)⟩⟩
                    rw [HII.out]
                    exact row_mono P3.out HM3.out.size
                  case measure => simp [intOf]; omega
            · have hek : k = sl.length := by omega
              have hnk : (sl.length : Int) ≤ (k : Int) := by omega
              have HII := Lib.hid (show wordsF (l.take (i + 1)) = sl.take k ++ [y] ++ sl.drop k from HI.out.trans (insW_at y sl k hk hno.out (.inl hek)))
              have hnk' : ¬ ((k : Int) < (sl.length : Int)) := by omega
              clear hek
              go_wp2_with fail
              go_quiet (fail)
              go_wp2_with fail
              have HW0 : Below wo.heap.size wo (wr.drewN nq) := below_drewNM' hbk.out nq
              have HM6 : Below w.heap.size w (wr.drewN nq) := below_drewNM' HM4.out nq
              have HS0 := Lib.hid (show S9 b g cap i l y (wr.drewN nq) (wr.drewN nq) from (HR.out.below HM6).s9 hlt HY.out)
              have HO0 := Lib.hid (row_below HM1.out HW0)
              have HM3 := Lib.hid (show Below w.heap.size w (wr.drewN nq) from HM6)
              have HT := Lib.hid (show (sl.take k).length ≤ 5000 by rw [List.length_take]; omega)
              have HT2 := Lib.hid (show (sl.take k ++ [y]).length ≤ 5001 by simp only [List.length_append, List.length_take, List.length_singleton]; omega)
              have hki : (k : Int) ≤ (sl.length : Int) := by omega
              have hkc : (k : Int) ≤ (cap2 : Int) := by omega
              clear HM6 HW0
              clear HM4 HO HSk hbk
              generalize wr.drewN nq = w0 at HS0 HO0 HM3 ⊢
              go_region_held3 (fun w1 => (w1.cell? ⟨b, 0, none⟩ = some (.slice (some ⟨g, 0, none⟩) l.length cap) ∧ w1.cell? ⟨g, i * 4, none⟩ = some (.int .u8 y.k) ∧ w1.cell? ⟨g, i * 4 + 1, none⟩ = some (.int .i64 y.a) ∧ w1.cell? ⟨g, i * 4 + 2, none⟩ = some (.int .i64 y.f) ∧ w1.cell? ⟨g, i * 4 + 3, none⟩ = some (.int .u64 y.v)) ∧ Hid (Below w0.heap.size w0 w1))
                (first | assumption | exact HS0.out.of (Below.refl _ _).drew | exact HS0.out.of G3.out | exact HS0.out.of G2.out | exact HS0.out.of G1.out | exact HS0.out.of (G1.out.alloc G1.out.size _) | exact HS0.out.of (((Below.refl _ _).drew).alloc (Nat.le_refl _) _))
                (first
                  | (refine appA (w0 := w0) (sl := sl) (k := k) rfl (.const (.slice none 0 0)) (.tmp 48) rfl ?_ HO0.out hk hsn _ rfl rfl ?_; (refine S9.bel (b := b) (g := g) (cap := cap) (i := i) (l := l) (y := y) ?_; assumption); intro v1 w1 h1 hb1 hB1; have P1 := Lib.hid (show w1.ownsRow w0.heap.size 93 4 v1 (sl.take k).length (flat (sl.take k)) by rw [List.length_take, Nat.min_eq_left hk]; exact h1); have G1b := Lib.hid hb1; have G1 := Lib.hid hB1; clear h1 hb1 hB1)
                  | (refine appB (w0 := w0) (y := y) rfl (.tmp 49) (.tmp 57) rfl ?_ (sl.take k) HT.out P1.out ?_ _ rfl rfl ?_; (refine S9.bel (b := b) (g := g) (cap := cap) (i := i) (l := l) (y := y) ?_; assumption); exact (G1b.out.block _ (by simp)).trans (World.alloc_heap_new _ _); intro v2 w2 h2 hb2; have P2 := Lib.hid (show w2.ownsRow w0.heap.size 93 4 v2 (sl.take k ++ [y]).length (flat (sl.take k ++ [y])) by rw [List.length_append]; exact h2); have G2 := Lib.hid hb2; clear h2 hb2)
                  | (refine appB (w0 := w0) (y := y) rfl (.tmp 49) (.tmp 57) rfl ?_ (sl.take k) HT.out (P1.out.alloc _) (World.alloc_heap_new _ _) _ rfl rfl ?_; (refine S9.bel (b := b) (g := g) (cap := cap) (i := i) (l := l) (y := y) ?_; assumption); intro v2 w2 h2 hb2; have P2 := Lib.hid (show w2.ownsRow w0.heap.size 93 4 v2 (sl.take k ++ [y]).length (flat (sl.take k ++ [y])) by rw [List.length_append]; exact h2); have G2 := Lib.hid hb2; clear h2 hb2)
                  | (refine appC (w0 := w0) (sl := sl) (k := k) rfl (.tmp 58) (.tmp 61) rfl ?_ HO0.out hk hsn (sl.take k ++ [y]) HT2.out P2.out _ rfl HCC.out rfl ?_; (refine S9.bel (b := b) (g := g) (cap := cap) (i := i) (l := l) (y := y) ?_; assumption); intro v3 w3 h3 hb3; have P3 := Lib.hid h3; have G3 := Lib.hid hb3; clear h3 hb3))
              all_goals
                go_wp2_with fail
                go_roundw
                case rel =>
                  refine ⟨i + 1, by omega, by go_num, Lib.hid ⟨?_, HM3.out.trans (G3.out.mono HM3.out.size)⟩⟩
                  rw [HII.out]
                  exact row_mono P3.out HM3.out.size
                case measure => simp [intOf]; omega
    · have he : i = l.length := by omega
      have hge : (l.length : Int) ≤ (i : Int) := by omega
      have HE := Lib.hid he
      clear he
      go_wp2_with fail
      go_ret
      refine ⟨_, rfl, ?_, hm.out.2⟩
      have := hm.out.1
      rw [HE.out, List.take_length] at this
      exact this
end Go.Proofs.YtjpanofkikfeoaaGreatDoor
namespace Go.Proofs.YtjpanofkikfeoaaGreatDoor
open Go.RowKit Go.Maps

set_option maxHeartbeats 1000000 in
theorem ref_words_nil (b : Nat) (w : World) (hb : w.cell? ⟨b, 0, none⟩ = some (.slice none 0 0)) : Calls Tryz.prog 34 #[.pointer (some ⟨b, 0, none⟩)] w (RefWords [] w) := by
  go_enter Tryz.func34, Tryz.ntmps34
  go_wp2_with fail
  refine wp_loop_rounds 1 ?_
  rw [rounds_succ]
  go_wp2_with fail
  go_ret
  exact ⟨_, rfl, World.ownsRow_nil _ _ _ _, Below.refl _ _⟩
theorem ref_words_any (B b : Nat) (l : List Wd) (v : Value) (rest : List Value) (w : World) (h : R2 B b l v rest w) (hn : l.length ≤ 5000) : Calls Tryz.prog 34 #[.pointer (some ⟨b, 0, none⟩)] w (RefWords l w) := by
  rcases h.own.2 with ⟨hv, h0⟩ | ⟨g, cap, cur, hv, hB, hg, r⟩
  · have e : l = [] := List.length_eq_zero_iff.1 h0
    subst e hv
    exact ref_words_nil b w h.head
  · subst hv
    exact ref_words B b g cap l rest w h hn

/-! ### Sorted lists -/
theorem sorted_ext {α : Type} {r : α → α → Prop} (irr : ∀ x, ¬ r x x) (asy : ∀ x y, r x y → ¬ r y x) : ∀ s t : List α, s.Pairwise r → t.Pairwise r → (∀ x, x ∈ s ↔ x ∈ t) → s = t := by
  intro s
  induction s with
  | nil =>
    intro t _ _ h
    cases t with
    | nil => rfl
    | cons b t => exact absurd ((h b).2 (by simp)) (by simp)
  | cons a s ih =>
    intro t hs ht h
    cases t with
    | nil => exact absurd ((h a).1 (by simp)) (by simp)
    | cons b t =>
      obtain ⟨h1, h2⟩ := List.pairwise_cons.1 hs
      obtain ⟨k1, k2⟩ := List.pairwise_cons.1 ht
      have e : a = b := by
        rcases List.mem_cons.1 ((h a).1 (by simp)) with e | e
        · exact e
        · rcases List.mem_cons.1 ((h b).2 (by simp)) with e' | e'
          · exact e'.symm
          · exact absurd (h1 b e') (asy b a (k1 a e))
      subst e
      rw [ih t h2 k2 fun x => ⟨fun hx => ?_, fun hx => ?_⟩]
      · rcases List.mem_cons.1 ((h x).1 (List.mem_cons_of_mem _ hx)) with e | e
        · subst e; exact absurd (h1 x hx) (irr x)
        · exact e
      · rcases List.mem_cons.1 ((h x).2 (List.mem_cons_of_mem _ hx)) with e | e
        · subst e; exact absurd (k1 x hx) (irr x)
        · exact e
theorem lessB_irr (k a f : Int) : lessB k a f k a f = false := by simp [lessB]
theorem lessB_iff (k a f k' a' f' : Int) : lessB k a f k' a' f' = true ↔ (k < k' ∨ (k = k' ∧ (a < a' ∨ (a = a' ∧ f < f')))) := by
  unfold lessB
  split
  · simp; omega
  · split
    · simp; omega
    · simp; omega
theorem lessW_irr (x : Wd) : ¬ lessW x x = true := by simp [lessW, lessB_irr]
theorem lessW_asy (x y : Wd) (h : lessW x y = true) : ¬ lessW y x = true := by
  unfold lessW at *
  rw [lessB_iff] at *
  omega
theorem lessW_trans {x y z : Wd} (h : lessW x y = true) (h' : lessW y z = true) : lessW x z = true := by
  unfold lessW at *
  rw [lessB_iff] at *
  omega
theorem mem_insW (sl : List Wd) (y z : Wd) : z ∈ insW sl y ↔ z = y ∨ z ∈ sl := by
  induction sl with
  | nil => simp [insW]
  | cons x r ih =>
    unfold insW
    split
    · simp only [List.mem_cons, ih]
      constructor
      · rintro (h | h | h)
        · exact .inr (.inl h)
        · exact .inl h
        · exact .inr (.inr h)
      · rintro (h | h | h)
        · exact .inr (.inl h)
        · exact .inl h
        · exact .inr (.inr h)
    · simp
theorem insW_sorted (y : Wd) (sl : List Wd) (h : sl.Pairwise fun x z => lessW x z = true) (ht : ∀ x ∈ sl, lessW x y = true ∨ lessW y x = true) : (insW sl y).Pairwise fun x z => lessW x z = true := by
  induction sl with
  | nil => simp [insW]
  | cons x r ih =>
    obtain ⟨h1, h2⟩ := List.pairwise_cons.1 h
    unfold insW
    split
    · rename_i hx
      refine List.pairwise_cons.2 ⟨fun z hz => ?_, ih h2 fun z hz => ht z (List.mem_cons_of_mem _ hz)⟩
      rcases (mem_insW r y z).1 hz with e | e
      · subst e; exact hx
      · exact h1 z e
    · rename_i hx
      have hy : lessW y x = true := (ht x (by simp)).resolve_left hx
      refine List.pairwise_cons.2 ⟨fun z hz => ?_, h⟩
      rcases List.mem_cons.1 hz with e | e
      · subst e; exact hy
      · exact lessW_trans hy (h1 z e)
/-- One entry an address. -/
def Apart (l : List Wd) : Prop := l.Pairwise fun x y => ¬ (x.k = y.k ∧ x.a = y.a ∧ x.f = y.f)
theorem lessW_total {x y : Wd} (h : ¬ (x.k = y.k ∧ x.a = y.a ∧ x.f = y.f)) : lessW x y = true ∨ lessW y x = true := by
  unfold lessW
  rw [lessB_iff, lessB_iff]
  omega
theorem wordsF_spec (l : List Wd) : ∀ acc : List Wd, Apart l → acc.Pairwise (fun x z => lessW x z = true) → (∀ x ∈ acc, ∀ y ∈ l, ¬ (x.k = y.k ∧ x.a = y.a ∧ x.f = y.f)) →
    (l.foldl stepW acc).Pairwise (fun x z => lessW x z = true) ∧ ∀ z, z ∈ l.foldl stepW acc ↔ z ∈ acc ∨ (z ∈ l ∧ z.v ≠ 0) := by
  induction l with
  | nil => intro acc _ h _; exact ⟨h, by simp⟩
  | cons y r ih =>
    intro acc hl ha hd
    obtain ⟨l1, l2⟩ := List.pairwise_cons.1 hl
    have e : (y :: r).foldl stepW acc = r.foldl stepW (stepW acc y) := rfl
    rw [e]
    by_cases hv : y.v = 0
    · rw [show stepW acc y = acc from if_pos hv]
      obtain ⟨i1, i2⟩ := ih acc l2 ha fun x hx z hz => hd x hx z (List.mem_cons_of_mem _ hz)
      refine ⟨i1, fun z => ?_⟩
      rw [i2 z]
      constructor
      · rintro (h | ⟨h, h'⟩)
        · exact .inl h
        · exact .inr ⟨List.mem_cons_of_mem _ h, h'⟩
      · rintro (h | ⟨h, h'⟩)
        · exact .inl h
        · rcases List.mem_cons.1 h with e | e
          · subst e; exact absurd hv h'
          · exact .inr ⟨e, h'⟩
    · rw [show stepW acc y = insW acc y from if_neg hv]
      obtain ⟨i1, i2⟩ := ih (insW acc y) l2 (insW_sorted y acc ha fun x hx => lessW_total (hd x hx y (by simp))) fun x hx z hz => by
        rcases (mem_insW acc y x).1 hx with e | e
        · subst e; exact l1 z hz
        · exact hd x e z (List.mem_cons_of_mem _ hz)
      refine ⟨i1, fun z => ?_⟩
      rw [i2 z, mem_insW]
      constructor
      · rintro ((h | h) | ⟨h, h'⟩)
        · subst h; exact .inr ⟨by simp, hv⟩
        · exact .inl h
        · exact .inr ⟨List.mem_cons_of_mem _ h, h'⟩
      · rintro (h | ⟨h, h'⟩)
        · exact .inl (.inr h)
        · rcases List.mem_cons.1 h with e | e
          · exact .inl (.inl e)
          · exact .inr ⟨e, h'⟩
end Go.Proofs.YtjpanofkikfeoaaGreatDoor
