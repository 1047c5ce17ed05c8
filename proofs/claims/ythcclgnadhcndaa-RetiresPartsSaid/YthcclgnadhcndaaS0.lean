/-
  Blocks that are known whole, entries, rows of entries that are read or owned, appends of them; no condition.
-/
import Derived.Test.YthcclgnadhcndaaProg
import Derived.WalkKit
import Derived.WalkSpells
import Derived.WalkLawsBesides
import Derived.Deep.QuietTactic
import Derived.BigQuiet
import Derived.Lib.Hide
import Derived.Deep.AppendLies
import Derived.Deep.RegionLaw
import Derived.Deep.RegionHeldLaw
import Derived.Deep.RegionHeld3
import Derived.Lib.SmallJoins
import Derived.Laws.OwnMore
import Derived.Laws.AppendOwnNone
import Derived.Maps.AppendAt
import Derived.OwnWalk
import Derived.Deep.DeepCutAuto
import Derived.Deep.RegionWith
namespace Go.Proofs.Ythcclgnadhcndaa
open Go.RowKit

def U64 (x : Int) : Prop := 0 ≤ x ∧ x < 18446744073709551616
def U32 (x : Int) : Prop := 0 ≤ x ∧ x < 4294967296
theorem u64_0' : U64 0 := ⟨by decide, by decide⟩
theorem below_drewN' {B : Nat} {a w : World} (h : Below B a w) (n : Nat) : Below B a (w.drewN n) := ⟨h.os, h.tape, h.output, h.size, h.block⟩
theorem setCell_blk {w : World} {p : Nat} {c : Array Value} {t : TypeId} {fr : Nat × Nat} (h : w.heap[p]? = some (.cells c t fr)) (i : Nat) (v : Value) : (w.setCell ⟨p, i, none⟩ v).heap[p]? = some (.cells (c.setIfInBounds i v) t fr) := by
  obtain ⟨hlt, hk⟩ := Array.getElem?_eq_some_iff.1 h
  show (w.heap.modify p _)[p]? = _
  rw [Array.getElem?_eq_getElem (by rw [Array.size_modify]; exact hlt), Array.getElem_modify_self, hk]
  rfl
theorem alloc_blk (w : World) (o : Obj) : (w.alloc o).heap[w.heap.size]? = some o := by
  show (w.heap.push o)[w.heap.size]? = _
  simp
/-- A block of which all cells are known. -/
def Bq (e : Nat) (t : TypeId) (cs : List Value) (w : World) : Prop := w.heap[e]? = some (.cells cs.toArray t (0, 0))
section
variable {e q : Nat} {t : TypeId} {cs : List Value} {w w' X Y Z : World}
theorem Bq.cell (k : Bq e t cs w) (i : Nat) : w.cell? ⟨e, i, none⟩ = cs[i]? := by
  unfold Bq at k
  simp [World.cell?, k]
theorem Bq.free (k : Bq e t cs w) (i : Nat) : w.frozen? ⟨e, i, none⟩ = false := by
  unfold Bq at k
  simp [World.frozen?, k]
theorem Bq.lt (k : Bq e t cs w) : e < w.heap.size := (Array.getElem?_eq_some_iff.1 k).1
theorem Bq.same (k : Bq e t cs w) (hb : w'.heap[e]? = w.heap[e]?) : Bq e t cs w' := hb.trans k
theorem Bq.below (k : Bq e t cs w) (hb : Below w.heap.size w w') : Bq e t cs w' := k.same (hb.block e k.lt)
theorem Bq.set (k : Bq e t cs w) (i : Nat) (v : Value) {cs' : List Value} (h : cs' = cs.set i v) : Bq e t cs' (w.setCell ⟨e, i, none⟩ v) := by
  subst h
  have := setCell_blk k i v
  unfold Bq
  simpa using this
theorem Bq.new (w : World) (cs : List Value) (t : TypeId) : Bq w.heap.size t cs (w.alloc (.cells cs.toArray t)) := alloc_blk _ _
theorem Bq.ne {u : TypeId} {ds : List Value} (k : Bq e t cs w) (j : Bq q u ds w) (h : t ≠ u) : e ≠ q := by
  rintro rfl
  have := k.symm.trans j
  simp only [Option.some.injEq, Obj.cells.injEq] at this
  exact h this.2.1
theorem Bq.setO (k : Bq e t cs w) (h : e ≠ q) (i : Nat) (v : Value) : Bq e t cs (w.setCell ⟨q, i, none⟩ v) := k.same (Below.heap_setCell w ⟨q, i, none⟩ v e h)
end
/-- An entry: its slot, generation, mark, birth, epoch, era. -/
structure EP where
  s : Int
  g : Int
  k : Bool
  b : Int
  c : Int
  d : Int
deriving DecidableEq
def EP.zero : EP := ⟨0, 0, false, 0, 0, 0⟩
def EP.cells (e : EP) : List Value := [.int .i64 e.s, .int .u32 e.g, .bool e.k, .int .u64 e.b, .int .u64 e.c, .int .u64 e.d]
/-- Its numbers are of their kinds. -/
def EP.ok (e : EP) : Prop := (Lit.int .i64 e.s).wf = true ∧ U32 e.g ∧ U64 e.b ∧ U64 e.c ∧ U64 e.d
theorem EP.zero_ok : EP.zero.ok := ⟨by decide, ⟨by decide, by decide⟩, ⟨by decide, by decide⟩, ⟨by decide, by decide⟩, ⟨by decide, by decide⟩⟩
section
variable {P : Program} (w : World)
theorem step_append_at {ops : Array Oper} {o : Oper} {a : Act} {K : Act → World → Prop} {Q : Exit → Act → World → Prop} {E : Prop} (hgd : o.guard = none) (s x : Operand) (t : TypeId)
    (ho : o.op = .call { callee := .builtin .append, args := #[s, x], argTypes := #[t, t] })
    (base : Nat) (e : TypeId) (i : TypeInfo) (z : Value) (size bytes : Nat) (ht : P.underlying t = some (.slice e)) (hi : P.info? e = some i) (hz : i.zero = some z)
    (hsize : i.size = size) (hby : i.bytes = bytes) (hzs : z.cells.size = size) (hsz : 0 < size)
    (v : Value) (n : Nat) (xs : List Value) (hs : a.eval s = v) (hown : w.ownsRow base e size v n xs)
    (ad : Addr) (m c : Nat) (news : List Value) (hx : a.eval x = .slice (some ad) m c) (hl : news.length = m * size) (hnews : ∀ j u, news[j]? = some u → w.cell? (ad.add j) = some u) (h1 : ∀ u ∈ news, u.oneCell' = true)
    (h63 : n + m ≤ maxLen) (hbytes : (n + m) * bytes ≤ 140737488355328) (hbase : base ≤ w.heap.size)
    (h : ∀ v' w', w'.ownsRow base e size v' (n + m) (xs ++ news) → w.grownBy w' v.ownBlock → (v'.ownBlock = v.ownBlock ∨ v'.ownBlock = some w.heap.size) → K (a.put o.dst v') w') :
    if Region.wanted o (yielded ops a.tmps) = true then Oper.wp P o a w K Q else E := by
  have hw : Region.wanted o (yielded ops a.tmps) = true := by simp [Region.wanted, hgd]
  rw [if_pos hw]
  obtain ⟨v', w', hr, h2, h3, _, h5⟩ := run_append_own_at (P := P) w base t o.type e i z size bytes ht hi hz hsize hby hzs hsz v n xs hown ad m c news hl hnews h1 h63 hbytes hbase
  unfold Oper.wp execOp
  simp only [ho, resolve, invoke, builtin, Sem.run_bind, Sem.run_pure, Result.andThen_ok, List.map_toArray, List.map_cons, List.map_nil, hs, hx, hr]
  exact h v' w' h2 h3 h5
theorem run_append_none (base : Nat) (t ty e : TypeId) (i : TypeInfo) (size : Nat) (ht : P.underlying t = some (.slice e)) (hi : P.info? e = some i) (v : Value) (n : Nat) (xs : List Value) (hown : w.ownsRow base e size v n xs) :
    (Builtin.append_ #[t, t] ty #[v, .slice none 0 0]).run P w = .ok v w := by
  rcases hown.2 with ⟨rfl, rfl⟩ | ⟨g, cap, cur, rfl, hbg, hg, hnc, hcm, hcs, htake⟩
  · simp [Builtin.append_, run_underlying ht, sizeOf, typeInfo, hi, Builtin.lenOf, Builtin.firstCells]
  · simp [Builtin.append_, run_underlying ht, sizeOf, typeInfo, hi, Builtin.lenOf, Builtin.firstCells, loadCells, hnc, storeCells]
theorem step_append_none {ops : Array Oper} {o : Oper} {a : Act} {K : Act → World → Prop} {Q : Exit → Act → World → Prop} {E : Prop} (hgd : o.guard = none) (s x : Operand) (t : TypeId)
    (ho : o.op = .call { callee := .builtin .append, args := #[s, x], argTypes := #[t, t] })
    (base : Nat) (e : TypeId) (i : TypeInfo) (size : Nat) (ht : P.underlying t = some (.slice e)) (hi : P.info? e = some i) (v : Value) (n : Nat) (xs : List Value) (hs : a.eval s = v) (hown : w.ownsRow base e size v n xs)
    (hx : a.eval x = .slice none 0 0) (h : K (a.put o.dst v) w) :
    if Region.wanted o (yielded ops a.tmps) = true then Oper.wp P o a w K Q else E := by
  have hw : Region.wanted o (yielded ops a.tmps) = true := by simp [Region.wanted, hgd]
  rw [if_pos hw]
  unfold Oper.wp execOp
  simp only [ho, resolve, invoke, builtin, Sem.run_bind, Sem.run_pure, Result.andThen_ok, List.map_toArray, List.map_cons, List.map_nil, hs, hx, run_append_none (P := P) w base t o.type e i size ht hi v n xs hown]
  exact h
end
def flatE (xs : List EP) : List Value := xs.flatMap EP.cells
theorem EP.cells_len (e : EP) : e.cells.length = 6 := rfl
theorem flatE_len : ∀ xs : List EP, (flatE xs).length = xs.length * 6
  | [] => rfl
  | x :: r => by
    have := flatE_len r
    unfold flatE at this ⊢
    rw [List.flatMap_cons, List.length_append, this, EP.cells_len, List.length_cons]
    omega
theorem flatE_app (xs ys : List EP) : flatE (xs ++ ys) = flatE xs ++ flatE ys := List.flatMap_append
theorem flatE_at : ∀ (xs : List EP) (j i : Nat), j < xs.length → i < 6 → (flatE xs)[j * 6 + i]? = (xs.getD j EP.zero).cells[i]?
  | [], _, _, h, _ => absurd h (by simp)
  | x :: r, 0, i, _, hi => by
    unfold flatE
    rw [List.flatMap_cons, List.getElem?_append_left (by rw [EP.cells_len]; omega)]
    simp
  | x :: r, j + 1, i, h, hi => by
    have := flatE_at r j i (by simpa using h) hi
    unfold flatE at this ⊢
    rw [List.flatMap_cons, List.getElem?_append_right (by rw [EP.cells_len]; omega), EP.cells_len, show (j + 1) * 6 + i - 6 = j * 6 + i by omega, this]
    simp
theorem flatE_one {xs : List EP} : ∀ u ∈ flatE xs, u.oneCell' = true := fun u hu => by
  unfold flatE at hu
  obtain ⟨e, _, hu⟩ := List.mem_flatMap.1 hu
  simp only [EP.cells, List.mem_cons, List.not_mem_nil, or_false] at hu
  rcases hu with rfl | rfl | rfl | rfl | rfl | rfl <;> rfl
theorem infoE : (Try.prog.info? 34).map (fun i => (i.zero, i.size, i.bytes)) = some (some (.agg #[.int .i64 0, .int .u32 0, .bool false, .int .u64 0, .int .u64 0, .int .u64 0]), 6, 40) := by kernel_rfl
/-- A row that is read. -/
def SeeE (w : World) (v : Value) (xs : List EP) : Prop := (v = .slice none 0 0 ∧ xs = []) ∨ ∃ g off c, v = .slice (some ⟨g, off, none⟩) xs.length c ∧ xs.length ≤ c ∧ c ≤ 9223372036854775807 ∧ ∀ j u, (flatE xs)[j]? = some u → w.cell? ⟨g, off + j, none⟩ = some u
/-- A row of the call's own. -/
def OwnE (w : World) (B : Nat) (v : Value) (xs : List EP) : Prop := w.ownsRow B 34 6 v xs.length (flatE xs)
section
variable {w w' : World} {B B' : Nat} {v : Value} {xs ys : List EP}
theorem OwnE.nil (w : World) (B : Nat) : OwnE w B (.slice none 0 0) [] := World.ownsRow_nil _ _ _ _
theorem OwnE.see (h : OwnE w B v xs) : SeeE w v xs := by
  obtain ⟨_, h⟩ := h
  rcases h with ⟨rfl, h0⟩ | ⟨g, cap, cur, rfl, _, hg, hc, hm, hs, ht⟩
  · exact .inl ⟨rfl, List.length_eq_zero_iff.1 h0⟩
  · refine .inr ⟨g, 0, cap, rfl, hc, by unfold maxLen at hm; exact hm, fun j u hu => ?_⟩
    have hj : j < xs.length * 6 := by have := (List.getElem?_eq_some_iff.1 hu).1; rwa [flatE_len] at this
    rw [← ht, List.getElem?_take, if_pos hj] at hu
    rw [Nat.zero_add, cell_of_row w g j cur _ (0, 0) hg]
    simpa using hu
theorem OwnE.mono (h : OwnE w B v xs) (hB : B' ≤ B) : OwnE w B' v xs := by
  obtain ⟨h1, h⟩ := h
  refine ⟨h1, ?_⟩
  rcases h with h | ⟨g, cap, cur, e, hb, rest⟩
  · exact .inl h
  · exact .inr ⟨g, cap, cur, e, Nat.le_trans hB hb, rest⟩
theorem OwnE.same (h : OwnE w B v xs) (hs : ∀ g, v.ownBlock = some g → w'.heap[g]? = w.heap[g]?) : OwnE w' B v xs := by
  obtain ⟨h1, h⟩ := h
  refine ⟨h1, ?_⟩
  rcases h with h | ⟨g, cap, cur, rfl, hb, hg, rest⟩
  · exact .inl h
  · exact .inr ⟨g, cap, cur, rfl, hb, (hs g rfl).trans hg, rest⟩
theorem OwnE.bq (h : OwnE w B v xs) {g : Nat} (hg : v.ownBlock = some g) : B ≤ g ∧ ∃ cs, Bq g 34 cs w := by
  obtain ⟨_, h⟩ := h
  rcases h with ⟨rfl, _⟩ | ⟨g', cap, cur, rfl, hb, hh, _⟩
  · cases hg
  · obtain rfl : g' = g := by simpa [Value.ownBlock] using hg
    exact ⟨hb, cur.toList, by unfold Bq; simpa using hh⟩
theorem OwnE.lt (h : OwnE w B v xs) {g : Nat} (hg : v.ownBlock = some g) : g < w.heap.size := by obtain ⟨_, cs, k⟩ := h.bq hg; exact k.lt
theorem OwnE.below (h : OwnE w B v xs) (hb : Below w.heap.size w w') : OwnE w' B v xs := h.same fun _ hg => hb.block _ (h.lt hg)
theorem SeeE.below (h : SeeE w v xs) (hb : Below w.heap.size w w') : SeeE w' v xs := by
  rcases h with h | ⟨g, off, c, rfl, h1, h2, h3⟩
  · exact .inl h
  · exact .inr ⟨g, off, c, rfl, h1, h2, fun j u hu => (hb.cell (p := ⟨g, off + j, none⟩) (World.block_lt_of_cell? w _ (h3 j u hu))).trans (h3 j u hu)⟩
/-- The cells of one of its entries. -/
theorem SeeE.at_ {g off n c : Nat} (h : SeeE w (.slice (some ⟨g, off, none⟩) n c) xs) {j : Nat} (hj : j < xs.length) : ∀ i, i < 6 → w.cell? ⟨g, off + j * 6 + i, none⟩ = (xs.getD j EP.zero).cells[i]? := fun i hi => by
  rcases h with ⟨e, _⟩ | ⟨g', off', c', e, _, _, h3⟩
  · cases e
  · injection e with e1 e2 e3
    injection e1 with e1
    injection e1 with e1 e4
    subst e1 e4
    have hf := flatE_at xs j i hj hi
    have : ((xs.getD j EP.zero).cells)[i]? = some ((xs.getD j EP.zero).cells[i]'(by rw [EP.cells_len]; exact hi)) := List.getElem?_eq_getElem _
    rw [this] at hf ⊢
    rw [Nat.add_assoc]
    exact h3 _ _ hf
theorem SeeE.addr {A : Option Addr} {n c : Nat} (h : SeeE w (.slice A n c) xs) (hn : 0 < n) : n ≤ c ∧ c ≤ 9223372036854775807 ∧ ∃ g off, A = some ⟨g, off, none⟩ := by
  rcases h with ⟨e, _⟩ | ⟨g, off, c', e, h1, h2, _⟩
  · injection e with _ e2; omega
  · injection e with e1 e2 e3
    subst e1 e2 e3
    exact ⟨h1, h2, g, off, rfl⟩
theorem SeeE.six {g off n c : Nat} (h : SeeE w (.slice (some ⟨g, off, none⟩) n c) xs) {j : Nat} (hj : j < xs.length) : w.cell? ⟨g, off + j * 6, none⟩ = some (.int .i64 (xs.getD j EP.zero).s) ∧ w.cell? ⟨g, off + j * 6 + 1, none⟩ = some (.int .u32 (xs.getD j EP.zero).g) ∧ w.cell? ⟨g, off + j * 6 + 2, none⟩ = some (.bool (xs.getD j EP.zero).k) ∧ w.cell? ⟨g, off + j * 6 + 3, none⟩ = some (.int .u64 (xs.getD j EP.zero).b) ∧ w.cell? ⟨g, off + j * 6 + 4, none⟩ = some (.int .u64 (xs.getD j EP.zero).c) ∧ w.cell? ⟨g, off + j * 6 + 5, none⟩ = some (.int .u64 (xs.getD j EP.zero).d) :=
  ⟨h.at_ hj 0 (by decide), h.at_ hj 1 (by decide), h.at_ hj 2 (by decide), h.at_ hj 3 (by decide), h.at_ hj 4 (by decide), h.at_ hj 5 (by decide)⟩
theorem SeeE.len {A : Option Addr} {n c : Nat} (h : SeeE w (.slice A n c) xs) : n = xs.length := by
  rcases h with ⟨e, rfl⟩ | ⟨g, off, c', e, _⟩
  · injection e
  · injection e
end
theorem one_cell (e : EP) : ∀ u ∈ e.cells, u.oneCell' = true := fun u hu => flatE_one (xs := [e]) u (by simpa [flatE] using hu)
theorem row_see (w : World) (e : EP) : ∀ j u, e.cells[j]? = some u → (w.alloc (.cells e.cells.toArray 34)).cell? ((⟨w.heap.size, 0, none⟩ : Addr).add j) = some u := by
  intro j u hj
  have h9 := (Bq.new w e.cells 34).cell j
  by_cases h0 : j = 0
  · subst h0
    simpa [Addr.add] using h9.trans hj
  · simpa [Addr.add, h0] using h9.trans hj
theorem flat_one (e : EP) : flatE [e] = e.cells := by simp [flatE]
theorem SeeE.reads' {w : World} {g off : Nat} {xs : List EP} (hr : ∀ j u, (flatE xs)[j]? = some u → w.cell? ⟨g, off + j, none⟩ = some u) : ∀ j u, (flatE xs)[j]? = some u → w.cell? ((⟨g, off, none⟩ : Addr).add j) = some u := by
  intro j u hj
  have h9 := hr j u hj
  by_cases h0 : j = 0
  · subst h0
    simpa [Addr.add] using h9
  · simpa [Addr.add, h0] using h9
/-- Entries that are read, behind a row of the call's own: outside a drawn region. -/
theorem wpList_append_see {w : World} {ops : Array Oper} {rest : List Oper} {oo : Oper} {a : Act} {Q : Exit → Act → World → Prop} {i0 : TypeInfo} (hi0 : Try.prog.info? 34 = some i0) (hz0 : i0.zero = some (.agg #[.int .i64 0, .int .u32 0, .bool false, .int .u64 0, .int .u64 0, .int .u64 0])) (hz1 : i0.size = 6) (hz2 : i0.bytes = 40) (hgd : oo.guard = none) (s x : Operand)
    (ho : oo.op = .call { callee := .builtin .append, args := #[s, x], argTypes := #[26, 26] })
    (base : Nat) (v : Value) (xs : List EP) (hs : a.eval s = v) (hown : OwnE w base v xs) (vx : Value) (ys : List EP) (hx : a.eval x = vx) (hy : SeeE w vx ys) (hl : xs.length + ys.length < 100000) (hbase : base ≤ w.heap.size)
    (h : ∀ v' w', w'.ownsRow base 34 6 v' (xs.length + ys.length) (flatE xs ++ flatE ys) → w.grownBy w' v.ownBlock → (v'.ownBlock = v.ownBlock ∨ v'.ownBlock = some w.heap.size) → wpList Try.prog ops Q rest (a.put oo.dst v') w') : wpList Try.prog ops Q (oo :: rest) a w := by
  rcases hy with ⟨rfl, rfl⟩ | ⟨g, off, c, rfl, _, _, hr⟩
  · refine wpList_append_own_none hgd s x 26 ho base 34 i0 6 Try.underlying26 hi0 v xs.length (flatE xs) hs hown hx (h v w ?_ ⟨rfl, rfl, rfl, Nat.le_refl _, fun _ _ _ => rfl⟩ (.inl rfl))
    have e : flatE xs ++ flatE ([] : List EP) = flatE xs := List.append_nil _
    rw [e]
    exact hown
  · exact wpList_append_own_at _ hgd s x 26 ho base 34 i0 _ 6 40 Try.underlying26 hi0 hz0 hz1 hz2 rfl (by decide) v xs.length (flatE xs) hs hown ⟨g, off, none⟩ ys.length c (flatE ys) hx (flatE_len ys) (SeeE.reads' hr) flatE_one (by unfold maxLen; omega) (by omega) hbase fun v' w' h1 h2 _ h4 => h v' w' h1 h2 h4
section
variable {w : World}
/-- Entries that are read, behind a row of the call's own. -/
theorem step_append_see {ops : Array Oper} {oo : Oper} {a : Act} {KK : Act → World → Prop} {Q : Exit → Act → World → Prop} {E : Prop} {i0 : TypeInfo} (hi0 : Try.prog.info? 34 = some i0) (hz0 : i0.zero = some (.agg #[.int .i64 0, .int .u32 0, .bool false, .int .u64 0, .int .u64 0, .int .u64 0])) (hz1 : i0.size = 6) (hz2 : i0.bytes = 40) (hgd : oo.guard = none) (s x : Operand)
    (ho : oo.op = .call { callee := .builtin .append, args := #[s, x], argTypes := #[26, 26] })
    (base : Nat) (v : Value) (xs : List EP) (hs : a.eval s = v) (hown : OwnE w base v xs) (vx : Value) (ys : List EP) (hx : a.eval x = vx) (hy : SeeE w vx ys) (hl : xs.length + ys.length < 100000) (hbase : base ≤ w.heap.size)
    (h : ∀ v' w', w'.ownsRow base 34 6 v' (xs.length + ys.length) (flatE xs ++ flatE ys) → w.grownBy w' v.ownBlock → (v'.ownBlock = v.ownBlock ∨ v'.ownBlock = some w.heap.size) → KK (a.put oo.dst v') w') :
    if Region.wanted oo (yielded ops a.tmps) = true then Oper.wp Try.prog oo a w KK Q else E := by
  rcases hy with ⟨rfl, rfl⟩ | ⟨g, off, c, rfl, _, _, hr⟩
  · refine step_append_none _ hgd s x 26 ho base 34 i0 6 Try.underlying26 hi0 v xs.length (flatE xs) hs hown hx (h v w ?_ ⟨rfl, rfl, rfl, Nat.le_refl _, fun _ _ _ => rfl⟩ (.inl rfl))
    have e : flatE xs ++ flatE ([] : List EP) = flatE xs := List.append_nil _
    rw [e]
    exact hown
  · refine step_append_at _ hgd s x 26 ho base 34 i0 _ 6 40 Try.underlying26 hi0 hz0 hz1 hz2 rfl (by decide) v xs.length (flatE xs) hs hown ⟨g, off, none⟩ ys.length c (flatE ys) hx (flatE_len ys) (SeeE.reads' hr) flatE_one (by unfold maxLen; omega) (by omega) hbase h
end
section
variable {g : List EP}
theorem take_next {i : Nat} (hi : i < g.length) : g.take (i + 1) = g.take i ++ [g.getD i EP.zero] := by
  rw [List.getD_eq_getElem?_getD, List.getElem?_eq_getElem hi, List.take_succ_eq_append_getElem hi]
  rfl
end
theorem own_whole {w : World} {n y : Nat} {B size : Nat} {t : TypeId} {xs : List Value} (h : w.ownsRow B t size (.slice (some ⟨y, 0, none⟩) n n) n xs) : Bq y t xs w := by
  obtain ⟨h1, h2⟩ := h
  rcases h2 with ⟨e, _⟩ | ⟨g, cap, cur, e, hb, hg, hc, hm, hs, ht⟩
  · cases e
  · injection e with e1 e2 e3
    injection e1 with e1
    injection e1 with e4
    subst e4 e3
    rw [List.take_of_length_le (by simp; omega)] at ht
    subst ht
    unfold Bq
    simpa using hg
theorem grown_none {w w' : World} (h : w.grownBy w' none) : Below w.heap.size w w' := (Below.refl _ w).grown h (Nat.le_refl _) fun _ e => by cases e
section
variable {w : World} {v' : Value}
theorem ownsRow_form {base : Nat} {t : TypeId} {size k : Nat} {xs : List Value} (h : w.ownsRow base t size v' k xs) : ∃ A c, v' = .slice A k c := by
  rcases h.2 with ⟨rfl, rfl⟩ | ⟨g, cap, cur, rfl, _⟩
  · exact ⟨_, _, rfl⟩
  · exact ⟨_, _, rfl⟩
end
theorem OwnE.slice {w : World} {B : Nat} {v : Value} {xs : List EP} (h : OwnE w B v xs) : ∃ A k, v = .slice A xs.length k ∧ xs.length ≤ k ∧ k ≤ 9223372036854775807 ∧ (0 < xs.length → ∃ g, A = some ⟨g, 0, none⟩) := by
  obtain ⟨_, h⟩ := h
  rcases h with ⟨rfl, h0⟩ | ⟨g, cap, cur, rfl, _, hg, hc, hm, hs, ht⟩
  · exact ⟨none, 0, by rw [h0], by omega, by omega, fun k => by omega⟩
  · exact ⟨_, cap, rfl, hc, by unfold maxLen at hm; exact hm, fun _ => ⟨g, rfl⟩⟩
theorem bq_type {x : Nat} {t u : TypeId} {cs ds : List Value} {w : World} (k : Bq x t cs w) (j : Bq x u ds w) : t = u := by
  have := Eq.trans (Eq.symm k) j
  simp only [Option.some.injEq, Obj.cells.injEq] at this
  exact this.2.1
/-- Nothing that lay has turned but some blocks. -/
structure Kp (E : List Nat) (X Y : World) : Prop where
  os : Y.os = X.os
  tape : Y.tape = X.tape
  output : Y.output = X.output
  size : X.heap.size ≤ Y.heap.size
  block : ∀ k, k < X.heap.size → k ∉ E → Y.heap[k]? = X.heap[k]?
section
variable {E E' : List Nat} {X Y Z : World} {q : Nat}
theorem Kp.of_below (h : Below X.heap.size X Y) : Kp E X Y := ⟨h.os, h.tape, h.output, h.size, fun k hk _ => h.block k hk⟩
theorem Kp.refl (X : World) : Kp E X X := .of_below (Below.refl _ X)
theorem Kp.trans (h : Kp E X Y) (k : Kp E Y Z) : Kp E X Z := ⟨k.os.trans h.os, k.tape.trans h.tape, k.output.trans h.output, Nat.le_trans h.size k.size, fun j hj he => (k.block j (Nat.lt_of_lt_of_le hj h.size) he).trans (h.block j hj he)⟩
theorem Kp.more (h : Kp E X Y) (hE : ∀ x ∈ E, x ∈ E') : Kp E' X Y := ⟨h.os, h.tape, h.output, h.size, fun k hk he => h.block k hk fun e => he (hE k e)⟩
theorem Kp.setCell (X : World) (hq : q ∈ E) (i : Nat) (v : Value) : Kp E X (X.setCell ⟨q, i, none⟩ v) := ⟨rfl, rfl, rfl, by simp [World.setCell], fun k _ he => Below.heap_setCell X ⟨q, i, none⟩ v k fun e => he (e ▸ hq)⟩
theorem Kp.below {B : Nat} (h : Kp E X Y) (hE : ∀ x ∈ E, B ≤ x) (hB : B ≤ X.heap.size) : Below B X Y := ⟨h.os, h.tape, h.output, h.size, fun k hk => h.block k (by omega) fun e => by have := hE k e; omega⟩
theorem Kp.grown {v : Option Nat} (h : X.grownBy Y v) (hv : ∀ x, v = some x → x ∈ E) : Kp E X Y := ⟨h.os, h.tape, h.output, h.size, fun k hk he => h.block k hk fun e => he (hv k e.symm)⟩
/-- Blocks that were not there yet count as nothing. -/
theorem Kp.fresh (h : Kp E X Y) (hE : ∀ x ∈ E, x ∈ E' ∨ X.heap.size ≤ x) : Kp E' X Y := ⟨h.os, h.tape, h.output, h.size, fun k hk he => h.block k hk fun e => by
  rcases hE k e with h1 | h1
  · exact he h1
  · omega⟩
/-- From a later world on: what is excepted there was excepted, or was not there yet. -/
theorem Kp.then (h : Kp E X Y) (k : Kp E' Y Z) (hE : ∀ x ∈ E', x ∈ E ∨ X.heap.size ≤ x) : Kp E X Z := ⟨k.os.trans h.os, k.tape.trans h.tape, k.output.trans h.output, Nat.le_trans h.size k.size, fun j hj he => (k.block j (Nat.lt_of_lt_of_le hj h.size) fun e => by
  rcases hE j e with h1 | h1
  · exact he h1
  · omega).trans (h.block j hj he)⟩
end
end Go.Proofs.Ythcclgnadhcndaa
