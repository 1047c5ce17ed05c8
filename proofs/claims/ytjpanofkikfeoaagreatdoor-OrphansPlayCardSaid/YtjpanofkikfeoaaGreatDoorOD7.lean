/-
  What the law OrphansPlay holds between two acts: both memories, the pair's box, the row of operations, each operation and the document's; condition: all lies as it says.
  The document's word on which entries may be given, and its new Give; condition: the list is read.
  The document's new Give; condition: the list is read.
-/
import Derived.Test.YtjpanofkikfeoaaGreatDoorOD4
import Derived.OwnWalk
import Derived.Laws.OwnMore
import Derived.Test.YtjpanofkikfeoaaGreatDoorOE2
import Derived.Test.YtjpanofkikfeoaaGreatDoorOK0
import Derived.BigQuiet
import Derived.Deep.QuietTactic
import Derived.Deep.Cut
namespace Go.Proofs.YtjpanofkikfeoaaGreatDoor
open Go.RowKit Go.Maps

def JO.cells (x : JO) : List Value := match x.kd with
  | 0 => [.pointer (some ⟨x.q, 0, none⟩), .pointer none, .pointer (some ⟨x.K, 0, none⟩)]
  | _ => [.pointer none, .pointer (some ⟨x.q, 0, none⟩), .pointer (some ⟨x.K, 0, none⟩)]
theorem JO.cells_len (x : JO) : x.cells.length = 3 := by unfold JO.cells; split <;> rfl
def flatJ (l : List JO) : List Value := l.flatMap JO.cells
theorem flatJ_len (l : List JO) : (flatJ l).length = l.length * 3 := by
  induction l with
  | nil => rfl
  | cons x r ih => simp only [flatJ, List.flatMap_cons, List.length_append, List.length_cons] at ih ⊢; rw [ih, JO.cells_len]; omega
theorem flatJ_at (l : List JO) : ∀ (i j : Nat) (x : JO), l[i]? = some x → j < 3 → (flatJ l)[i * 3 + j]? = x.cells[j]? := by
  induction l with
  | nil => intro i j x hi; simp at hi
  | cons y r ih =>
    intro i j x hi hj
    cases i with
    | zero =>
      simp only [List.getElem?_cons_zero, Option.some.injEq] at hi
      subst hi
      simp only [flatJ, List.flatMap_cons, Nat.zero_mul, Nat.zero_add]
      rw [List.getElem?_append_left (by rw [JO.cells_len]; exact hj)]
    | succ i =>
      simp only [List.getElem?_cons_succ] at hi
      have h := ih i j x hi hj
      simp only [flatJ, List.flatMap_cons] at h ⊢
      rw [List.getElem?_append_right (by rw [JO.cells_len]; omega), ← h, JO.cells_len]
      congr 1
      omega
theorem flatJ_push (l : List JO) (x : JO) : flatJ (l ++ [x]) = flatJ l ++ x.cells := by simp [flatJ]
theorem flatJ_set (l : List JO) : ∀ (k : Nat) (x x' : JO), l[k]? = some x → x'.cells = x.cells → flatJ (l.set k x') = flatJ l := by
  induction l with
  | nil => intro k x x' h; simp at h
  | cons y r ih =>
    intro k x x' h he
    cases k with
    | zero =>
      simp only [List.getElem?_cons_zero, Option.some.injEq] at h
      subst h
      simp only [flatJ, List.set_cons_zero, List.flatMap_cons, he]
    | succ k =>
      simp only [List.getElem?_cons_succ] at h
      have := ih k x x' h he
      simp only [flatJ, List.set_cons_succ, List.flatMap_cons] at this ⊢
      rw [this]
theorem cellsJ_one (x : JO) : ∀ u ∈ x.cells, u.oneCell' = true := by
  intro u hu
  unfold JO.cells at hu
  split at hu <;> simp at hu <;> rcases hu with rfl | rfl | rfl <;> rfl
theorem JO.sub_cells {x x' : JO} {n : Nat} (h : x.sub x' n) : x'.cells = x.cells := by
  obtain ⟨h1, h2, h3, _⟩ := h
  unfold JO.cells
  rw [h1, h2, h3]
/-- Between two acts. -/
structure PS (W : World) (p m b T0 c : Nat) (rows : List JO) (v : Value) (w : World) : Prop where
  both : Both p m b c w
  lay : Lay w
  laym : LayM w
  low : Below W.heap.size W w
  mW : W.heap.size ≤ m
  box : Bq T0 28 [.pointer (some ⟨p, 0, none⟩), .pointer (some ⟨b, 0, none⟩)] w
  row : w.ownsRow W.heap.size 46 3 v rows.length (flatJ rows)
  ops : ∀ (i : Nat) (x : JO), rows[i]? = some x → JAt W.heap.size x w
  sep : ∀ (i j : Nat) (x y : JO), rows[i]? = some x → rows[j]? = some y → i ≠ j → ∀ z ∈ x.fp, z ∉ y.fp
section
variable {W : World} {p m b T0 c c' : Nat} {rows : List JO} {v : Value} {w w' : World} {x y : JO} {E : List Nat}
theorem Both.parts (h : Both p m b c w) : ∃ n D s L, Pr p m b n D s L s w := by
  obtain ⟨n, D, s, L, hP, _⟩ := h
  exact ⟨n, D, s, L, hP⟩
theorem own_fxl (h : Both p m b c w) (f : FxL W.heap.size p b E w w') (ho : ∀ y ∈ x.fp, OwnX W.heap.size y w) {z : Nat} (hz : z ∈ x.fp) (hE : z ∉ E) : w'.heap[z]? = w.heap[z]? := by
  obtain ⟨n, D, s, L, P⟩ := h.parts
  exact (ho z hz).fxl (M := ⟨vals L, s⟩) P f hE
theorem bx_fxl {z : Nat} {t : TypeId} {cs : List Value} (h : Both p m b c w) (f : FxL W.heap.size p b E w w') (hz : Bq z t cs w) (ht : isBx t = true) (hE : z ∉ E) : Bq z t cs w' := by
  obtain ⟨n, D, s, L, P⟩ := h.parts
  obtain ⟨⟨cp, kp⟩, ⟨cb, kb⟩, _⟩ := Pr.blocks (M := ⟨vals L, s⟩) P
  obtain ⟨t1, t3, t4, t5⟩ := isBx_no ht
  exact f.far z _ _ _ hz t3 (hz.ne kp t4) (hz.ne kb t5) hE
theorem own_noBx {z : Nat} {t : TypeId} {cs : List Value} (ho : ∀ y ∈ x.fp, OwnX W.heap.size y w) (hz : Bq z t cs w) (ht : isBx t = true) : z ∉ x.fp := fun hx => (ho z hx).ne hz (isBx_no ht).1 rfl
theorem row_same {n : Nat} {xs : List Value} (h : w.ownsRow W.heap.size 46 3 v n xs) (hs : ∀ z cs, Bq z 46 cs w → Bq z 46 cs w') : w'.ownsRow W.heap.size 46 3 v n xs := by
  refine ⟨h.1, ?_⟩
  rcases h.2 with h2 | ⟨g, cap, cur, hv, hg, hh, r⟩
  · exact .inl h2
  · have := hs g cur.toList (by unfold Bq; simpa using hh)
    unfold Bq at this
    exact .inr ⟨g, cap, cur, hv, hg, by simpa using this, r⟩
/-- What turns no operation's blocks. -/
theorem PS.fxl0 (P : PS W p m b T0 c rows v w) (hW : 1 < W.heap.size) (f : FxL W.heap.size p b [] w w') (hb : Both p m b c' w') : PS W p m b T0 c' rows v w' :=
  ⟨hb, f.lay hW P.lay, f.laym hW P.laym, P.low.trans f.low, P.mW, bx_fxl P.both f P.box (by decide) (by simp), row_same P.row fun _ _ k => bx_fxl P.both f k (by decide) (by simp), fun i x hx => (P.ops i x hx).same fun z hz => own_fxl P.both f (P.ops i x hx).own hz (by simp), P.sep⟩
theorem PS.below (P : PS W p m b T0 c rows v w) (hb : Below w.heap.size w w') : PS W p m b T0 c rows v w' :=
  ⟨P.both.below hb, P.lay.below hb, P.laym.below hb, P.low.trans (hb.mono P.low.size), P.mW, P.box.below hb, row_same P.row fun _ _ k => k.below hb, fun i x hx => (P.ops i x hx).below hb, P.sep⟩
theorem PS.mono (P : PS W p m b T0 c rows v w) (hc : c ≤ c') : PS W p m b T0 c' rows v w := ⟨P.both.mono hc, P.lay, P.laym, P.low, P.mW, P.box, P.row, P.ops, P.sep⟩
/-- A step of one of them. -/
theorem PS.step (P : PS W p m b T0 c rows v w) (hW : 1 < W.heap.size) {k : Nat} {x' : JO} (hx : rows[k]? = some x) (f : FxL W.heap.size p b x.fp w w') (hb : Both p m b c' w') (hs : x.sub x' w.heap.size) (hJ : JAt W.heap.size x' w') : PS W p m b T0 c' (rows.set k x') v w' := by
  have hk : k < rows.length := (List.getElem?_eq_some_iff.1 hx).1
  have hl : ∀ (i : Nat) (y : JO), rows[i]? = some y → ∀ z ∈ y.fp, z < w.heap.size := fun i y hy z hz => ((P.ops i y hy).own z hz).lt
  have hset : ∀ (i : Nat) (y : JO), (rows.set k x')[i]? = some y → (i = k ∧ y = x') ∨ (i ≠ k ∧ rows[i]? = some y) := fun i y hy => by
    rw [List.getElem?_set] at hy
    by_cases e : k = i
    · subst e
      rw [if_pos rfl, if_pos hk] at hy
      exact .inl ⟨rfl, (Option.some.inj hy).symm⟩
    · rw [if_neg e] at hy
      exact .inr ⟨fun h => e h.symm, hy⟩
  refine ⟨hb, f.lay hW P.lay, f.laym hW P.laym, P.low.trans f.low, P.mW, bx_fxl P.both f P.box (by decide) (own_noBx (P.ops k x hx).own P.box (by decide)), ?_, fun i y hy => ?_, fun i j y z hy hz hij u hu => ?_⟩
  · rw [List.length_set, flatJ_set rows k x x' hx (JO.sub_cells hs)]
    exact row_same P.row fun z cs kz => bx_fxl P.both f kz (by decide) (own_noBx (P.ops k x hx).own kz (by decide))
  · rcases hset i y hy with ⟨_, rfl⟩ | ⟨hik, hy⟩
    · exact hJ
    · exact (P.ops i y hy).same fun z hz => own_fxl P.both f (P.ops i y hy).own hz (P.sep i k y x hy hx hik z hz)
  · rcases hset i y hy with ⟨e1, e2⟩ | ⟨hik, hy1⟩
    · rcases hset j z hz with ⟨e3, _⟩ | ⟨hjk, hz1⟩
      · omega
      · intro h
        rw [e2] at hu
        rcases hs.2.2.2 u hu with h1 | h1
        · exact P.sep k j x z hx hz1 (Ne.symm hjk) u h1 h
        · have := hl j z hz1 u h; omega
    · rcases hset j z hz with ⟨e1, e2⟩ | ⟨hjk, hz1⟩
      · intro h
        rw [e2] at h
        rcases hs.2.2.2 u h with h1 | h1
        · exact P.sep k i x y hx hy1 (Ne.symm hik) u h1 hu
        · have := hl i y hy1 u hu; omega
      · exact P.sep i j y z hy1 hz1 hij u hu
/-- One more. -/
theorem PS.push {n0 : Nat} (P : PS W p m b T0 c rows v w) (hW : 1 < W.heap.size) {v' : Value} (ho : w'.ownsRow W.heap.size 46 3 v' (rows.length + 1) (flatJ rows ++ x.cells)) (hg : w.grownBy w' v.ownBlock) (hJ : JAt W.heap.size x w) (hn : ∀ z ∈ x.fp, n0 ≤ z) (hr : ∀ (i : Nat) (y : JO), rows[i]? = some y → ∀ z ∈ y.fp, z < n0) :
    PS W p m b T0 c (rows ++ [x]) v' w' := by
  have key : ∀ z o, w.heap[z]? = some o → (∀ cs, o ≠ Obj.cells cs 46 (0, 0)) → w'.heap[z]? = some o := fun z o hz hne => by
    refine (hg.block z (Array.getElem?_eq_some_iff.1 hz).1 fun e => ?_).trans hz
    rcases P.row.2 with ⟨hv, _⟩ | ⟨g, cap, cur, hv, _, hh, _⟩
    · rw [hv] at e; cases e
    · rw [hv] at e
      simp only [Value.ownBlock, Option.some.injEq] at e
      rw [e, hh] at hz
      injection hz with hz
      exact hne cur hz.symm
  have kc : ∀ {z : Nat} {cs : Array Value} {t : TypeId}, w.heap[z]? = some (Obj.cells cs t (0, 0)) → t ≠ 46 → w'.heap[z]? = some (Obj.cells cs t (0, 0)) := fun {z cs t} hz ht => key z _ hz fun cs' e => by
    injection e with _ e
    exact ht e
  have kJ : ∀ {y : JO}, JAt W.heap.size y w → JAt W.heap.size y w' := fun {y} J => J.same fun z hz => by
    obtain ⟨_, t, cs, k, ht⟩ := J.own z hz
    exact (kc k (by rintro rfl; revert ht; decide)).trans k.symm
  have hl : Below W.heap.size w w' := ⟨hg.os, hg.tape, hg.output, hg.size, fun k hk => hg.block k (Nat.lt_of_lt_of_le hk P.low.size) fun e => by have := (P.row.lt k e.symm).1; omega⟩
  have happ : ∀ (i : Nat) (y : JO), (rows ++ [x])[i]? = some y → rows[i]? = some y ∨ (i = rows.length ∧ y = x) := fun i y hy => by
    rcases Nat.lt_or_ge i rows.length with h | h
    · rw [List.getElem?_append_left h] at hy
      exact .inl hy
    · rw [List.getElem?_append_right h] at hy
      have hi : i - rows.length < 1 := by have := (List.getElem?_eq_some_iff.1 hy).1; simpa using this
      have hz : i - rows.length = 0 := by omega
      rw [hz] at hy
      exact .inr ⟨by omega, (Option.some.inj hy).symm⟩
  refine ⟨?_, P.lay.same3 hl.size (hl.block 1 (by omega)), P.laym.same hl.size (hl.block 0 (by omega)), P.low.trans hl, P.mW, kc P.box (by decide), by rw [flatJ_push, List.length_append]; exact ho, fun i y hy => ?_, fun i j y z hy hz hij u hu h => ?_⟩
  · obtain ⟨n, D, s, L, hP, h2⟩ := P.both
    obtain ⟨u, hr⟩ := hP.ref
    obtain ⟨es, k, hm⟩ := hP.prog.map_at
    refine ⟨n, D, s, L, ⟨hP.prog.keep ((kc hP.prog.blk (by decide)).trans hP.prog.blk.symm) ((key _ _ hm (fun cs e => by cases e)).trans hm.symm), ⟨u, kc hr.blk (by decide), ⟨hr.own.1, ?_⟩, hr.pos⟩, hP.mp, hP.pb⟩, h2⟩
    rcases hr.own.2 with hn | ⟨g, cap, cur, hv, hB, hh, rest⟩
    · exact .inl hn
    · exact .inr ⟨g, cap, cur, hv, hB, kc hh (by decide), rest⟩
  · rcases happ i y hy with hy | ⟨_, rfl⟩
    · exact kJ (P.ops i y hy)
    · exact kJ hJ
  · rcases happ i y hy with hy1 | ⟨e1, e2⟩
    · rcases happ j z hz with hz1 | ⟨e3, e4⟩
      · exact P.sep i j y z hy1 hz1 hij u hu h
      · rw [e4] at h
        have := hr i y hy1 u hu
        have := hn u h
        omega
    · rcases happ j z hz with hz1 | ⟨e3, e4⟩
      · rw [e2] at hu
        have := hr j z hz1 u h
        have := hn u hu
        omega
      · omega
theorem PS.old (P : PS W p m b T0 c rows v w) {n0 : Nat} (hn : w.heap.size ≤ n0) : ∀ (i : Nat) (y : JO), rows[i]? = some y → ∀ z ∈ y.fp, z < n0 := fun i y hy z hz => Nat.lt_of_lt_of_le ((P.ops i y hy).own z hz).lt hn
theorem PS.boxes (P : PS W p m b T0 c rows v w) : w.cell? ⟨T0, 0, none⟩ = some (.pointer (some ⟨p, 0, none⟩)) ∧ w.cell? ⟨T0, 1, none⟩ = some (.pointer (some ⟨b, 0, none⟩)) := P.box.cells2
theorem PS.grown_blk (P : PS W p m b T0 c rows v w) (hg : w.grownBy w' v.ownBlock) {X : Nat} {cs : List Value} {t : TypeId} (h : Bq X t cs w) (ht : t ≠ 46) : Bq X t cs w' := by
  refine (hg.block X h.lt fun e => ?_).trans h
  rcases P.row.2 with ⟨hv, _⟩ | ⟨g, cap, cur, hv, _, hh, _⟩
  · rw [hv] at e; cases e
  · rw [hv] at e
    simp only [Value.ownBlock, Option.some.injEq] at e
    rw [e] at h
    have kg : Bq g 46 cur.toList w := by unfold Bq; simpa using hh
    exact ht (bq_type h kg)
/-- The operation that the law picks. -/
theorem PS.pick {g' M c' k : Nat} (P : PS W p m b T0 c rows (.slice (some ⟨g', 0, none⟩) M c') w) (hM : rows.length = M) (hk : k < M) :
    ∃ x cs, rows[k]? = some x ∧ Bq g' 46 cs w ∧ ∀ j : Nat, j < 3 → w.cell? ⟨g', k * 3 + j, none⟩ = x.cells[j]? := by
  have hkl : k < rows.length := by omega
  have hrow := P.row
  rw [hM] at hrow
  have hx : rows[k]? = some rows[k] := List.getElem?_eq_getElem hkl
  rcases P.row.2 with ⟨hv, _⟩ | ⟨g, cap, cur, hv, _, hh, _⟩
  · cases hv
  · injection hv with h1 _ _
    injection h1 with h1
    injection h1 with h1
    subst h1
    exact ⟨_, cur.toList, hx, by unfold Bq; simpa using hh, fun j hj => (hrow.cellAt (k * 3 + j) (by omega)).trans (flatJ_at rows k j _ hx hj)⟩
end
end Go.Proofs.YtjpanofkikfeoaaGreatDoor
namespace Go.Proofs.YtjpanofkikfeoaaGreatDoor
open Go.RowKit Go.Maps

section
variable {w : World} {g : List EP}
theorem SeeE.readsP {w : World} {g off : Nat} {xs : List EP} (hr : ∀ j u, (flatE xs)[j]? = some u → w.cell? ⟨g, off + j, none⟩ = some u) : ∀ j u, (flatE xs)[j]? = some u → w.cell? ((⟨g, off, none⟩ : Addr).add j) = some u := by
  intro j u hj
  have h9 := hr j u hj
  by_cases h0 : j = 0
  · subst h0
    simpa [Addr.add] using h9
  · simpa [Addr.add, h0] using h9
/-- Entries that are read, behind a row of the call's own: outside a drawn region. -/
theorem wpList_append_seeP {w : World} {ops : Array Oper} {rest : List Oper} {oo : Oper} {a : Act} {Q : Exit → Act → World → Prop} {i0 : TypeInfo} (hi0 : Tryz.prog.info? 62 = some i0) (hz0 : i0.zero = some (.agg #[.int .i64 0, .int .u32 0, .bool false, .int .u64 0, .int .u64 0, .int .u64 0])) (hz1 : i0.size = 6) (hz2 : i0.bytes = 40) (hgd : oo.guard = none) (s x : Operand)
    (ho : oo.op = .call { callee := .builtin .append, args := #[s, x], argTypes := #[31, 31] })
    (base : Nat) (v : Value) (xs : List EP) (hs : a.eval s = v) (hown : OwnE w base v xs) (vx : Value) (ys : List EP) (hx : a.eval x = vx) (hy : SeeE w vx ys) (hl : xs.length + ys.length < 100000) (hbase : base ≤ w.heap.size)
    (h : ∀ v' w', w'.ownsRow base 62 6 v' (xs.length + ys.length) (flatE xs ++ flatE ys) → w.grownBy w' v.ownBlock → (v'.ownBlock = v.ownBlock ∨ v'.ownBlock = some w.heap.size) → wpList Tryz.prog ops Q rest (a.put oo.dst v') w') : wpList Tryz.prog ops Q (oo :: rest) a w := by
  rcases hy with ⟨rfl, rfl⟩ | ⟨g, off, c, rfl, _, _, hr⟩
  · refine wpList_append_own_none hgd s x 31 ho base 62 i0 6 Tryz.underlying31 hi0 v xs.length (flatE xs) hs hown hx (h v w ?_ ⟨rfl, rfl, rfl, Nat.le_refl _, fun _ _ _ => rfl⟩ (.inl rfl))
    have e : flatE xs ++ flatE ([] : List EP) = flatE xs := List.append_nil _
    rw [e]
    exact hown
  · exact wpList_append_own_at _ hgd s x 31 ho base 62 i0 _ 6 40 Tryz.underlying31 hi0 hz0 hz1 hz2 rfl (by decide) v xs.length (flatE xs) hs hown ⟨g, off, none⟩ ys.length c (flatE ys) hx (flatE_len ys) (SeeE.readsP hr) flatE_one (by unfold maxLen; omega) (by omega) hbase fun v' w' h1 h2 _ h4 => h v' w' h1 h2 h4
/-- What stands while the list is looked at. -/
def MayD (w : World) (l : List EP) (wr : World) : Prop := Below w.heap.size w wr ∧ (∀ e ∈ l, 0 ≤ e.s ∧ e.s < 256 ∧ e.k = false) ∧ (l.map EP.s).Nodup
theorem MayD.push {l : List EP} {e : EP} {wr : World} (h : MayD w l wr) {wr' : World} (hb : Below wr.heap.size wr wr') (h1 : 0 ≤ e.s) (h2 : e.s ≤ 255) (h3 : e.k = false) (hn : ∀ x ∈ l, x.s ≠ e.s) : MayD w (l ++ [e]) wr' := by
  refine ⟨h.1.trans (hb.mono h.1.size), fun x hx => ?_, ?_⟩
  · simp only [List.mem_append, List.mem_singleton] at hx
    rcases hx with hx | rfl
    · exact h.2.1 x hx
    · exact ⟨h1, by omega, h3⟩
  · rw [List.map_append, List.nodup_append]
    refine ⟨h.2.2, by simp, fun a ha b hb' => ?_⟩
    simp only [List.map_cons, List.map_nil, List.mem_singleton] at hb'
    rintro rfl
    obtain ⟨x, hx, hxe⟩ := List.mem_map.1 ha
    exact hn x hx (hxe.trans hb')
theorem may_twiceD {i k : Nat} (hk : k < i) (hi : i < g.length) (h : mayE g) : (g.getD k EP.zero).s ≠ (g.getD i EP.zero).s := fun e => by
  have h1 := may_twice hi h
  have h2 : ((g.take i).any fun e => e.s == (g.getD i EP.zero).s) = true := any_mem.2 (List.mem_map.2 ⟨g.getD k EP.zero, ?_, e⟩)
  · rw [h2] at h1; cases h1
  · rw [List.getD_eq_getElem?_getD, List.getElem?_eq_getElem (by omega)]
    exact List.mem_take_iff_getElem.2 ⟨k, by omega, rfl⟩
set_option maxRecDepth 100000 in
set_option maxHeartbeats 16000000 in
theorem mayR_any {A : Option Addr} {n c : Nat} (h : SeeE w (.slice A n c) g) (hl : n < 100000) : Calls Tryz.prog 22 #[.slice A n c] w fun e w' => e = .returned (.bool (decide (mayE g))) ∧ Below w.heap.size w w' := by
  have hn : n = g.length := h.len
  have HN := Lib.hid hn
  have HS := Lib.hid h
  clear h hn
  go_enter Tryz.func22, Tryz.ntmps22
  go_wp2_with fail
  go_loopw [3] (fun j wr => ∃ i : Nat, i ≤ n ∧ j = .int .i64 (i : Int) ∧ Hid (MayD w (g.take i) wr)) (fun j _ => n - (intOf j).toNat)
  case atStart => exact ⟨0, Nat.zero_le _, rfl, Lib.hid ⟨Below.refl _ _, by simp, by simp⟩⟩
  case round =>
    obtain ⟨i, hi, rfl, HM⟩ := hrel
    rename World => wr
    have hge : (0 : Int) ≤ (i : Int) := by omega
    by_cases hlt : i < n
    · have hlt' : (i : Int) < (n : Int) := by omega
      have hig : i < g.length := by have := HN.out; omega
      obtain ⟨hc0, hc1, g1, o1, rfl⟩ := HS.out.addr (by omega)
      obtain ⟨x0, x1, x2, x3, x4, x5⟩ := (HS.out.below HM.out.1).six hig
      have HT := Lib.hid (take_next hig)
      have HP := Lib.hid (may_slot hig)
      have HW := Lib.hid (fun k (hk : k < i) => may_twiceD hk hig)
      generalize hev : g.getD i EP.zero = ev at *
      obtain ⟨es, eg, ek, eb, ec, ed⟩ := ev
      have HEV := Lib.hid hev
      clear hev
      dsimp only at x0 x1 x2 x3 x4 x5
      clear x1 x3 x4 x5
      by_cases hs0 : es < 0
      · go_wp2_with fail
        go_ret
        have hd : decide (mayE g) = false := decide_eq_false fun hm => by have h : 0 ≤ es := (HP.out hm).1; omega
        exact ⟨by rw [hd]; rfl, HM.out.1⟩
      by_cases hs1 : 255 < es
      · go_wp2_with fail
        go_ret
        have hd : decide (mayE g) = false := decide_eq_false fun hm => by have h : es < 256 := (HP.out hm).2.1; omega
        exact ⟨by rw [hd]; rfl, HM.out.1⟩
      by_cases hk : ek = true
      · subst hk
        go_wp2_with fail
        go_ret
        have hd : decide (mayE g) = false := decide_eq_false fun hm => absurd (show true = false from (HP.out hm).2.2) (by simp)
        exact ⟨by rw [hd]; rfl, HM.out.1⟩
      have hk0 : ek = false := by simpa using hk
      subst hk0
      clear hk
      go_wp2_with fail
      go_loopw [4] (fun j w2 => ∃ k : Nat, k ≤ i ∧ j = .int .i64 (k : Int) ∧ Hid (Below wr.heap.size wr w2 ∧ ∀ x ∈ g.take k, x.s ≠ es)) (fun j _ => i - (intOf j).toNat)
      case atStart => exact ⟨0, Nat.zero_le _, rfl, Lib.hid ⟨Below.refl _ _, by simp⟩⟩
      case round =>
        clear x0 x2
        obtain ⟨k, hki, rfl, HK⟩ := hrel
        rename World => w2
        have hgek : (0 : Int) ≤ (k : Int) := by omega
        have HB2 := Lib.hid (HM.out.1.trans (HK.out.1.mono HM.out.1.size))
        by_cases hlk : k < i
        · have hlk' : (k : Int) < (i : Int) := by omega
          have hkn : k < n := by omega
          have hkn' : (k : Int) < (n : Int) := by omega
          have hkg : k < g.length := by omega
          have y0 := ((HS.out.below HB2.out).six hkg).1
          have x0 := ((HS.out.below HB2.out).six hig).1
          have HTK := Lib.hid (take_next hkg)
          have HWK := Lib.hid (HW.out k hlk)
          rw [HEV.out] at x0
          generalize hkv : g.getD k EP.zero = kv at *
          obtain ⟨ks, kg', kk, kb, kc, kd⟩ := kv
          clear hkv
          dsimp only at y0 x0
          by_cases hq : ks = es
          · subst hq
            go_wp2_with fail
            go_quiet (fail)
            have hbn := Lib.hid (HB2.out.trans ((below_drewN' (Below.refl _ w2) nq).mono HB2.out.size))
            clear y0 x0
            go_wp2_with fail
            go_ret
            have hd : decide (mayE g) = false := decide_eq_false fun hm => HWK.out hm rfl
            exact ⟨by rw [hd]; rfl, hbn.out⟩
          · have hqb : (ks == es) = false := beq_eq_false_iff_ne.2 hq
            have HQ := Lib.hid hq
            clear hq
            go_wp2_with fail
            go_quiet (fail)
            have hbn := Lib.hid (HK.out.1.trans ((below_drewN' (Below.refl _ w2) nq).mono HK.out.1.size))
            clear y0 x0 hqb
            go_wp2_with fail
            go_roundw
            case rel => exact ⟨k + 1, by omega, by go_num, Lib.hid ⟨hbn.out, fun x hx => by
              rw [HTK.out, List.mem_append, List.mem_singleton] at hx
              rcases hx with hx | rfl
              · exact HK.out.2 x hx
              · exact HQ.out⟩⟩
            case measure => simp [intOf]; omega
        · have hki2 : k = i := by omega
          have hnk : ¬ (k : Int) < (i : Int) := by omega
          have HPU := Lib.hid (HM.out.push (e := ⟨es, eg, false, eb, ec, ed⟩) HK.out.1 (by dsimp only; omega) (by dsimp only; omega) rfl (by rw [← hki2]; exact HK.out.2))
          clear hki2
          go_wp2_with fail
          go_roundw
          case rel => exact ⟨i + 1, by omega, by go_num, Lib.hid (by rw [HT.out]; exact HPU.out)⟩
          case measure => simp [intOf]; omega
    · have hin : i = n := by omega
      have hnl : ¬ (i : Int) < (n : Int) := by omega
      have hgt : g.take i = g := List.take_of_length_le (by have := HN.out; omega)
      have HG := Lib.hid hgt
      have hlow := Lib.hid HM.out.1
      by_cases h0 : 0 < n
      · have h0' : (0 : Int) < (n : Int) := by omega
        have hd : decide (mayE g) = true := decide_eq_true ⟨fun e => by have := HN.out; rw [e] at this; simp at this; omega, HG.out ▸ HM.out.2.1, HG.out ▸ HM.out.2.2⟩
        have HD := Lib.hid hd
        clear hd hgt HM
        go_wp2_with fail
        go_ret
        exact ⟨by rw [HD.out]; rfl, hlow.out⟩
      · have h0' : ¬ (0 : Int) < (n : Int) := by omega
        have hd : decide (mayE g) = false := decide_eq_false fun hm => hm.1 (List.length_eq_zero_iff.1 (by have := HN.out; omega))
        have HD := Lib.hid hd
        clear hd hgt HM
        go_wp2_with fail
        go_ret
        exact ⟨by rw [HD.out]; rfl, hlow.out⟩
end
end Go.Proofs.YtjpanofkikfeoaaGreatDoor
namespace Go.Proofs.YtjpanofkikfeoaaGreatDoor
open Go.RowKit Go.Maps

/-- A list that a cell says: it is read, or it has nothing (whatever it points to). -/
def EntV (w : World) (v : Value) (es : List EP) : Prop := SeeE w v es ∨ ∃ a c, v = .slice (some a) 0 c ∧ es = []
theorem EntV.below {w w' : World} {v : Value} {es : List EP} (h : EntV w v es) (hb : Below w.heap.size w w') : EntV w' v es := by
  rcases h with h | h
  · exact .inl (h.below hb)
  · exact .inr h
theorem EntV.len {w : World} {A : Option Addr} {n c : Nat} {es : List EP} (h : EntV w (.slice A n c) es) : n = es.length := by
  rcases h with h | ⟨a, c', e, rfl⟩
  · exact h.len
  · injection e with _ e2
/-- An append of such a list. -/
theorem wpList_append_ent {w : World} {ops : Array Oper} {rest : List Oper} {oo : Oper} {a : Act} {Q : Exit → Act → World → Prop} {i0 : TypeInfo} (hi0 : Tryz.prog.info? 62 = some i0) (hz0 : i0.zero = some (.agg #[.int .i64 0, .int .u32 0, .bool false, .int .u64 0, .int .u64 0, .int .u64 0])) (hz1 : i0.size = 6) (hz2 : i0.bytes = 40) (hgd : oo.guard = none) (s x : Operand)
    (ho : oo.op = .call { callee := .builtin .append, args := #[s, x], argTypes := #[31, 31] })
    (base : Nat) (v : Value) (xs : List EP) (hs : a.eval s = v) (hown : OwnE w base v xs) (vx : Value) (ys : List EP) (hx : a.eval x = vx) (hy : EntV w vx ys) (hl : xs.length + ys.length < 100000) (hbase : base ≤ w.heap.size)
    (h : ∀ v' w', w'.ownsRow base 62 6 v' (xs.length + ys.length) (flatE xs ++ flatE ys) → w.grownBy w' v.ownBlock → (v'.ownBlock = v.ownBlock ∨ v'.ownBlock = some w.heap.size) → wpList Tryz.prog ops Q rest (a.put oo.dst v') w') : wpList Tryz.prog ops Q (oo :: rest) a w := by
  rcases hy with hy | ⟨ad, c, rfl, rfl⟩
  · exact wpList_append_seeP hi0 hz0 hz1 hz2 hgd s x ho base v xs hs hown vx ys hx hy hl hbase h
  · exact wpList_append_own_at _ hgd s x 31 ho base 62 i0 _ 6 40 Tryz.underlying31 hi0 hz0 hz1 hz2 rfl (by decide) v xs.length (flatE xs) hs hown ad 0 c [] hx rfl (by simp) (by simp) (by simp at hl; unfold maxLen; omega) (by simp at hl; omega) hbase fun v' w' h1 h2 _ h4 => h v' w' (by simpa [flatE] using h1) h2 h4
theorem mayR_zero {A : Option Addr} {c : Nat} {w : World} : Calls Tryz.prog 22 #[.slice A 0 c] w fun e w' => e = .returned (.bool false) ∧ Below w.heap.size w w' := by
  go_enter Tryz.func22, Tryz.ntmps22
  go_wp2_with fail
  go_loopw [3] (fun j wr => j = .int .i64 0 ∧ wr = w) (fun _ _ => 0)
  case atStart => exact ⟨rfl, rfl⟩
  case round =>
    obtain ⟨rfl, rfl⟩ := hrel
    go_wp2_with fail
    go_ret
    exact ⟨rfl, Below.refl _ _⟩
theorem same_zero {A B : Option Addr} {c d : Nat} {w : World} : Calls Tryz.prog 8 #[.slice A 0 c, .slice B 0 d] w fun e w' => e = .returned (.bool true) ∧ Below w.heap.size w w' := by
  go_enter Tryz.func8, Tryz.ntmps8
  go_wp2_with fail
  go_loopw [5] (fun j wr => j = .int .i64 0 ∧ wr = w) (fun _ _ => 0)
  case atStart => exact ⟨rfl, rfl⟩
  case round =>
    obtain ⟨rfl, rfl⟩ := hrel
    go_wp2_with fail
    go_ret
    exact ⟨rfl, Below.refl _ _⟩
theorem mayRV {A : Option Addr} {n c : Nat} {w : World} {g : List EP} (h : EntV w (.slice A n c) g) (hl : n < 100000) : Calls Tryz.prog 22 #[.slice A n c] w fun e w' => e = .returned (.bool (decide (mayE g))) ∧ Below w.heap.size w w' := by
  rcases h with h | ⟨a, c', e, rfl⟩
  · exact mayR_any h hl
  · injection e with e1 e2 e3
    subst e1 e2 e3
    rw [decide_eq_false (fun h : mayE [] => h.1 rfl)]
    exact mayR_zero
/-- A copy, and the list that it was made of. -/
theorem sameV {A B : Option Addr} {n c d : Nat} {w : World} {g : List EP} (hx : SeeE w (.slice A n c) g) (hy : EntV w (.slice B n d) g) (hn : n < 100000) : Calls Tryz.prog 8 #[.slice A n c, .slice B n d] w fun e w' => e = .returned (.bool true) ∧ Below w.heap.size w w' := by
  rcases hy with h | ⟨a, c', e, rfl⟩
  · refine (same_any hx h hn).mono ?_
    rintro e w' ⟨rfl, hb⟩
    exact ⟨by simp, hb⟩
  · injection e with e1 e2 e3
    subst e1 e2 e3
    exact same_zero
section
variable {w : World} {g : List EP}
/-- The document's new Give, as it lies. -/
structure NewD (w : World) (K : Nat) (ln : Int) (g : List EP) (vv : Value) (X : World) : Prop where
  low : Below w.heap.size w X
  k : Bk K 80 (RD ⟨ln, [], g, 0, 0, 0, EP.zero⟩ (.slice none 0 0) vv) X
  old : w.heap.size ≤ K
  row : OwnE X w.heap.size vv g
theorem NewD.below {K : Nat} {ln : Int} {vv : Value} {X Y : World} (h : NewD w K ln g vv X) (hb : Below X.heap.size X Y) : NewD w K ln g vv Y := ⟨h.low.trans (hb.mono h.low.size), h.k.below hb, h.old, h.row.below hb⟩
theorem NewD.set {K : Nat} {ln l' : Int} {vv : Value} {X : World} (h : NewD w K ln g vv X) : NewD w K l' g vv (X.setCell ⟨K, 0, none⟩ (.int .i64 l')) := by
  have hK : Bq K 80 (RD ⟨ln, [], g, 0, 0, 0, EP.zero⟩ (.slice none 0 0) vv) X := h.k
  refine ⟨h.low.setCell (p := ⟨K, 0, none⟩) h.old _, h.k.set 0 _ rfl, h.old, h.row.same fun x hx => ?_⟩
  obtain ⟨_, cs, k⟩ := h.row.bq hx
  exact Below.heap_setCell X ⟨K, 0, none⟩ _ x (k.ne hK (by decide))
theorem NewD.cell {K : Nat} {ln : Int} {vv : Value} {X : World} (h : NewD w K ln g vv X) : X.cell? ⟨K, 0, none⟩ = some (.int .i64 ln) ∧ X.frozen? ⟨K, 0, none⟩ = false := ⟨h.k.c12.1, h.k.free 0⟩
set_option maxRecDepth 100000 in
set_option maxHeartbeats 8000000 in
theorem docNewG {A : Option Addr} {n c : Nat} (h : EntV w (.slice A n c) g) (hl : n < 100000) : Calls Tryz.prog 7 #[.slice A n c] w fun e w' => ∃ K vv, e = .returned (.pointer (some ⟨K, 0, none⟩)) ∧ NewD w K (newG g).ln g vv w' := by
  obtain ⟨i0, hi0, hz0, hz1, hz2⟩ := info_parts infoE
  have hn : n = g.length := h.len
  have HN := Lib.hid hn
  have HS := Lib.hid h
  have HLL := Lib.hid hl
  have hgl : g.length < 100000 := by omega
  have HGL := Lib.hid hgl
  clear h hn hl hgl
  go_enter Tryz.func7, Tryz.ntmps7
  go_upto_region 2 with (at_builtin; refine wpList_append_ent hi0 hz0 hz1 hz2 rfl (.const (.slice none 0 0)) (.tmp 4) rfl w.heap.size (.slice none 0 0) [] rfl (OwnE.nil _ _) (.slice A n c) g rfl HS.out (by have := HGL.out; simp; omega) (Nat.le_refl _) ?_; intro v' w1 h1 g1 _; rw [show ([] : List EP).length + g.length = g.length from Nat.zero_add _, show flatE ([] : List EP) ++ flatE g = flatE g from List.nil_append _] at h1; obtain ⟨A1, c1, rfl⟩ := ownsRow_form h1; have HR := Lib.hid (And.intro (show OwnE w1 w.heap.size (.slice A1 g.length c1) g from h1) (show Below w.heap.size w w1 from (Below.refl _ w).grown g1 (Nat.le_refl _) fun _ e => by cases e)); clear h1 g1)
  have HX := Lib.hid (show NewD w w1.heap.size 0 g (.slice A1 g.length c1) (w1.alloc (.cells #[.int .i64 0, .slice none 0 0, .slice A1 g.length c1, .int .i64 0, .int .u64 0, .int .i64 0, .int .i64 0, .int .u32 0, .bool false, .int .u64 0, .int .u64 0, .int .u64 0] 80)) from by
    have hA : Below w1.heap.size w1 (w1.alloc (.cells #[.int .i64 0, .slice none 0 0, .slice A1 g.length c1, .int .i64 0, .int .u64 0, .int .i64 0, .int .i64 0, .int .u32 0, .bool false, .int .u64 0, .int .u64 0, .int .u64 0] 80)) := (Below.refl _ _).alloc (Nat.le_refl _) _
    exact ⟨HR.out.2.trans (hA.mono HR.out.2.size), Bk.new w1 (RD ⟨0, [], g, 0, 0, 0, EP.zero⟩ (.slice none 0 0) (.slice A1 g.length c1)) _, HR.out.2.size, HR.out.1.below hA⟩)
  clear HR
  revert HX
  generalize (w1.alloc (.cells #[.int .i64 0, .slice none 0 0, .slice A1 g.length c1, .int .i64 0, .int .u64 0, .int .i64 0, .int .i64 0, .int .u32 0, .bool false, .int .u64 0, .int .u64 0, .int .u64 0] 80)) = X
  generalize w1.heap.size = K
  intro HX
  go_wp2_with fail
  ((with_reducible refine (mayRV (HS.out.below HX.out.low) HLL.out).mono ?_); rintro ee w4 ⟨rfl, hb4⟩)
  have HX4 := Lib.hid (HX.out.below hb4)
  clear HX hb4
  by_cases hm : mayE g
  · have HM := Lib.hid hm
    have hd := decide_eq_true hm
    rw [hd]
    obtain ⟨c0, z0⟩ := HX4.out.cell
    have HX5 := Lib.hid (HX4.out.set (l' := 1))
    obtain ⟨d0, y0⟩ := HX5.out.cell
    clear hm hd
    by_cases h1 : n = 1
    · have h1' : (n : Int) = 1 := by omega
      have HX6 := Lib.hid (HX5.out.set (l' := 2))
      have e0 : (newG g).ln = 2 := by unfold newG; dsimp only; rw [if_pos HM.out, if_pos (by have := HN.out; omega)]
      have HE0 := Lib.hid e0
      clear e0
      go_wp2_with fail
      go_ret
      exact ⟨K, _, rfl, by rw [HE0.out]; exact HX6.out⟩
    · have h1' : ((n : Int) == 1) = false := beq_eq_false_iff_ne.2 (by omega)
      have h1'' : ¬ (n : Int) = 1 := by omega
      have e0 : (newG g).ln = 1 := by unfold newG; dsimp only; rw [if_pos HM.out, if_neg (by have := HN.out; omega)]
      have HE0 := Lib.hid e0
      clear e0
      go_wp2_with fail
      go_ret
      exact ⟨K, _, rfl, by rw [HE0.out]; exact HX5.out⟩
  · have hd := decide_eq_false hm
    rw [hd]
    have e0 : (newG g).ln = 0 := by unfold newG; dsimp only; rw [if_neg hm]
    have HE0 := Lib.hid e0
    clear hm hd e0
    go_wp2_with fail
    go_ret
    exact ⟨K, _, rfl, by rw [HE0.out]; exact HX4.out⟩
end
end Go.Proofs.YtjpanofkikfeoaaGreatDoor
