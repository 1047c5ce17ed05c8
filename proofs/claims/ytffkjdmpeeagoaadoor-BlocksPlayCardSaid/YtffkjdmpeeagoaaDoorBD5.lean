/-
  What the law BlocksPlay holds between two acts: both memories, the pair's box, the row of operations, each operation and the document's; condition: all lies as it says.
  What the law BlocksPlay asks of a pair of memories, and of new operations; a step of whichever; condition: all lies as it says.
  A new operation of the law's, in its box; condition: all lies as it says.
-/
import Derived.Test.YtffkjdmpeeagoaaDoorBD4
import Derived.OwnWalk
import Derived.Laws.OwnMore
import Derived.Test.YtffkjdmpeeagoaaDoorD4w
import Derived.Test.YtffkjdmpeeagoaaDoorD6
import Derived.Maps.AppendAt
namespace Go.Proofs.YtffkjdmpeeagoaaDoor
open Go.RowKit Go.Maps

def JO.cells (x : JO) : List Value := match x.kd with
  | 0 => [.pointer (some ⟨x.q, 0, none⟩), .pointer none, .pointer (some ⟨x.K, 0, none⟩)]
  | _ => [.pointer none, .pointer (some ⟨x.q, 0, none⟩), .pointer (some ⟨x.K, 0, none⟩)]
theorem JO.cells_len (x : JO) : x.cells.length = 3 := by unfold JO.cells; split <;> rfl
def flatJ (l : List JO) : List Value := l.flatMap JO.cells
theorem flatJ_len (l : List JO) : (flatJ l).length = l.length * 3 := by
  induction l with
  | nil => rfl
  | cons x r ih => simp only [flatJ, List.flatMap_cons, List.length_append, List.length_cons] at ih ⊢; rw [ih, JO.cells_len]; omega
theorem flatJ_at (l : List JO) : ∀ (i j : Nat) (x : JO), l[i]? = some x → j < 3 → (flatJ l)[i * 3 + j]? = x.cells[j]? := by
  induction l with
  | nil => intro i j x hi; simp at hi
  | cons y r ih =>
    intro i j x hi hj
    cases i with
    | zero =>
      simp only [List.getElem?_cons_zero, Option.some.injEq] at hi
      subst hi
      simp only [flatJ, List.flatMap_cons, Nat.zero_mul, Nat.zero_add]
      rw [List.getElem?_append_left (by rw [JO.cells_len]; exact hj)]
    | succ i =>
      simp only [List.getElem?_cons_succ] at hi
      have h := ih i j x hi hj
      simp only [flatJ, List.flatMap_cons] at h ⊢
      rw [List.getElem?_append_right (by rw [JO.cells_len]; omega), ← h, JO.cells_len]
      congr 1
      omega
theorem flatJ_push (l : List JO) (x : JO) : flatJ (l ++ [x]) = flatJ l ++ x.cells := by simp [flatJ]
theorem flatJ_set (l : List JO) : ∀ (k : Nat) (x x' : JO), l[k]? = some x → x'.cells = x.cells → flatJ (l.set k x') = flatJ l := by
  induction l with
  | nil => intro k x x' h; simp at h
  | cons y r ih =>
    intro k x x' h he
    cases k with
    | zero =>
      simp only [List.getElem?_cons_zero, Option.some.injEq] at h
      subst h
      simp only [flatJ, List.set_cons_zero, List.flatMap_cons, he]
    | succ k =>
      simp only [List.getElem?_cons_succ] at h
      have := ih k x x' h he
      simp only [flatJ, List.set_cons_succ, List.flatMap_cons] at this ⊢
      rw [this]
theorem cellsJ_one (x : JO) : ∀ u ∈ x.cells, u.oneCell' = true := by
  intro u hu
  unfold JO.cells at hu
  split at hu <;> simp at hu <;> rcases hu with rfl | rfl | rfl <;> rfl
theorem JO.sub_cells {x x' : JO} {n : Nat} (h : x.sub x' n) : x'.cells = x.cells := by
  obtain ⟨h1, h2, h3, _⟩ := h
  unfold JO.cells
  rw [h1, h2, h3]
/-- Between two acts. -/
structure PS (W : World) (p m b T0 c : Nat) (rows : List JO) (v : Value) (w : World) : Prop where
  both : Both p m b c w
  lay : Lay w
  laym : LayM w
  low : Below W.heap.size W w
  mW : W.heap.size ≤ m
  box : Bq T0 28 [.pointer (some ⟨p, 0, none⟩), .pointer (some ⟨b, 0, none⟩)] w
  row : w.ownsRow W.heap.size 46 3 v rows.length (flatJ rows)
  ops : ∀ (i : Nat) (x : JO), rows[i]? = some x → JAt W.heap.size x w
  sep : ∀ (i j : Nat) (x y : JO), rows[i]? = some x → rows[j]? = some y → i ≠ j → ∀ z ∈ x.fp, z ∉ y.fp
section
variable {W : World} {p m b T0 c c' : Nat} {rows : List JO} {v : Value} {w w' : World} {x y : JO} {E : List Nat}
theorem Both.parts (h : Both p m b c w) : ∃ n D s L, Pr p m b n D s L s w := by
  obtain ⟨n, D, s, L, hP, _⟩ := h
  exact ⟨n, D, s, L, hP⟩
theorem own_fxl (h : Both p m b c w) (f : FxL W.heap.size p b E w w') (ho : ∀ y ∈ x.fp, OwnX W.heap.size y w) {z : Nat} (hz : z ∈ x.fp) (hE : z ∉ E) : w'.heap[z]? = w.heap[z]? := by
  obtain ⟨n, D, s, L, P⟩ := h.parts
  exact (ho z hz).fxl (M := ⟨vals L, s⟩) P f hE
theorem bx_fxl {z : Nat} {t : TypeId} {cs : List Value} (h : Both p m b c w) (f : FxL W.heap.size p b E w w') (hz : Bq z t cs w) (ht : isBx t = true) (hE : z ∉ E) : Bq z t cs w' := by
  obtain ⟨n, D, s, L, P⟩ := h.parts
  obtain ⟨⟨cp, kp⟩, ⟨cb, kb⟩, _⟩ := Pr.blocks (M := ⟨vals L, s⟩) P
  obtain ⟨t1, t3, t4, t5⟩ := isBx_no ht
  exact f.far z _ _ _ hz t3 (hz.ne kp t4) (hz.ne kb t5) hE
theorem own_noBx {z : Nat} {t : TypeId} {cs : List Value} (ho : ∀ y ∈ x.fp, OwnX W.heap.size y w) (hz : Bq z t cs w) (ht : isBx t = true) : z ∉ x.fp := fun hx => (ho z hx).ne hz (isBx_no ht).1 rfl
theorem row_same {n : Nat} {xs : List Value} (h : w.ownsRow W.heap.size 46 3 v n xs) (hs : ∀ z cs, Bq z 46 cs w → Bq z 46 cs w') : w'.ownsRow W.heap.size 46 3 v n xs := by
  refine ⟨h.1, ?_⟩
  rcases h.2 with h2 | ⟨g, cap, cur, hv, hg, hh, r⟩
  · exact .inl h2
  · have := hs g cur.toList (by unfold Bq; simpa using hh)
    unfold Bq at this
    exact .inr ⟨g, cap, cur, hv, hg, by simpa using this, r⟩
/-- What turns no operation's blocks. -/
theorem PS.fxl0 (P : PS W p m b T0 c rows v w) (hW : 1 < W.heap.size) (f : FxL W.heap.size p b [] w w') (hb : Both p m b c' w') : PS W p m b T0 c' rows v w' :=
  ⟨hb, f.lay hW P.lay, f.laym hW P.laym, P.low.trans f.low, P.mW, bx_fxl P.both f P.box (by decide) (by simp), row_same P.row fun _ _ k => bx_fxl P.both f k (by decide) (by simp), fun i x hx => (P.ops i x hx).same fun z hz => own_fxl P.both f (P.ops i x hx).own hz (by simp), P.sep⟩
theorem PS.below (P : PS W p m b T0 c rows v w) (hb : Below w.heap.size w w') : PS W p m b T0 c rows v w' :=
  ⟨P.both.below hb, P.lay.below hb, P.laym.below hb, P.low.trans (hb.mono P.low.size), P.mW, P.box.below hb, row_same P.row fun _ _ k => k.below hb, fun i x hx => (P.ops i x hx).below hb, P.sep⟩
theorem PS.mono (P : PS W p m b T0 c rows v w) (hc : c ≤ c') : PS W p m b T0 c' rows v w := ⟨P.both.mono hc, P.lay, P.laym, P.low, P.mW, P.box, P.row, P.ops, P.sep⟩
/-- A step of one of them. -/
theorem PS.step (P : PS W p m b T0 c rows v w) (hW : 1 < W.heap.size) {k : Nat} {x' : JO} (hx : rows[k]? = some x) (f : FxL W.heap.size p b x.fp w w') (hb : Both p m b c' w') (hs : x.sub x' w.heap.size) (hJ : JAt W.heap.size x' w') : PS W p m b T0 c' (rows.set k x') v w' := by
  have hk : k < rows.length := (List.getElem?_eq_some_iff.1 hx).1
  have hl : ∀ (i : Nat) (y : JO), rows[i]? = some y → ∀ z ∈ y.fp, z < w.heap.size := fun i y hy z hz => ((P.ops i y hy).own z hz).lt
  have hset : ∀ (i : Nat) (y : JO), (rows.set k x')[i]? = some y → (i = k ∧ y = x') ∨ (i ≠ k ∧ rows[i]? = some y) := fun i y hy => by
    rw [List.getElem?_set] at hy
    by_cases e : k = i
    · subst e
      rw [if_pos rfl, if_pos hk] at hy
      exact .inl ⟨rfl, (Option.some.inj hy).symm⟩
    · rw [if_neg e] at hy
      exact .inr ⟨fun h => e h.symm, hy⟩
  refine ⟨hb, f.lay hW P.lay, f.laym hW P.laym, P.low.trans f.low, P.mW, bx_fxl P.both f P.box (by decide) (own_noBx (P.ops k x hx).own P.box (by decide)), ?_, fun i y hy => ?_, fun i j y z hy hz hij u hu => ?_⟩
  · rw [List.length_set, flatJ_set rows k x x' hx (JO.sub_cells hs)]
    exact row_same P.row fun z cs kz => bx_fxl P.both f kz (by decide) (own_noBx (P.ops k x hx).own kz (by decide))
  · rcases hset i y hy with ⟨_, rfl⟩ | ⟨hik, hy⟩
    · exact hJ
    · exact (P.ops i y hy).same fun z hz => own_fxl P.both f (P.ops i y hy).own hz (P.sep i k y x hy hx hik z hz)
  · rcases hset i y hy with ⟨e1, e2⟩ | ⟨hik, hy1⟩
    · rcases hset j z hz with ⟨e3, _⟩ | ⟨hjk, hz1⟩
      · omega
      · intro h
        rw [e2] at hu
        rcases hs.2.2.2 u hu with h1 | h1
        · exact P.sep k j x z hx hz1 (Ne.symm hjk) u h1 h
        · have := hl j z hz1 u h; omega
    · rcases hset j z hz with ⟨e1, e2⟩ | ⟨hjk, hz1⟩
      · intro h
        rw [e2] at h
        rcases hs.2.2.2 u h with h1 | h1
        · exact P.sep k i x y hx hy1 (Ne.symm hik) u h1 hu
        · have := hl i y hy1 u hu; omega
      · exact P.sep i j y z hy1 hz1 hij u hu
/-- One more. -/
theorem PS.push {n0 : Nat} (P : PS W p m b T0 c rows v w) (hW : 1 < W.heap.size) {v' : Value} (ho : w'.ownsRow W.heap.size 46 3 v' (rows.length + 1) (flatJ rows ++ x.cells)) (hg : w.grownBy w' v.ownBlock) (hJ : JAt W.heap.size x w) (hn : ∀ z ∈ x.fp, n0 ≤ z) (hr : ∀ (i : Nat) (y : JO), rows[i]? = some y → ∀ z ∈ y.fp, z < n0) :
    PS W p m b T0 c (rows ++ [x]) v' w' := by
  have key : ∀ z o, w.heap[z]? = some o → (∀ cs, o ≠ Obj.cells cs 46 (0, 0)) → w'.heap[z]? = some o := fun z o hz hne => by
    refine (hg.block z (Array.getElem?_eq_some_iff.1 hz).1 fun e => ?_).trans hz
    rcases P.row.2 with ⟨hv, _⟩ | ⟨g, cap, cur, hv, _, hh, _⟩
    · rw [hv] at e; cases e
    · rw [hv] at e
      simp only [Value.ownBlock, Option.some.injEq] at e
      rw [e, hh] at hz
      injection hz with hz
      exact hne cur hz.symm
  have kc : ∀ {z : Nat} {cs : Array Value} {t : TypeId}, w.heap[z]? = some (Obj.cells cs t (0, 0)) → t ≠ 46 → w'.heap[z]? = some (Obj.cells cs t (0, 0)) := fun {z cs t} hz ht => key z _ hz fun cs' e => by
    injection e with _ e
    exact ht e
  have kJ : ∀ {y : JO}, JAt W.heap.size y w → JAt W.heap.size y w' := fun {y} J => J.same fun z hz => by
    obtain ⟨_, t, cs, k, ht⟩ := J.own z hz
    exact (kc k (by rintro rfl; revert ht; decide)).trans k.symm
  have hl : Below W.heap.size w w' := ⟨hg.os, hg.tape, hg.output, hg.size, fun k hk => hg.block k (Nat.lt_of_lt_of_le hk P.low.size) fun e => by have := (P.row.lt k e.symm).1; omega⟩
  have happ : ∀ (i : Nat) (y : JO), (rows ++ [x])[i]? = some y → rows[i]? = some y ∨ (i = rows.length ∧ y = x) := fun i y hy => by
    rcases Nat.lt_or_ge i rows.length with h | h
    · rw [List.getElem?_append_left h] at hy
      exact .inl hy
    · rw [List.getElem?_append_right h] at hy
      have hi : i - rows.length < 1 := by have := (List.getElem?_eq_some_iff.1 hy).1; simpa using this
      have hz : i - rows.length = 0 := by omega
      rw [hz] at hy
      exact .inr ⟨by omega, (Option.some.inj hy).symm⟩
  refine ⟨?_, P.lay.same3 hl.size (hl.block 0 (by omega)), P.laym.same hl.size (hl.block 1 (by omega)), P.low.trans hl, P.mW, kc P.box (by decide), by rw [flatJ_push, List.length_append]; exact ho, fun i y hy => ?_, fun i j y z hy hz hij u hu h => ?_⟩
  · obtain ⟨n, D, s, L, hP, h2⟩ := P.both
    obtain ⟨u, hr⟩ := hP.ref
    obtain ⟨es, k, hm⟩ := hP.prog.map_at
    refine ⟨n, D, s, L, ⟨hP.prog.keep ((kc hP.prog.blk (by decide)).trans hP.prog.blk.symm) ((key _ _ hm (fun cs e => by cases e)).trans hm.symm), ⟨u, kc hr.blk (by decide), ⟨hr.own.1, ?_⟩, hr.pos⟩, hP.mp, hP.pb⟩, h2⟩
    rcases hr.own.2 with hn | ⟨g, cap, cur, hv, hB, hh, rest⟩
    · exact .inl hn
    · exact .inr ⟨g, cap, cur, hv, hB, kc hh (by decide), rest⟩
  · rcases happ i y hy with hy | ⟨_, rfl⟩
    · exact kJ (P.ops i y hy)
    · exact kJ hJ
  · rcases happ i y hy with hy1 | ⟨e1, e2⟩
    · rcases happ j z hz with hz1 | ⟨e3, e4⟩
      · exact P.sep i j y z hy1 hz1 hij u hu h
      · rw [e4] at h
        have := hr i y hy1 u hu
        have := hn u h
        omega
    · rcases happ j z hz with hz1 | ⟨e3, e4⟩
      · rw [e2] at hu
        have := hr j z hz1 u h
        have := hn u hu
        omega
      · omega
theorem PS.old (P : PS W p m b T0 c rows v w) {n0 : Nat} (hn : w.heap.size ≤ n0) : ∀ (i : Nat) (y : JO), rows[i]? = some y → ∀ z ∈ y.fp, z < n0 := fun i y hy z hz => Nat.lt_of_lt_of_le ((P.ops i y hy).own z hz).lt hn
theorem PS.boxes (P : PS W p m b T0 c rows v w) : w.cell? ⟨T0, 0, none⟩ = some (.pointer (some ⟨p, 0, none⟩)) ∧ w.cell? ⟨T0, 1, none⟩ = some (.pointer (some ⟨b, 0, none⟩)) := P.box.cells2
theorem PS.grown_blk (P : PS W p m b T0 c rows v w) (hg : w.grownBy w' v.ownBlock) {X : Nat} {cs : List Value} {t : TypeId} (h : Bq X t cs w) (ht : t ≠ 46) : Bq X t cs w' := by
  refine (hg.block X h.lt fun e => ?_).trans h
  rcases P.row.2 with ⟨hv, _⟩ | ⟨g, cap, cur, hv, _, hh, _⟩
  · rw [hv] at e; cases e
  · rw [hv] at e
    simp only [Value.ownBlock, Option.some.injEq] at e
    rw [e] at h
    have kg : Bq g 46 cur.toList w := by unfold Bq; simpa using hh
    exact ht (bq_type h kg)
/-- The operation that the law picks. -/
theorem PS.pick {g' M c' k : Nat} (P : PS W p m b T0 c rows (.slice (some ⟨g', 0, none⟩) M c') w) (hM : rows.length = M) (hk : k < M) :
    ∃ x cs, rows[k]? = some x ∧ Bq g' 46 cs w ∧ ∀ j : Nat, j < 3 → w.cell? ⟨g', k * 3 + j, none⟩ = x.cells[j]? := by
  have hkl : k < rows.length := by omega
  have hrow := P.row
  rw [hM] at hrow
  have hx : rows[k]? = some rows[k] := List.getElem?_eq_getElem hkl
  rcases P.row.2 with ⟨hv, _⟩ | ⟨g, cap, cur, hv, _, hh, _⟩
  · cases hv
  · injection hv with h1 _ _
    injection h1 with h1
    injection h1 with h1
    subst h1
    exact ⟨_, cur.toList, hx, by unfold Bq; simpa using hh, fun j hj => (hrow.cellAt (k * 3 + j) (by omega)).trans (flatJ_at rows k j _ hx hj)⟩
end
end Go.Proofs.YtffkjdmpeeagoaaDoor
namespace Go.Proofs.YtffkjdmpeeagoaaDoor
open Go.RowKit Go.Maps

theorem infoJ : (Tryd.prog.info? 46).map (fun i => (i.zero, i.size, i.bytes)) = some (some (.agg #[.pointer none, .pointer none, .pointer none]), 3, 24) := by kernel_rfl
section
variable {p m b c : Nat} {w : World}
theorem both_words (h : Both p m b c w) (hc : c ≤ 900) : Calls Tryd.prog 16 #[.agg #[.pointer (some ⟨p, 0, none⟩), .pointer (some ⟨b, 0, none⟩)]] w fun e W' => e = .returned (.bool true) ∧ Below w.heap.size w W' := by
  obtain ⟨n, D, s, L, hP, hr, hL, _⟩ := h
  exact pair_words hP hr (by omega)
theorem both_store (h : Both p m b c w) (hl : LayM w) (hc : c ≤ 900) (x : Ad) (v : Int) (hv : (Lit.int .u64 v).wf = true) :
    Calls Tryd.prog 13 #[.agg #[.pointer (some ⟨p, 0, none⟩), .pointer (some ⟨b, 0, none⟩)], .agg #[.int .u8 x.k, .int .i64 x.a, .int .i64 x.f, .int .u64 v]] w fun e W' => e = .returned (.tuple #[]) ∧ Both p m b (c + 1) W' ∧ Fr p m b w W' := by
  obtain ⟨n, D, s, L, hP, hr, hL, hn, h0, h1⟩ := h
  refine (pair_store2 x v hv hP hr hl h0 (by omega) (by omega) (by omega)).mono ?_
  rintro e W' ⟨rfl, hP', hf⟩
  have := storeA_len L x v
  exact ⟨rfl, ⟨_, _, _, _, hP', hr.store x v, by omega, by show ((n + 1 : Nat) : Int) ≤ s.st + 1; omega, by show 0 ≤ s.st + 1; omega, by show s.st + 1 ≤ _; push_cast; omega⟩, hf⟩
end
section
variable {B n q K x : Nat} {w w' : World}
theorem OwnX.mono (h : OwnX n x w) (hB : B ≤ n) : OwnX B x w := ⟨Nat.le_trans hB h.1, h.2⟩
end
theorem newM_own (w : World) : Calls Tryd.prog 10 #[] w fun e w' => ∃ q, e = .returned (.pointer (some ⟨q, 0, none⟩)) ∧ KRep q (newB false) w' ∧ OwnX w.heap.size q w' ∧ Below w.heap.size w w' := by
  refine (newMore_all w).mono ?_
  rintro e w' ⟨q, rfl, h1, R, hb⟩
  exact ⟨q, rfl, R, R.ownX h1, hb⟩
theorem newS_own (w : World) : Calls Tryd.prog 12 #[] w fun e w' => ∃ q, e = .returned (.pointer (some ⟨q, 0, none⟩)) ∧ KRep q (newB true) w' ∧ OwnX w.heap.size q w' ∧ Below w.heap.size w w' := by
  refine (newLess_all w).mono ?_
  rintro e w' ⟨q, rfl, h1, R, hb⟩
  exact ⟨q, rfl, R, R.ownX h1, hb⟩
theorem refB_all (lv : Bool) (w : World) : Calls Tryd.prog 11 #[.bool lv] w fun e w' => ∃ K, e = .returned (.pointer (some ⟨K, 0, none⟩)) ∧ Bk K 99 (newB lv).cells w' ∧ OwnX w.heap.size K w' ∧ Below w.heap.size w w' := by
  refine (newR lv w).mono ?_
  rintro e w' ⟨K, rfl, h1, k, hb⟩
  exact ⟨K, rfl, k, ⟨h1, _, _, show Bq K 99 _ w' from k, by decide⟩, hb⟩
section
variable {B p m b c : Nat} {x : JO} {w : World}
/-- A step of whichever. -/
theorem op_any (hB : 1 < B) (hBm : B ≤ m) (hBw : B ≤ w.heap.size) (hc : c ≤ 900) (hb : Both p m b c w) (hl : Lay w) (hlm : LayM w) (J : JAt B x w) :
    Calls Tryd.prog 14 #[.agg x.cells.toArray, .agg #[.pointer (some ⟨p, 0, none⟩), .pointer (some ⟨b, 0, none⟩)]] w (StepS B p m b c x w) := by
  obtain ⟨o, h⟩ := J
  rcases h.2.1 with ⟨hk, _⟩ | ⟨hk, _⟩
  · have e : x.cells = [.pointer (some ⟨x.q, 0, none⟩), .pointer none, .pointer (some ⟨x.K, 0, none⟩)] := by unfold JO.cells; rw [hk]; rfl
    rw [e]; exact op_more hB hBm hBw hc hb hl hlm h hk
  · have e : x.cells = [.pointer none, .pointer (some ⟨x.q, 0, none⟩), .pointer (some ⟨x.K, 0, none⟩)] := by unfold JO.cells; rw [hk]; rfl
    rw [e]; exact op_less hB hBm hBw hc hb hl hlm h hk
end
end Go.Proofs.YtffkjdmpeeagoaaDoor
namespace Go.Proofs.YtffkjdmpeeagoaaDoor
open Go.RowKit Go.Maps

/-- The program's new operation and the document's, and the box that names both. -/
structure NewBox (B : Nat) (w : World) (kd : Nat) (cs : List Value) (T q K : Nat) (X : World) : Prop where
  low : Below w.heap.size w X
  old : w.heap.size ≤ T
  box : Bq T 46 cs X
  jo : JAt B ⟨kd, q, K⟩ X ∧ ∀ z ∈ JO.fp ⟨kd, q, K⟩, w.heap.size ≤ z
section
variable {B n kd T q K : Nat} {o : BO} {w w3 w4 X Y : World}
theorem jo_new (ok : BNum o) (hk : (kd = 0 ∧ o.lv = false) ∨ (kd = 1 ∧ o.lv = true)) (hB : B ≤ n) (R : KRep q o w3) (oq : OwnX n q w3) (hb : Below w3.heap.size w3 Y) (D : Bk K 99 o.cells w4) (oK : OwnX Y.heap.size K w4) (hb4 : Below Y.heap.size Y w4) :
    JAt B ⟨kd, q, K⟩ w4 ∧ ∀ z ∈ JO.fp ⟨kd, q, K⟩, n ≤ z := by
  have h1 := oq.lt
  have h2 := oq.1
  have h3 := hb.size
  have h4 := oK.1
  have hs : w4.heap[q]? = w3.heap[q]? := (hb4.block q (by omega)).trans (hb.block q h1)
  refine ⟨⟨o, ok, hk, R.same hs, D, by show B ≤ q; omega, by show B ≤ K; omega⟩, fun z hz => ?_⟩
  simp only [JO.fp, List.mem_cons, List.not_mem_nil, or_false] at hz
  rcases hz with rfl | rfl
  · omega
  · omega
theorem alloc_le9 (o : Obj) (h : n ≤ w3.heap.size.succ) : n ≤ (w3.alloc o).heap.size := by simpa using h
theorem zBox (w : World) : Bq w.heap.size 46 [.pointer none, .pointer none, .pointer none] (w.alloc (.cells #[.pointer none, .pointer none, .pointer none] 46)) := Bq.new w [.pointer none, .pointer none, .pointer none] _
theorem box_set {a b c : Value} (HB : Below w.heap.size w w4) (hT : w.heap.size ≤ T) (HZ : Bq T 46 [.pointer none, .pointer none, .pointer none] w4) (J : JAt B ⟨kd, q, K⟩ w4 ∧ ∀ z ∈ JO.fp ⟨kd, q, K⟩, w.heap.size ≤ z) :
    (w4.cell? ⟨T, 0, none⟩ = some (.pointer none) ∧ w4.cell? ⟨T, 1, none⟩ = some (.pointer none) ∧ w4.cell? ⟨T, 2, none⟩ = some (.pointer none) ∧ w4.frozen? ⟨T, 0, none⟩ = false ∧ w4.frozen? ⟨T, 1, none⟩ = false ∧ w4.frozen? ⟨T, 2, none⟩ = false) ∧
    Hid (NewBox B w kd [a, b, c] T q K (((w4.setCell ⟨T, 0, none⟩ a).setCell ⟨T, 1, none⟩ b).setCell ⟨T, 2, none⟩ c)) ∧
    ∀ (X : Nat) (t : TypeId) (cs : List Value), Bq X t cs w4 → t ≠ 46 → Bq X t cs (((w4.setCell ⟨T, 0, none⟩ a).setCell ⟨T, 1, none⟩ b).setCell ⟨T, 2, none⟩ c) := by
  obtain ⟨J, hP⟩ := J
  have far : ∀ y, y ≠ T → (((w4.setCell ⟨T, 0, none⟩ a).setCell ⟨T, 1, none⟩ b).setCell ⟨T, 2, none⟩ c).heap[y]? = w4.heap[y]? := fun y hy => ((Below.heap_setCell _ ⟨T, 2, none⟩ c y hy).trans (Below.heap_setCell _ ⟨T, 1, none⟩ b y hy)).trans (Below.heap_setCell _ ⟨T, 0, none⟩ a y hy)
  refine ⟨⟨HZ.cell 0, HZ.cell 1, HZ.cell 2, HZ.free 0, HZ.free 1, HZ.free 2⟩, Lib.hid ⟨((HB.setCell (p := ⟨T, 0, none⟩) hT a).setCell (p := ⟨T, 1, none⟩) hT b).setCell (p := ⟨T, 2, none⟩) hT c, hT, ((HZ.set 0 a rfl).set 1 b rfl).set 2 c rfl, J.same fun y hy => far y ((J.own y hy).ne HZ rfl), hP⟩, fun X t cs k ht => k.same (far X (k.ne HZ ht))⟩
theorem box_new {a b c : Value} (HB : Below w.heap.size w w4) (J : JAt B ⟨kd, q, K⟩ w4 ∧ ∀ z ∈ JO.fp ⟨kd, q, K⟩, w.heap.size ≤ z) :
    Hid (NewBox B w kd [a, b, c] w4.heap.size q K (w4.alloc (.cells #[a, b, c] 46))) := by
  obtain ⟨J, hP⟩ := J
  exact Lib.hid ⟨HB.alloc HB.size _, HB.size, Bq.new w4 [a, b, c] _, J.below ((Below.refl _ _).alloc (Nat.le_refl _) _), hP⟩
theorem bl_al9 (h : Below w.heap.size w X) (o : Obj) : Below w.heap.size w (X.alloc o) := h.alloc h.size o
theorem bq_al9 {x : Nat} {t : TypeId} {cs : List Value} (k : Bq x t cs X) (o : Obj) : Bq x t cs (X.alloc o) := k.below ((Below.refl _ _).alloc (Nat.le_refl _) o)
theorem bl_to9 (h : Below w.heap.size w X) (k : Below X.heap.size X Y) : Below w.heap.size w Y := h.trans (k.mono h.size)
end
theorem act_w {X : Nat} {t : TypeId} {v0 v3 v4 v5 v6 : Value} {wh : Int} {w : World} (k : Bq X t [v0, .int .u64 wh, v3, v4, v5, v6] w) : w.cell? ⟨X, 1, none⟩ = some (.int .u64 wh) := k.cell 1
end Go.Proofs.YtffkjdmpeeagoaaDoor
