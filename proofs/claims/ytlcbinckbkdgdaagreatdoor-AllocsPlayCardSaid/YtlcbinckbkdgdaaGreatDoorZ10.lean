/-
  What the law AllocsPlay holds between two acts: both memories, the pair's box, the row of operations, each operation and the document's; condition: all lies as it says.
  What the law AllocsPlay asks of a pair of memories, and of new operations; condition: all lies as it says.
  The law's acts as an argument; no condition.
-/
import Derived.Test.YtlcbinckbkdgdaaGreatDoorZ6
import Derived.OwnWalk
import Derived.Laws.OwnMore
import Derived.Test.YtlcbinckbkdgdaaGreatDoorD4w
import Derived.Test.YtlcbinckbkdgdaaGreatDoorD6
import Derived.Maps.AppendAt
import Derived.Test.YtlcbinckbkdgdaaGreatDoorFSto
namespace Go.Proofs.YtlcbinckbkdgdaaGreatDoor
open Go.RowKit Go.Maps

def JO.cells (x : JO) : List Value := match x.kd with
  | 0 => [.pointer (some ⟨x.q, 0, none⟩), .pointer none, .pointer none, .pointer (some ⟨x.K, 0, none⟩), .pointer none, .pointer none]
  | 1 => [.pointer none, .pointer (some ⟨x.q, 0, none⟩), .pointer none, .pointer none, .pointer (some ⟨x.K, 0, none⟩), .pointer none]
  | _ => [.pointer none, .pointer none, .pointer (some ⟨x.q, 0, none⟩), .pointer none, .pointer none, .pointer (some ⟨x.K, 0, none⟩)]
theorem JO.cells_len (x : JO) : x.cells.length = 6 := by unfold JO.cells; split <;> rfl
def flatJ (l : List JO) : List Value := l.flatMap JO.cells
theorem flatJ_len (l : List JO) : (flatJ l).length = l.length * 6 := by
  induction l with
  | nil => rfl
  | cons x r ih => simp only [flatJ, List.flatMap_cons, List.length_append, List.length_cons] at ih ⊢; rw [ih, JO.cells_len]; omega
theorem flatJ_at (l : List JO) : ∀ (i j : Nat) (x : JO), l[i]? = some x → j < 6 → (flatJ l)[i * 6 + j]? = x.cells[j]? := by
  induction l with
  | nil => intro i j x hi; simp at hi
  | cons y r ih =>
    intro i j x hi hj
    cases i with
    | zero =>
      simp only [List.getElem?_cons_zero, Option.some.injEq] at hi
      subst hi
      simp only [flatJ, List.flatMap_cons, Nat.zero_mul, Nat.zero_add]
      rw [List.getElem?_append_left (by rw [JO.cells_len]; exact hj)]
    | succ i =>
      simp only [List.getElem?_cons_succ] at hi
      have h := ih i j x hi hj
      simp only [flatJ, List.flatMap_cons] at h ⊢
      rw [List.getElem?_append_right (by rw [JO.cells_len]; omega), ← h, JO.cells_len]
      congr 1
      omega
theorem flatJ_push (l : List JO) (x : JO) : flatJ (l ++ [x]) = flatJ l ++ x.cells := by simp [flatJ]
theorem flatJ_set (l : List JO) : ∀ (k : Nat) (x x' : JO), l[k]? = some x → x'.cells = x.cells → flatJ (l.set k x') = flatJ l := by
  induction l with
  | nil => intro k x x' h; simp at h
  | cons y r ih =>
    intro k x x' h he
    cases k with
    | zero =>
      simp only [List.getElem?_cons_zero, Option.some.injEq] at h
      subst h
      simp only [flatJ, List.set_cons_zero, List.flatMap_cons, he]
    | succ k =>
      simp only [List.getElem?_cons_succ] at h
      have := ih k x x' h he
      simp only [flatJ, List.set_cons_succ, List.flatMap_cons] at this ⊢
      rw [this]
theorem cellsJ_one (x : JO) : ∀ u ∈ x.cells, u.oneCell' = true := by
  intro u hu
  unfold JO.cells at hu
  split at hu <;> simp at hu <;> rcases hu with rfl | rfl | rfl | rfl | rfl | rfl <;> rfl
theorem JO.sub_cells {x x' : JO} {n : Nat} (h : x.sub x' n) : x'.cells = x.cells := by
  obtain ⟨h1, h2, h3, _⟩ := h
  unfold JO.cells
  rw [h1, h2, h3]
/-- Between two acts. -/
structure PS (W : World) (p m b T0 c : Nat) (rows : List JO) (v : Value) (w : World) : Prop where
  both : Both p m b c w
  lay : Lay w
  laym : LayM w
  low : Below W.heap.size W w
  mW : W.heap.size ≤ m
  box : Bq T0 28 [.pointer (some ⟨p, 0, none⟩), .pointer (some ⟨b, 0, none⟩)] w
  row : w.ownsRow W.heap.size 49 6 v rows.length (flatJ rows)
  ops : ∀ (i : Nat) (x : JO), rows[i]? = some x → JAt W.heap.size x w
  sep : ∀ (i j : Nat) (x y : JO), rows[i]? = some x → rows[j]? = some y → i ≠ j → ∀ z ∈ x.fp, z ∉ y.fp
section
variable {W : World} {p m b T0 c c' : Nat} {rows : List JO} {v : Value} {w w' : World} {x y : JO} {E : List Nat}
theorem Both.parts (h : Both p m b c w) : ∃ n D s L, Pr p m b n D s L s w := by
  obtain ⟨n, D, s, L, hP, _⟩ := h
  exact ⟨n, D, s, L, hP⟩
theorem own_fxl (h : Both p m b c w) (f : FxL W.heap.size p b E w w') (ho : x.own W.heap.size w) {z : Nat} (hz : z ∈ x.fp) (hE : z ∉ E) : w'.heap[z]? = w.heap[z]? := by
  obtain ⟨n, D, s, L, P⟩ := h.parts
  rcases JO.own_fp ho hz with h | h
  · exact h.fxl (M := ⟨vals L, s⟩) P f hE
  · exact h.fxl (M := ⟨vals L, s⟩) P f hE
theorem bx_fxl {z : Nat} {t : TypeId} {cs : List Value} (h : Both p m b c w) (f : FxL W.heap.size p b E w w') (hz : Bq z t cs w) (ht : isBx t = true) (hE : z ∉ E) : Bq z t cs w' := by
  obtain ⟨n, D, s, L, P⟩ := h.parts
  obtain ⟨⟨cp, kp⟩, ⟨cb, kb⟩, _⟩ := Pr.blocks (M := ⟨vals L, s⟩) P
  obtain ⟨t1, t2, t3, t4, t5⟩ := isBx_no ht
  exact f.far z _ _ _ hz t3 (hz.ne kp t4) (hz.ne kb t5) hE
theorem own_noBx {z : Nat} {t : TypeId} {cs : List Value} (ho : x.own W.heap.size w) (hz : Bq z t cs w) (ht : isBx t = true) : z ∉ x.fp := fun hx => by
  obtain ⟨t1, t2, _⟩ := isBx_no ht
  rcases JO.own_fp ho hx with h | h
  · exact h.ne hz t1 rfl
  · exact h.ne hz t2 rfl
theorem row_same {n : Nat} {xs : List Value} (h : w.ownsRow W.heap.size 49 6 v n xs) (hs : ∀ z cs, Bq z 49 cs w → Bq z 49 cs w') : w'.ownsRow W.heap.size 49 6 v n xs := by
  refine ⟨h.1, ?_⟩
  rcases h.2 with h2 | ⟨g, cap, cur, hv, hg, hh, r⟩
  · exact .inl h2
  · have := hs g cur.toList (by unfold Bq; simpa using hh)
    unfold Bq at this
    exact .inr ⟨g, cap, cur, hv, hg, by simpa using this, r⟩
/-- What turns no operation's blocks. -/
theorem PS.fxl0 (P : PS W p m b T0 c rows v w) (hW : 1 < W.heap.size) (f : FxL W.heap.size p b [] w w') (hb : Both p m b c' w') : PS W p m b T0 c' rows v w' :=
  ⟨hb, f.lay hW P.lay, f.laym hW P.laym, P.low.trans f.low, P.mW, bx_fxl P.both f P.box (by decide) (by simp), row_same P.row fun _ _ k => bx_fxl P.both f k (by decide) (by simp), fun i x hx => (P.ops i x hx).same fun z hz => own_fxl P.both f (P.ops i x hx).own hz (by simp), P.sep⟩
theorem PS.below (P : PS W p m b T0 c rows v w) (hb : Below w.heap.size w w') : PS W p m b T0 c rows v w' :=
  ⟨P.both.below hb, P.lay.below hb, P.laym.below hb, P.low.trans (hb.mono P.low.size), P.mW, P.box.below hb, row_same P.row fun _ _ k => k.below hb, fun i x hx => (P.ops i x hx).below hb, P.sep⟩
theorem PS.mono (P : PS W p m b T0 c rows v w) (hc : c ≤ c') : PS W p m b T0 c' rows v w := ⟨P.both.mono hc, P.lay, P.laym, P.low, P.mW, P.box, P.row, P.ops, P.sep⟩
/-- A step of one of them. -/
theorem PS.step (P : PS W p m b T0 c rows v w) (hW : 1 < W.heap.size) {k : Nat} {x' : JO} (hx : rows[k]? = some x) (f : FxL W.heap.size p b x.fp w w') (hb : Both p m b c' w') (hs : x.sub x' w.heap.size) (hJ : JAt W.heap.size x' w') : PS W p m b T0 c' (rows.set k x') v w' := by
  have hk : k < rows.length := (List.getElem?_eq_some_iff.1 hx).1
  have hl : ∀ (i : Nat) (y : JO), rows[i]? = some y → ∀ z ∈ y.fp, z < w.heap.size := fun i y hy z hz => own_lt (P.ops i y hy).own hz
  have hset : ∀ (i : Nat) (y : JO), (rows.set k x')[i]? = some y → (i = k ∧ y = x') ∨ (i ≠ k ∧ rows[i]? = some y) := fun i y hy => by
    rw [List.getElem?_set] at hy
    by_cases e : k = i
    · subst e
      rw [if_pos rfl, if_pos hk] at hy
      exact .inl ⟨rfl, (Option.some.inj hy).symm⟩
    · rw [if_neg e] at hy
      exact .inr ⟨fun h => e h.symm, hy⟩
  refine ⟨hb, f.lay hW P.lay, f.laym hW P.laym, P.low.trans f.low, P.mW, bx_fxl P.both f P.box (by decide) (own_noBx (P.ops k x hx).own P.box (by decide)), ?_, fun i y hy => ?_, fun i j y z hy hz hij u hu => ?_⟩
  · rw [List.length_set, flatJ_set rows k x x' hx (JO.sub_cells hs)]
    exact row_same P.row fun z cs kz => bx_fxl P.both f kz (by decide) (own_noBx (P.ops k x hx).own kz (by decide))
  · rcases hset i y hy with ⟨_, rfl⟩ | ⟨hik, hy⟩
    · exact hJ
    · exact (P.ops i y hy).same fun z hz => own_fxl P.both f (P.ops i y hy).own hz (P.sep i k y x hy hx hik z hz)
  · rcases hset i y hy with ⟨e1, e2⟩ | ⟨hik, hy1⟩
    · rcases hset j z hz with ⟨e3, _⟩ | ⟨hjk, hz1⟩
      · omega
      · intro h
        rw [e2] at hu
        rcases hs.2.2.2 u hu with h1 | h1
        · exact P.sep k j x z hx hz1 (Ne.symm hjk) u h1 h
        · have := hl j z hz1 u h; omega
    · rcases hset j z hz with ⟨e1, e2⟩ | ⟨hjk, hz1⟩
      · intro h
        rw [e2] at h
        rcases hs.2.2.2 u h with h1 | h1
        · exact P.sep k i x y hx hy1 (Ne.symm hik) u h1 hu
        · have := hl i y hy1 u hu; omega
      · exact P.sep i j y z hy1 hz1 hij u hu
/-- One more. -/
theorem PS.push {n0 : Nat} (P : PS W p m b T0 c rows v w) (hW : 1 < W.heap.size) {v' : Value} (ho : w'.ownsRow W.heap.size 49 6 v' (rows.length + 1) (flatJ rows ++ x.cells)) (hg : w.grownBy w' v.ownBlock) (hJ : JAt W.heap.size x w) (hn : ∀ z ∈ x.fp, n0 ≤ z) (hr : ∀ (i : Nat) (y : JO), rows[i]? = some y → ∀ z ∈ y.fp, z < n0) :
    PS W p m b T0 c (rows ++ [x]) v' w' := by
  have key : ∀ z o, w.heap[z]? = some o → (∀ cs, o ≠ Obj.cells cs 49 (0, 0)) → w'.heap[z]? = some o := fun z o hz hne => by
    refine (hg.block z (Array.getElem?_eq_some_iff.1 hz).1 fun e => ?_).trans hz
    rcases P.row.2 with ⟨hv, _⟩ | ⟨g, cap, cur, hv, _, hh, _⟩
    · rw [hv] at e; cases e
    · rw [hv] at e
      simp only [Value.ownBlock, Option.some.injEq] at e
      rw [e, hh] at hz
      injection hz with hz
      exact hne cur hz.symm
  have kc : ∀ {z : Nat} {cs : Array Value} {t : TypeId}, w.heap[z]? = some (Obj.cells cs t (0, 0)) → t ≠ 49 → w'.heap[z]? = some (Obj.cells cs t (0, 0)) := fun {z cs t} hz ht => key z _ hz fun cs' e => by
    injection e with _ e
    exact ht e
  have kJ : ∀ {y : JO}, JAt W.heap.size y w → JAt W.heap.size y w' := fun {y} J => J.same fun z hz => by
    rcases JO.own_fp J.own hz with ⟨_, t, cs, k, ht⟩ | ⟨_, t, cs, k, ht⟩
    · exact (kc k (by rintro rfl; revert ht; decide)).trans k.symm
    · exact (kc k (by rintro rfl; revert ht; decide)).trans k.symm
  have hl : Below W.heap.size w w' := ⟨hg.os, hg.tape, hg.output, hg.size, fun k hk => hg.block k (Nat.lt_of_lt_of_le hk P.low.size) fun e => by have := (P.row.lt k e.symm).1; omega⟩
  have happ : ∀ (i : Nat) (y : JO), (rows ++ [x])[i]? = some y → rows[i]? = some y ∨ (i = rows.length ∧ y = x) := fun i y hy => by
    rcases Nat.lt_or_ge i rows.length with h | h
    · rw [List.getElem?_append_left h] at hy
      exact .inl hy
    · rw [List.getElem?_append_right h] at hy
      have hi : i - rows.length < 1 := by have := (List.getElem?_eq_some_iff.1 hy).1; simpa using this
      have hz : i - rows.length = 0 := by omega
      rw [hz] at hy
      exact .inr ⟨by omega, (Option.some.inj hy).symm⟩
  refine ⟨?_, P.lay.same3 hl.size (hl.block 1 (by omega)), P.laym.same hl.size (hl.block 0 (by omega)), P.low.trans hl, P.mW, kc P.box (by decide), by rw [flatJ_push, List.length_append]; exact ho, fun i y hy => ?_, fun i j y z hy hz hij u hu h => ?_⟩
  · obtain ⟨n, D, s, L, hP, h2⟩ := P.both
    obtain ⟨u, hr⟩ := hP.ref
    obtain ⟨es, k, hm⟩ := hP.prog.map_at
    refine ⟨n, D, s, L, ⟨hP.prog.keep ((kc hP.prog.blk (by decide)).trans hP.prog.blk.symm) ((key _ _ hm (fun cs e => by cases e)).trans hm.symm), ⟨u, kc hr.blk (by decide), ⟨hr.own.1, ?_⟩, hr.pos⟩, hP.mp, hP.pb⟩, h2⟩
    rcases hr.own.2 with hn | ⟨g, cap, cur, hv, hB, hh, rest⟩
    · exact .inl hn
    · exact .inr ⟨g, cap, cur, hv, hB, kc hh (by decide), rest⟩
  · rcases happ i y hy with hy | ⟨_, rfl⟩
    · exact kJ (P.ops i y hy)
    · exact kJ hJ
  · rcases happ i y hy with hy1 | ⟨e1, e2⟩
    · rcases happ j z hz with hz1 | ⟨e3, e4⟩
      · exact P.sep i j y z hy1 hz1 hij u hu h
      · rw [e4] at h
        have := hr i y hy1 u hu
        have := hn u h
        omega
    · rcases happ j z hz with hz1 | ⟨e3, e4⟩
      · rw [e2] at hu
        have := hr j z hz1 u h
        have := hn u hu
        omega
      · omega
theorem PS.old (P : PS W p m b T0 c rows v w) {n0 : Nat} (hn : w.heap.size ≤ n0) : ∀ (i : Nat) (y : JO), rows[i]? = some y → ∀ z ∈ y.fp, z < n0 := fun i y hy _ hz => Nat.lt_of_lt_of_le (own_lt (P.ops i y hy).own hz) hn
theorem PS.boxes (P : PS W p m b T0 c rows v w) : w.cell? ⟨T0, 0, none⟩ = some (.pointer (some ⟨p, 0, none⟩)) ∧ w.cell? ⟨T0, 1, none⟩ = some (.pointer (some ⟨b, 0, none⟩)) := P.box.cells2
theorem PS.grown_blk (P : PS W p m b T0 c rows v w) (hg : w.grownBy w' v.ownBlock) {X : Nat} {cs : List Value} {t : TypeId} (h : Bq X t cs w) (ht : t ≠ 49) : Bq X t cs w' := by
  refine (hg.block X h.lt fun e => ?_).trans h
  rcases P.row.2 with ⟨hv, _⟩ | ⟨g, cap, cur, hv, _, hh, _⟩
  · rw [hv] at e; cases e
  · rw [hv] at e
    simp only [Value.ownBlock, Option.some.injEq] at e
    rw [e] at h
    have kg : Bq g 49 cur.toList w := by unfold Bq; simpa using hh
    exact ht (bq_type h kg)
/-- The operation that the law picks. -/
theorem PS.pick {g' M c' k : Nat} (P : PS W p m b T0 c rows (.slice (some ⟨g', 0, none⟩) M c') w) (hM : rows.length = M) (hk : k < M) :
    ∃ x cs, rows[k]? = some x ∧ Bq g' 49 cs w ∧ ∀ j : Nat, j < 6 → w.cell? ⟨g', k * 6 + j, none⟩ = x.cells[j]? := by
  have hkl : k < rows.length := by omega
  have hrow := P.row
  rw [hM] at hrow
  have hx : rows[k]? = some rows[k] := List.getElem?_eq_getElem hkl
  rcases P.row.2 with ⟨hv, _⟩ | ⟨g, cap, cur, hv, _, hh, _⟩
  · cases hv
  · injection hv with h1 _ _
    injection h1 with h1
    injection h1 with h1
    subst h1
    exact ⟨_, cur.toList, hx, by unfold Bq; simpa using hh, fun j hj => (hrow.cellAt (k * 6 + j) (by omega)).trans (flatJ_at rows k j _ hx hj)⟩
end
end Go.Proofs.YtlcbinckbkdgdaaGreatDoor
namespace Go.Proofs.YtlcbinckbkdgdaaGreatDoor
open Go.RowKit Go.Maps

theorem infoJ : (Tryz.prog.info? 49).map (fun i => (i.zero, i.size, i.bytes)) = some (some (.agg #[.pointer none, .pointer none, .pointer none, .pointer none, .pointer none, .pointer none]), 6, 48) := by kernel_rfl
section
variable {p m b c : Nat} {w : World}
theorem both_same (h : Both p m b c w) : Calls Tryz.prog 14 #[.agg #[.pointer (some ⟨p, 0, none⟩), .pointer (some ⟨b, 0, none⟩)]] w fun e W' => e = .returned (.bool true) ∧ Below w.heap.size w W' := by
  obtain ⟨n, D, s, L, hP, _⟩ := h
  exact pair_same hP
theorem both_words (h : Both p m b c w) (hc : c ≤ 900) : Calls Tryz.prog 15 #[.agg #[.pointer (some ⟨p, 0, none⟩), .pointer (some ⟨b, 0, none⟩)]] w fun e W' => e = .returned (.bool true) ∧ Below w.heap.size w W' := by
  obtain ⟨n, D, s, L, hP, hr, hL, _⟩ := h
  exact pair_words hP hr (by omega)
theorem both_store (h : Both p m b c w) (hl : LayM w) (hc : c ≤ 900) (x : Ad) (v : Int) (hv : (Lit.int .u64 v).wf = true) :
    Calls Tryz.prog 12 #[.agg #[.pointer (some ⟨p, 0, none⟩), .pointer (some ⟨b, 0, none⟩)], .agg #[.int .u8 x.k, .int .i64 x.a, .int .i64 x.f, .int .u64 v]] w fun e W' => e = .returned (.tuple #[]) ∧ Both p m b (c + 1) W' ∧ Fr p m b w W' := by
  obtain ⟨n, D, s, L, hP, hr, hL, hn, h0, h1⟩ := h
  refine (pair_store2 x v hv hP hr hl h0 (by omega) (by omega) (by omega)).mono ?_
  rintro e W' ⟨rfl, hP', hf⟩
  have := storeA_len L x v
  exact ⟨rfl, ⟨_, _, _, _, hP', hr.store x v, by omega, by show ((n + 1 : Nat) : Int) ≤ s.st + 1; omega, by show 0 ≤ s.st + 1; omega, by show s.st + 1 ≤ _; push_cast; omega⟩, hf⟩
end
/-- A new Free and a new Park of whatever number. -/
def frO (s m : Int) : FX := if 0 ≤ s ∧ s < 256 then ⟨newFr s m, 0⟩ else ⟨⟨0, 0, 0, 0, 0, newPark 0, ⟨1, 0, 0⟩⟩, 0⟩
def pkO (s : Int) : PO := if 0 ≤ s ∧ s < 256 then newPark s else ⟨0, 0, 0, 0, ⟨1, 0, 0⟩, false⟩
theorem frO_num (s m : Int) (hm : 0 ≤ m ∧ m < 4294967296) : FrNum (frO s m) := by
  unfold frO
  by_cases h : 0 ≤ s ∧ s < 256
  · rw [if_pos h]; exact FrNum.new h hm
  · rw [if_neg h]
    exact ⟨⟨by decide, by decide⟩, ⟨by decide, by decide⟩, u64_0, u64_0, fun h => absurd (show (0 : Int) = 6 from h) (by decide), fun h => absurd (show (0 : Int) = 7 from h) (by decide), fun _ => rfl, ⟨by decide, by decide⟩⟩
theorem pkO_num (s : Int) : PkNum (pkO s) := by
  unfold pkO
  by_cases h : 0 ≤ s ∧ s < 256
  · rw [if_pos h]; exact PkNum.new h
  · rw [if_neg h]
    exact ⟨⟨by decide, by decide⟩, u64_0, u64_0, fun h => rfl, fun _ h => rfl, fun h => absurd (show (0 : Int) = 10 from h) (by decide), ⟨by decide, by decide⟩⟩
section
variable {B n q r r1 K k1 x : Nat} {w w' : World}
theorem OwnP.mono (h : OwnP n x w) (hB : B ≤ n) : OwnP B x w := ⟨Nat.le_trans hB h.1, h.2⟩
theorem OwnR.mono (h : OwnR n x w) (hB : B ≤ n) : OwnR B x w := ⟨Nat.le_trans hB h.1, h.2⟩
/-- What a new operation of the program's leaves. -/
def NewP (rep : Nat → Nat → Nat → World → Prop) (w : World) (e : Ending) (w' : World) : Prop := ∃ q r r1, e = .returned (.pointer (some ⟨q, 0, none⟩)) ∧ rep q r r1 w' ∧ OwnP w.heap.size q w' ∧ OwnP w.heap.size r w' ∧ OwnP w.heap.size r1 w' ∧ Below w.heap.size w w'
/-- What a new one of the document's leaves. -/
def NewR (rep : Nat → Nat → World → Prop) (w : World) (e : Ending) (w' : World) : Prop := ∃ K k1, e = .returned (.pointer (some ⟨K, 0, none⟩)) ∧ rep K k1 w' ∧ OwnR w.heap.size K w' ∧ OwnR w.heap.size k1 w' ∧ Below w.heap.size w w'
theorem newAlloc_all (w : World) : Calls Tryz.prog 6 #[] w (NewP (fun q r r1 => AlRep q r r1 ⟨newAl, 0⟩) w) := by
  refine (newAlloc_any w).mono ?_
  rintro e w' ⟨q, r, rfl, h1, h2, kq, kr, hb⟩
  have R : AlRep q r r ⟨newAl, 0⟩ w' := .inr (.inl ⟨_, _, _, 0, 0, .l1 rfl, fun h => absurd rfl h, fun h => absurd (show (1 : Int) = 7 from h) (by decide), kq, by unfold Bq; exact kr⟩)
  obtain ⟨r2, r3, R', _, _, o1, o2, o3⟩ := R.tidy (B := w.heap.size) (by omega) (by omega) (by omega)
  exact ⟨q, r2, r3, rfl, R', o1, o2, o3, hb⟩
theorem newFree_all (s f : Int) (w : World) : Calls Tryz.prog 8 #[.int .i64 s, .int .u32 f] w (NewP (fun q r r1 => FrRep q r r1 (frO s f)) w) := by
  unfold frO
  by_cases h : 0 ≤ s ∧ s < 256
  · rw [if_pos h]
    refine (newFree_yes f h.1 h.2 w).mono ?_
    rintro e w' ⟨q, r, rfl, h1, h2, kq, kr, hb⟩
    have R : FrRep q r r ⟨newFr s f, 0⟩ w' := .inr (.inl ⟨_, _, _, .l1 rfl, kq, kr⟩)
    obtain ⟨r2, r3, R', _, _, o1, o2, o3⟩ := R.tidy (B := w.heap.size) (by omega) (by omega) (by omega)
    exact ⟨q, r2, r3, rfl, R', o1, o2, o3, hb⟩
  · rw [if_neg h]
    refine (newFree_no f (by omega) w).mono ?_
    rintro e w' ⟨q, rfl, h1, kq, hb⟩
    have R : FrRep q q q ⟨⟨0, 0, 0, 0, 0, newPark 0, ⟨1, 0, 0⟩⟩, 0⟩ w' := .inl ⟨rfl, _, _, kq⟩
    obtain ⟨r2, r3, R', _, _, o1, o2, o3⟩ := R.tidy (B := w.heap.size) h1 h1 h1
    exact ⟨q, r2, r3, rfl, R', o1, o2, o3, hb⟩
theorem newPark_all (s : Int) (w : World) : Calls Tryz.prog 10 #[.int .i64 s] w (NewP (fun q r _ => PkX q r (pkO s)) w) := by
  unfold pkO
  by_cases h : 0 ≤ s ∧ s < 256
  · rw [if_pos h]
    refine (newPark_yes h.1 h.2 w).mono ?_
    rintro e w' ⟨q, r, rfl, h1, h2, kq, kr, hb⟩
    have R : PkX q r (newPark s) w' := .inr ⟨_, _, _, .l1 rfl, kq, kr⟩
    obtain ⟨r2, R', _, o1, o2⟩ := R.tidy (B := w.heap.size) (by omega) (by omega)
    exact ⟨q, r2, r2, rfl, R', o1, o2, o2, hb⟩
  · rw [if_neg h]
    refine (newPark_no (by omega) w).mono ?_
    rintro e w' ⟨q, rfl, h1, kq, hb⟩
    have R : PkX q q ⟨0, 0, 0, 0, ⟨1, 0, 0⟩, false⟩ w' := .inl ⟨rfl, _, _, kq⟩
    obtain ⟨r2, R', _, o1, o2⟩ := R.tidy (B := w.heap.size) h1 h1
    exact ⟨q, r2, r2, rfl, R', o1, o2, o2, hb⟩
theorem refNewAlloc_all (hB : B ≤ w.heap.size) : Calls Tryz.prog 7 #[] w (NewR (fun K k1 => AlD B K k1 k1 ⟨newAl, 0⟩) w) := by
  refine (refNewAlloc_any w).mono ?_
  rintro e w' ⟨k1, K, rfl, R, k, hb, h1, h2⟩
  exact ⟨K, k1, rfl, ⟨⟨by omega, by omega, by omega⟩, _, _, _, _, k, fun hh => hh.elim (fun q => absurd (show (2 : Int) ≤ 1 from q) (by decide)) (fun q => absurd (show false = true from q) (by decide)), fun hh => absurd (show false = true from hh) (by decide), fun _ => ⟨rfl, 0, false, 0, R, popOk_new⟩, fun hh => absurd (show (1 : Int) = 3 from hh) (by decide)⟩, ⟨by omega, _, _, k, by decide⟩, ⟨h1, _, _, by unfold Bq; exact R, by decide⟩, hb⟩
theorem refNewFree_all (s f : Int) (hB : B ≤ w.heap.size) : Calls Tryz.prog 9 #[.int .i64 s, .int .u32 f] w (NewR (fun K k1 => FrD B K k1 k1 (frO s f)) w) := by
  unfold frO
  by_cases h : 0 ≤ s ∧ s < 256
  · rw [if_pos h]
    refine (newFree_good s f h.1 (by omega) w).mono ?_
    rintro e w' ⟨rfl, k, hb, _⟩
    exact ⟨_, _, rfl, ⟨⟨hB, hB, hB⟩, _, _, k, fun hh => absurd (show (1 : Int) = 6 from hh) (by decide), fun hh => absurd (show (1 : Int) = 7 from hh) (by decide)⟩, ⟨Nat.le_refl _, _, _, k, by decide⟩, ⟨Nat.le_refl _, _, _, k, by decide⟩, hb⟩
  · rw [if_neg h]
    by_cases h2 : s < 0
    · refine (newFree_low s f h2 w).mono ?_
      rintro e w' ⟨rfl, k, hb, _⟩
      exact ⟨_, _, rfl, ⟨⟨hB, hB, hB⟩, _, _, k, fun hh => absurd (show (0 : Int) = 6 from hh) (by decide), fun hh => absurd (show (0 : Int) = 7 from hh) (by decide)⟩, ⟨Nat.le_refl _, _, _, k, by decide⟩, ⟨Nat.le_refl _, _, _, k, by decide⟩, hb⟩
    · refine (newFree_high s f (by omega) (by omega) w).mono ?_
      rintro e w' ⟨rfl, k, hb, _⟩
      exact ⟨_, _, rfl, ⟨⟨hB, hB, hB⟩, _, _, k, fun hh => absurd (show (0 : Int) = 6 from hh) (by decide), fun hh => absurd (show (0 : Int) = 7 from hh) (by decide)⟩, ⟨Nat.le_refl _, _, _, k, by decide⟩, ⟨Nat.le_refl _, _, _, k, by decide⟩, hb⟩
theorem refNewPark_all (s : Int) (hB : B ≤ w.heap.size) : Calls Tryz.prog 11 #[.int .i64 s] w (NewR (fun K k1 => PkD B K k1 (pkO s)) w) := by
  unfold pkO
  by_cases h : 0 ≤ s ∧ s < 256
  · rw [if_pos h]
    refine (newPark_good s h.1 (by omega) w).mono ?_
    rintro e w' ⟨rfl, k, hb, _⟩
    exact ⟨_, _, rfl, ⟨hB, hB, _, k, fun hh => absurd (show (1 : Int) = 10 from hh) (by decide)⟩, ⟨Nat.le_refl _, _, _, k, by decide⟩, ⟨Nat.le_refl _, _, _, k, by decide⟩, hb⟩
  · rw [if_neg h]
    by_cases h2 : s < 0
    · refine (newPark_low s h2 w).mono ?_
      rintro e w' ⟨rfl, k, hb, _⟩
      exact ⟨_, _, rfl, ⟨hB, hB, _, k, fun hh => absurd (show (0 : Int) = 10 from hh) (by decide)⟩, ⟨Nat.le_refl _, _, _, k, by decide⟩, ⟨Nat.le_refl _, _, _, k, by decide⟩, hb⟩
    · refine (newPark_high s (by omega) (by omega) w).mono ?_
      rintro e w' ⟨rfl, k, hb, _⟩
      exact ⟨_, _, rfl, ⟨hB, hB, _, k, fun hh => absurd (show (0 : Int) = 10 from hh) (by decide)⟩, ⟨Nat.le_refl _, _, _, k, by decide⟩, ⟨Nat.le_refl _, _, _, k, by decide⟩, hb⟩
/-- The program's one, the document's behind it: an operation of the law's. -/
theorem new_fp (oq : OwnP n q w) (or : OwnP n r w) (or1 : OwnP n r1 w) {n' : Nat} (oK : OwnR n' K w) (ok : OwnR n' k1 w) (hn : n ≤ n') (kd : Nat) : ∀ z ∈ JO.fp ⟨kd, q, r, r1, K, k1, k1⟩, n ≤ z := by
  intro z hz
  have h1 := oq.1
  have h2 := or.1
  have h3 := or1.1
  have h4 := oK.1
  have h5 := ok.1
  simp only [JO.fp, List.mem_cons, List.not_mem_nil, or_false] at hz
  rcases hz with rfl | rfl | rfl | rfl | rfl | rfl <;> omega
theorem new_al (hB : B ≤ n) (R : AlRep q r r1 ⟨newAl, 0⟩ w) (oq : OwnP n q w) (or : OwnP n r w) (or1 : OwnP n r1 w) {n' : Nat} (hn : n ≤ n') (D : AlD B K k1 k1 ⟨newAl, 0⟩ w) (oK : OwnR n' K w) (ok : OwnR n' k1 w) : JAt B ⟨0, q, r, r1, K, k1, k1⟩ w :=
  .inl ⟨⟨newAl, 0⟩, rfl, AlNum.new, R, D, oq.mono hB, or.mono hB, or1.mono hB, oK.mono (by omega), ok.mono (by omega), ok.mono (by omega)⟩
theorem new_fr {s f : Int} (hm : 0 ≤ f ∧ f < 4294967296) (hB : B ≤ n) (R : FrRep q r r1 (frO s f) w) (oq : OwnP n q w) (or : OwnP n r w) (or1 : OwnP n r1 w) {n' : Nat} (hn : n ≤ n') (D : FrD B K k1 k1 (frO s f) w) (oK : OwnR n' K w) (ok : OwnR n' k1 w) : JAt B ⟨1, q, r, r1, K, k1, k1⟩ w :=
  .inr (.inl ⟨frO s f, rfl, frO_num s f hm, R, D, oq.mono hB, or.mono hB, or1.mono hB, oK.mono (by omega), ok.mono (by omega), ok.mono (by omega)⟩)
theorem new_pk {s : Int} (hB : B ≤ n) (R : PkX q r (pkO s) w) (oq : OwnP n q w) (or : OwnP n r w) (or1 : OwnP n r1 w) {n' : Nat} (hn : n ≤ n') (D : PkD B K k1 (pkO s) w) (oK : OwnR n' K w) (ok : OwnR n' k1 w) : JAt B ⟨2, q, r, r1, K, k1, k1⟩ w :=
  .inr (.inr ⟨pkO s, rfl, pkO_num s, R, D, oq.mono hB, or.mono hB, or1.mono hB, oK.mono (by omega), ok.mono (by omega), ok.mono (by omega)⟩)
end
section
variable {B p m b c : Nat} {x : JO} {w : World}
/-- A step of whichever. -/
theorem op_any (hB : 1 < B) (hBm : B ≤ m) (hc : c ≤ 900) (hb : Both p m b c w) (hl : Lay w) (hlm : LayM w) (J : JAt B x w) :
    Calls Tryz.prog 13 #[.agg x.cells.toArray, .agg #[.pointer (some ⟨p, 0, none⟩), .pointer (some ⟨b, 0, none⟩)]] w (StepS B p m b c x w) := by
  rcases J with ⟨o, h⟩ | ⟨o, h⟩ | ⟨o, h⟩
  · have e : x.cells = [.pointer (some ⟨x.q, 0, none⟩), .pointer none, .pointer none, .pointer (some ⟨x.K, 0, none⟩), .pointer none, .pointer none] := by unfold JO.cells; rw [h.1]; rfl
    rw [e]; exact op_alloc hB hBm hc hb hl hlm h
  · have e : x.cells = [.pointer none, .pointer (some ⟨x.q, 0, none⟩), .pointer none, .pointer none, .pointer (some ⟨x.K, 0, none⟩), .pointer none] := by unfold JO.cells; rw [h.1]; rfl
    rw [e]; exact op_free hB hBm hc hb hl hlm h
  · have e : x.cells = [.pointer none, .pointer none, .pointer (some ⟨x.q, 0, none⟩), .pointer none, .pointer none, .pointer (some ⟨x.K, 0, none⟩)] := by unfold JO.cells; rw [h.1]; rfl
    rw [e]; exact op_park hB hBm hc hb hl hlm h
end
end Go.Proofs.YtlcbinckbkdgdaaGreatDoor
namespace Go.Proofs.YtlcbinckbkdgdaaGreatDoor
open Go.ChangeShapes Go.WideShapes Go.ChangeAt Go.WideMaps Go.WideElems Go.RowKit Go.Joins

/-- An act. -/
structure AcP where
  kd : Int
  wh : Int
  mo : Int
  s : Sto
  hk : 0 ≤ kd ∧ kd ≤ 255
  hw : (Lit.int .i64 wh).wf = true
  hm : 0 ≤ mo ∧ mo < 4294967296
instance : Inhabited AcP := ⟨⟨0, 0, 0, default, by decide, by decide, by decide⟩⟩
def ActCells (W : World) (g off : Nat) (c : Nat → AcP) (n : Nat) : Prop := ∀ i, i < n →
  W.cell? ⟨g, off + i * 7, none⟩ = some (.int .u8 (c i).kd) ∧ W.cell? ⟨g, off + i * 7 + 1, none⟩ = some (.int .i64 (c i).wh) ∧ W.cell? ⟨g, off + i * 7 + 2, none⟩ = some (.int .u32 (c i).mo) ∧ W.cell? ⟨g, off + i * 7 + 3, none⟩ = some (.int .u8 (c i).s.x.k) ∧ W.cell? ⟨g, off + i * 7 + 4, none⟩ = some (.int .i64 (c i).s.x.a) ∧ W.cell? ⟨g, off + i * 7 + 5, none⟩ = some (.int .i64 (c i).s.x.f) ∧ W.cell? ⟨g, off + i * 7 + 6, none⟩ = some (.int .u64 (c i).s.v)
theorem ActCells.below {W W' : World} {g off : Nat} {c : Nat → AcP} {n : Nat} (h : ActCells W g off c n) (hb : Below W.heap.size W W') : ActCells W' g off c n := fun i hi => by
  have k : ∀ {q j : Nat} {v : Value}, W.cell? ⟨q, j, none⟩ = some v → W'.cell? ⟨q, j, none⟩ = some v := fun {q j v} hc => (hb.cell (p := ⟨q, j, none⟩) (World.block_lt_of_cell? W _ hc)).trans hc
  obtain ⟨h0, h1, h2, h3, h4, h5, h6⟩ := h i hi
  exact ⟨k h0, k h1, k h2, k h3, k h4, k h5, k h6⟩
theorem cellsAC : Tryz.prog.cellsOf 39 = 7 := by kernel_rfl
theorem cellsU32 : Tryz.prog.cellsOf 31 = 1 := by kernel_rfl
theorem act32_of {a : Int} (h : (Lit.int .u32 a).wf = true) : 0 ≤ a ∧ a < 4294967296 := by
  simp [Lit.wf, IntKind.min, IntKind.max, IntKind.signed, IntKind.bits] at h
  omega
theorem byte_of {a : Int} (h : (Lit.int .u8 a).wf = true) : 0 ≤ a ∧ a ≤ 255 := by
  simp [Lit.wf, IntKind.min, IntKind.max, IntKind.signed, IntKind.bits] at h
  omega
section
variable {H : Type} {enc : TypeId × Value → H} {W : World} {r : Reach} {b0 base : Nat} {sp : Nat → Bool} {v : Value} {d : DataW H} {p : List MemPlace}
set_option maxRecDepth 100000 in
/-- One act, out of its six cells. -/
theorem open_act {fuel : Nat} {cs : List Value} {y : DataW H × List MemPlace} (h : DataW.trod enc Tryz.prog W base sp true fuel 39 cs = some y) :
    ∃ c : AcP, cs = [.int .u8 c.kd, .int .i64 c.wh, .int .u32 c.mo, .int .u8 c.s.x.k, .int .i64 c.s.x.a, .int .i64 c.s.x.f, .int .u64 c.s.v] := by
  obtain ⟨xs, n, rfl, _, hl, hxl, hf⟩ := DataW.trod_struct Tryz.underlying39 h
  rw [cellsAC] at hl
  match xs, hxl, cs, hl with
  | [y0, y1, y2, y3], _, [v0, v1, v2, v3, v4, v5, v6], _ =>
    have g0 : DataW.trod enc Tryz.prog W base sp true n 5 (([v0, v1, v2, v3, v4, v5, v6].drop 0).take (Tryz.prog.cellsOf 5)) = [y0, y1, y2, y3][0]? := hf 0 _ rfl
    have g1 : DataW.trod enc Tryz.prog W base sp true n 3 (([v0, v1, v2, v3, v4, v5, v6].drop 1).take (Tryz.prog.cellsOf 3)) = [y0, y1, y2, y3][1]? := hf 1 _ rfl
    have g2 : DataW.trod enc Tryz.prog W base sp true n 31 (([v0, v1, v2, v3, v4, v5, v6].drop 2).take (Tryz.prog.cellsOf 31)) = [y0, y1, y2, y3][2]? := hf 2 _ rfl
    have g3 : DataW.trod enc Tryz.prog W base sp true n 37 (([v0, v1, v2, v3, v4, v5, v6].drop 3).take (Tryz.prog.cellsOf 37)) = [y0, y1, y2, y3][3]? := hf 3 _ rfl
    simp only [cellsU8, cellsI, cellsU32, cellsST, List.drop_zero, List.drop_succ_cons, List.take_succ_cons, List.take_zero, List.getElem?_cons_zero, List.getElem?_cons_succ] at g0 g1 g2 g3
    obtain ⟨kd, e0, _, wk⟩ := DataW.trod_int Tryz.underlying5 g0
    obtain ⟨wh, e1, _, ww⟩ := DataW.trod_int Tryz.underlying3 g1
    obtain ⟨mo, e2, _, wm⟩ := DataW.trod_int Tryz.underlying31 g2
    obtain ⟨s, e3⟩ := open_sto g3
    simp only [List.cons.injEq, and_true] at e0 e1 e2 e3
    obtain ⟨a2, a3, a4, a5⟩ := e3
    subst e0 e1 e2 a2 a3 a4 a5
    exact ⟨⟨kd, wh, mo, s, byte_of wk, ww, act32_of wm⟩, rfl⟩
set_option maxRecDepth 100000 in
/-- A list of the law's acts as an argument. -/
theorem open_acts (hv : Value.okWide Tryz.prog W r b0 22 v) (h : DataW.Trod enc Tryz.prog W base sp true 22 v d p) :
    v = .slice Option.none 0 0 ∨ ∃ g off len cap c, v = .slice (some ⟨g, off, Option.none⟩) len cap ∧ ActCells W g off c len := by
  obtain ⟨a0, len, cap, rfl⟩ := okWide_slice Tryz.underlying22 hv
  obtain ⟨fuel, hf⟩ := h
  rcases Go.Deep.open_slice Tryz.underlying22 hf with ⟨hcs, _⟩ | ⟨a, len', cap', m, n, D, Pl, hcs, _, hl, _, hm, _, hall⟩
  · simp [Value.cells] at hcs
    obtain ⟨rfl, rfl, rfl⟩ := hcs
    exact .inl rfl
  · simp [Value.cells] at hcs
    obtain ⟨rfl, rfl, rfl⟩ := hcs
    right
    have hs : a.spot = Option.none := by
      simp only [Value.okWide, Tryz.underlying22, Cell.okWide, Cell.ok] at hv
      exact hv.2.2.2.1
    obtain ⟨g, off, spot⟩ := a
    obtain rfl : spot = Option.none := hs
    have hlm : len ≤ m := by rw [hm]; split <;> omega
    obtain ⟨c, hc⟩ := Go.Deep.choose_lt (α := AcP) (p := fun i c => ∀ j u, [.int .u8 c.kd, .int .i64 c.wh, .int .u32 c.mo, .int .u8 c.s.x.k, .int .i64 c.s.x.a, .int .i64 c.s.x.f, .int .u64 c.s.v][j]? = some u → W.cell? ⟨g, off + i * 7 + j, Option.none⟩ = some u) (n := len) (fun i hi => by
      obtain ⟨cs', h1, h2⟩ := hall i (by omega)
      rw [cellsAC] at h1
      obtain ⟨_, hlen, hcell⟩ := World.cells?_some h1
      obtain ⟨c, rfl⟩ := open_act h2
      refine ⟨c, fun j u hu => ?_⟩
      have hj : j < 7 := by have := (List.getElem?_eq_some_iff.1 hu).1; simpa using this
      have := hcell j hj
      rw [core_plus, core_plus] at this
      rw [this, hu])
    exact ⟨g, off, len, cap, c, rfl, fun i hi => ⟨by simpa using hc i hi 0 _ rfl, hc i hi 1 _ rfl, hc i hi 2 _ rfl, hc i hi 3 _ rfl, hc i hi 4 _ rfl, hc i hi 5 _ rfl, hc i hi 6 _ rfl⟩⟩
end
end Go.Proofs.YtlcbinckbkdgdaaGreatDoor
