/-
  The law's pair of memories: have both the same words? They have; condition: both lie as they say, and say the same.
  The law's Begin, with no words: two new memories that say the same; no condition.
  The law's Begin, with any words: two memories that say the same; condition: the table of rooms reads as the program lays it, the words lie as they say, at most 300.
-/
import Derived.Test.YtipgidkpjilhoaaDoorD6
import Derived.Outline
namespace Go.Proofs.YtipgidkpjilhoaaDoor
open Go.RowKit Go.Maps

theorem flatW_words (D : DataW Unit) (ts : List Ad) : flatW (wordsOf D ts) = flat (ts.map fun x => toWd (x, valD D x)) := by
  induction ts with
  | nil => rfl
  | cons x r ih =>
    show wordCells (x, valOf D x) ++ flatW (wordsOf D r) = (toWd (x, valD D x)).cells ++ flat (r.map fun x => toWd (x, valD D x))
    rw [ih, valOf_eq]
    rfl
theorem Rel.none {D : DataW Unit} {L : List (Ad × Int)} (h : Rel D L) {w : World} {m n : Nat} (hown : w.ownsMap Tryd.prog 33 (plainElem Tryd.prog 34) m n D) (hz : Maps.size D = 0) : wordsF (L.map toWd) = [] := by
  have hn : ((L.filter fun y => decide (y.2 ≠ 0)).map Prod.fst).Nodup := h.nodup.sublist (List.Sublist.map _ List.filter_sublist)
  have hm : ∀ x : Ad, x ∈ (L.filter fun y => decide (y.2 ≠ 0)).map Prod.fst ↔ Maps.has D x.lit = true := fun x => by
    rw [h.has x, h.val x, List.mem_map]
    constructor
    · rintro ⟨⟨y, v⟩, hy, rfl⟩
      obtain ⟨h1, h2⟩ := List.mem_filter.1 hy
      rw [vals_of_mem L h.nodup y v h1]
      simpa using h2
    · intro hx
      exact ⟨(x, vals L x), List.mem_filter.2 ⟨mem_of_vals L x hx, by simpa using hx⟩, rfl⟩
  have hl := own_size hown hn hm
  rw [hz] at hl
  have he := List.length_eq_zero_iff.1 hl
  rw [he] at hm
  rw [h.words (ts := []) ⟨List.Pairwise.nil, hm, hz.symm⟩]
  rfl
/-- What Words of the program leaves. -/
def RowA (sl : List Wd) (B : Nat) (v : Value) (W : World) : Prop :=
  (v = .slice none 0 0 ∧ sl = []) ∨ (∃ g, v = .slice (some ⟨g, 0, none⟩) sl.length sl.length ∧ W.ownsRow B 103 4 (.slice (some ⟨g, 0, none⟩) sl.length sl.length) sl.length (flat sl) ∧ 0 < sl.length)
section
variable {p m b n : Nat} {D : DataW Unit} {s r : Acc8} {L : List (Ad × Int)} {W : World}
theorem words_p (h : Pr p m b n D s L r W) (hr : Rel D L) (hL : L.length ≤ 999) :
    Calls Tryd.prog 41 #[.pointer (some ⟨p, 0, none⟩)] W fun e W' => ∃ v, e = .returned v ∧ RowA (wordsF (L.map toWd)) W.heap.size v W' ∧ Below W.heap.size W W' := by
  have hsz := hr.size h.prog.own
  by_cases hz : Maps.size D = 0
  · refine (words_none p m n D hz W (h.prog.cell 0) h.prog.own).mono ?_
    rintro e W' ⟨rfl, rfl⟩
    exact ⟨_, rfl, .inl ⟨rfl, hr.none h.prog.own hz⟩, Below.refl _ _⟩
  · refine (words_any p m n D (by omega) (by omega) _ _ W h.prog.blk rfl h.prog.own).mono ?_
    rintro e W' ⟨g, ts, rfl, hts, hrow, hb⟩
    have hw := hr.words hts
    have hl : (wordsF (L.map toWd)).length = ts.length := by rw [hw, List.length_map]
    rw [flatW_words, ← hw, ← hl] at hrow
    rw [← hl]
    exact ⟨_, rfl, .inr ⟨g, rfl, hrow, by have := hts.2.2; omega⟩, hb⟩
theorem words_r (h : Pr p m b n D s L r W) (hL : L.length ≤ 999) : Calls Tryd.prog 42 #[.pointer (some ⟨b, 0, none⟩)] W (RefWords (L.map toWd) W) := by
  obtain ⟨v, h2⟩ := h.ref
  exact ref_words_any b b (L.map toWd) v _ W h2 (by simp; omega)
theorem neq_addr (k a f : Int) (w : World) : (binOp .neq 33 (.agg #[.int .u8 k, .int .i64 a, .int .i64 f]) (.agg #[.int .u8 k, .int .i64 a, .int .i64 f])).run Tryd.prog w = .ok (.bool false) w := by
  have hS : Tryd.prog.underlying 33 = some (.struct (Tryd.prog.fieldsOf 33)) := by kernel_rfl
  have hp : Tryd.prog.stoodInHeld 33 = false := by kernel_rfl
  rw [run_neq_struct, show (10000 : Nat) = 9999 + 1 from rfl, run_equalIn_agg w 9999 33 _ _ hS hp]
  simp only [Program.fieldsOf, Tryd.underlying33]
  go_simp
theorem own_cells43 {w : World} {B g cap : Nat} {l : List Wd} (h : w.ownsRow B 103 4 (.slice (some ⟨g, 0, none⟩) l.length cap) l.length (flat l)) : WdCells w g l := fun i hi => by
  have k : ∀ j, j < 4 → w.cell? ⟨g, i * 4 + j, none⟩ = (l.getD i wd0).cells[j]? := fun j hj => (h.cellAt (i * 4 + j) (by omega)).trans (flat_at l i j hi hj)
  exact ⟨k 0 (by decide), k 1 (by decide), k 2 (by decide), k 3 (by decide)⟩
theorem WdCells.below {w w' : World} {g : Nat} {l : List Wd} (h : WdCells w g l) (hb : Below w.heap.size w w') : WdCells w' g l := fun i hi => by
  have k : ∀ {q j : Nat} {v : Value}, w.cell? ⟨q, j, none⟩ = some v → w'.cell? ⟨q, j, none⟩ = some v := fun {q j v} hc => (hb.cell (p := ⟨q, j, none⟩) (World.block_lt_of_cell? w _ hc)).trans hc
  obtain ⟨h0, h1, h2, h3⟩ := h i hi
  exact ⟨k h0, k h1, k h2, k h3⟩
set_option maxRecDepth 100000 in
set_option maxHeartbeats 2000000 in
theorem pair_words (h : Pr p m b n D s L r W) (hr : Rel D L) (hL : L.length ≤ 999) :
    Calls Tryd.prog 21 #[.agg #[.pointer (some ⟨p, 0, none⟩), .pointer (some ⟨b, 0, none⟩)]] W fun e W' => e = .returned (.bool true) ∧ Below W.heap.size W W' := by
  have hB : Below W.heap.size W (W.alloc (.cells #[.pointer (some ⟨p, 0, none⟩), .pointer (some ⟨b, 0, none⟩)] 28)) := (Below.refl _ _).alloc (Nat.le_refl _) _
  have HP := Lib.hid (h.below hB)
  have HB := Lib.hid hB
  have HR := Lib.hid hr
  have k0 : (W.alloc (.cells #[.pointer (some ⟨p, 0, none⟩), .pointer (some ⟨b, 0, none⟩)] 28)).heap[W.heap.size]? = some (.cells #[.pointer (some ⟨p, 0, none⟩), .pointer (some ⟨b, 0, none⟩)] 28 (0, 0)) := World.alloc_heap_new _ _
  have c0 := Joins.cell_of_block k0 0
  have c1 := Joins.cell_of_block k0 1
  simp only [List.getElem?_toArray, List.getElem?_cons_zero, List.getElem?_cons_succ] at c0 c1
  clear h hB k0 hr
  go_enter Tryd.func21, Tryd.ntmps21
  go_wp2_with fail
  revert HB HP c0 c1
  generalize W.alloc (.cells #[.pointer (some ⟨p, 0, none⟩), .pointer (some ⟨b, 0, none⟩)] 28) = w0
  intro HP HB c0 c1
  ((with_reducible refine (words_p HP.out HR.out hL).mono ?_); rintro e w1 ⟨va, rfl, ha, hb1⟩)
  have HP1 := Lib.hid (HP.out.below hb1)
  have HB1 := Lib.hid (HB.out.trans (hb1.mono HB.out.size))
  have d1 := (hb1.cell (p := ⟨W.heap.size, 1, none⟩) (World.block_lt_of_cell? w0 _ c1)).trans c1
  have HA := Lib.hid ha
  clear hb1 ha c0 c1
  go_wp2_with fail
  ((with_reducible refine (words_r HP1.out hL).mono ?_); rintro e w2 ⟨vb, rfl, hb, hb2⟩)
  have HB2 := Lib.hid (HB1.out.trans (hb2.mono HB1.out.size))
  have hsn : (wordsF (L.map toWd)).length ≤ 1000 := by have := wordsF_le (L.map toWd) (L.map toWd).length; rw [List.take_length] at this; simp at this; omega
  rcases HA.out with ⟨rfl, h0⟩ | ⟨g, rfl, hrow, hpos⟩
  · rw [h0] at hb
    clear HA hsn d1
    rcases hb.2 with ⟨hv, _⟩ | ⟨g2, cap2, cur2, hv, _⟩
    · subst hv
      clear hb
      go_wp2_with fail
      refine wp_loop_rounds 1 ?_
      rw [rounds_succ]
      go_wp2_with fail
      go_ret
      exact ⟨rfl, HB2.out⟩
    · subst hv
      clear hb
      go_wp2_with fail
      refine wp_loop_rounds 1 ?_
      rw [rounds_succ]
      go_wp2_with fail
      go_ret
      exact ⟨rfl, HB2.out⟩
  · have HC := Lib.hid ((own_cells43 hrow).below hb2)
    generalize wordsF (L.map toWd) = sl at hb HC hpos hsn
    rcases hb.2 with ⟨_, hn0⟩ | ⟨g2, cap2, cur2, hv, _⟩
    · omega
    · subst hv
      have HD := Lib.hid (own_cells hb)
      clear hb hrow HA d1
      go_wp2_with fail
      go_loopw [5] (fun j wr => ∃ i d : Nat, i ≤ sl.length ∧ j = .int .i64 (i : Int) ∧ wr = w2.drewN d) (fun j _ => sl.length - (intOf j).toNat)
      case atStart => exact ⟨0, 0, Nat.zero_le _, rfl, rfl⟩
      case round =>
        obtain ⟨i, d, hi, rfl, rfl⟩ := hrel
        by_cases hlt : i < sl.length
        · obtain ⟨e0, e1, e2, e3⟩ := HC.out i hlt
          obtain ⟨f0, f1, f2, f3⟩ := HD.out i hlt
          have hlt' : (i : Int) < (sl.length : Int) := by omega
          have hge : (0 : Int) ≤ (i : Int) := by omega
          generalize sl.getD i wd0 = y at e0 e1 e2 e3 f0 f1 f2 f3
          have hq := neq_addr y.k y.a y.f
          go_wp2
          go_quiet (fail)
          go_wp2
          go_roundw
          case rel => exact ⟨i + 1, d + nq, by omega, by go_num, rfl⟩
          case measure => simp [intOf]; omega
        · have hge : (sl.length : Int) ≤ (i : Int) := by omega
          go_wp2
          go_ret
          exact ⟨rfl, below_drewNM' HB2.out _⟩
end
end Go.Proofs.YtipgidkpjilhoaaDoor
namespace Go.Proofs.YtipgidkpjilhoaaDoor
open Go.RowKit Go.Maps

def z8 : Acc8 := ⟨0, 0, 0, 0, 0, 0, 0, false⟩
set_option maxRecDepth 100000 in
set_option maxHeartbeats 2000000 in
theorem begin_nil (W : World) (hW : 0 < W.heap.size) : Calls Tryd.prog 8 #[.slice none 0 0] W fun e W' => ∃ p m b, e = .returned (.agg #[.pointer (some ⟨p, 0, none⟩), .pointer (some ⟨b, 0, none⟩)]) ∧ Pr p m b 0 (.map []) z8 [] z8 W' ∧ W.heap.size ≤ m ∧ Below W.heap.size W W' := by
  have hB : Below W.heap.size W (W.alloc (.cells #[.pointer none, .pointer none] 28)) := (Below.refl _ _).alloc (Nat.le_refl _) _
  have HB := Lib.hid hB
  have k0 : (W.alloc (.cells #[.pointer none, .pointer none] 28)).heap[W.heap.size]? = some (.cells #[.pointer none, .pointer none] 28 (0, 0)) := World.alloc_heap_new _ _
  have hs : (W.alloc (.cells #[.pointer none, .pointer none] 28)).heap.size = W.heap.size + 1 := by simp
  clear hB
  go_enter Tryd.func8, Tryd.ntmps8
  go_wp2_with fail
  revert HB k0 hs
  generalize W.alloc (.cells #[.pointer none, .pointer none] 28) = w0
  intro HB k0 hs
  ((with_reducible refine (new_some w0).mono ?_); rintro e w1 ⟨p, m, rfl, hp, hb, hwm, hmp⟩)
  have HP := Lib.hid hp
  have HB1 := Lib.hid (HB.out.trans (hb.mono HB.out.size))
  have k1 := Lib.hid ((hb.block W.heap.size (by omega)).trans k0)
  have hpl := hp.lt
  clear hp hb k0
  go_wp2_with fail
  have hX : Below w1.heap.size w1 ((w1.alloc (.cells #[.slice none 0 0, .int .i64 0, .int .u8 0, .int .u8 0, .int .i64 0, .int .i64 0, .int .u64 0, .int .u64 0, .bool false] 89)).alloc (.cells #[.pointer (some ⟨p, 0, none⟩), .pointer (some ⟨w1.heap.size, 0, none⟩)] 28)) := ((Below.refl _ _).alloc (Nat.le_refl _) _).alloc (by simp) _
  have HPX := Lib.hid (HP.out.below hX)
  have HBX := Lib.hid (HB1.out.trans (hX.mono HB1.out.size))
  have kt := (hX.block W.heap.size (Array.getElem?_eq_some_iff.1 k1.out).1).trans k1.out
  have HKT := Lib.hid kt
  have ka : ((w1.alloc (.cells #[.slice none 0 0, .int .i64 0, .int .u8 0, .int .u8 0, .int .i64 0, .int .i64 0, .int .u64 0, .int .u64 0, .bool false] 89)).alloc (.cells #[.pointer (some ⟨p, 0, none⟩), .pointer (some ⟨w1.heap.size, 0, none⟩)] 28)).heap[w1.heap.size]? = some (.cells #[.slice none 0 0, .int .i64 0, .int .u8 0, .int .u8 0, .int .i64 0, .int .i64 0, .int .u64 0, .int .u64 0, .bool false] 89 (0, 0)) := (Below.heap_alloc _ _ _ (by simp)).trans (World.alloc_heap_new _ _)
  have KA := Lib.hid ka
  have kb : ((w1.alloc (.cells #[.slice none 0 0, .int .i64 0, .int .u8 0, .int .u8 0, .int .i64 0, .int .i64 0, .int .u64 0, .int .u64 0, .bool false] 89)).alloc (.cells #[.pointer (some ⟨p, 0, none⟩), .pointer (some ⟨w1.heap.size, 0, none⟩)] 28)).heap[w1.heap.size + 1]? = some (.cells #[.pointer (some ⟨p, 0, none⟩), .pointer (some ⟨w1.heap.size, 0, none⟩)] 28 (0, 0)) := by
    have := World.alloc_heap_new (w1.alloc (.cells #[.slice none 0 0, .int .i64 0, .int .u8 0, .int .u8 0, .int .i64 0, .int .i64 0, .int .u64 0, .int .u64 0, .bool false] 89)) (.cells #[.pointer (some ⟨p, 0, none⟩), .pointer (some ⟨w1.heap.size, 0, none⟩)] 28)
    simpa using this
  have b0 := Joins.cell_of_block kb 0
  have b1 := Joins.cell_of_block kb 1
  have t0 := Joins.cell_of_block kt 0
  have t1 := Joins.cell_of_block kt 1
  have z0 := Joins.unfrozen_of_block kt 0
  have z1 := Joins.unfrozen_of_block kt 1
  simp only [List.getElem?_toArray, List.getElem?_cons_zero, List.getElem?_cons_succ] at b0 b1 t0 t1
  clear hX kt ka kb HP HB1 k1
  revert HPX HBX HKT KA b0 b1 t0 t1 z0 z1
  generalize ((w1.alloc (.cells #[.slice none 0 0, .int .i64 0, .int .u8 0, .int .u8 0, .int .i64 0, .int .i64 0, .int .u64 0, .int .u64 0, .bool false] 89)).alloc (.cells #[.pointer (some ⟨p, 0, none⟩), .pointer (some ⟨w1.heap.size, 0, none⟩)] 28)) = X
  intro HPX HBX HKT KA z0 z1 b0 b1 t0 t1
  have hWl : W.heap.size < w1.heap.size := by omega
  generalize w1.heap.size = b at *
  refine wp_loop_rounds 1 ?_
  rw [rounds_succ]
  go_wp2_with fail
  have far : ∀ q, q ≠ W.heap.size → ((X.setCell ⟨W.heap.size, 0, none⟩ (.pointer (some ⟨p, 0, none⟩))).setCell ⟨W.heap.size, 1, none⟩ (.pointer (some ⟨b, 0, none⟩))).heap[q]? = X.heap[q]? := fun q hq => (Below.heap_setCell _ _ _ q (by simpa using hq)).trans (Below.heap_setCell _ _ _ q (by simpa using hq))
  refine bodyPost_ret (v := .agg #[.pointer (some ⟨p, 0, none⟩), .pointer (some ⟨b, 0, none⟩)]) (by simp [results, Tryd.results8, go_sem, t0, t1]) rfl ⟨p, m, b, rfl, ⟨HPX.out.keep (far p (by omega)) (far m (by omega)), ⟨.slice none 0 0, (far b (by omega)).trans KA.out, World.ownsRow_nil _ _ _ _, by omega⟩, hmp, hpl⟩, by omega, ?_⟩
  exact (HBX.out.setCell (p := ⟨W.heap.size, 0, none⟩) (Nat.le_refl _) _).setCell (p := ⟨W.heap.size, 1, none⟩) (Nat.le_refl _) _
end Go.Proofs.YtipgidkpjilhoaaDoor
namespace Go.Proofs.YtipgidkpjilhoaaDoor
open Go.RowKit Go.Maps

/-- A store of the law's. -/
structure Sto where
  x : Ad
  v : Int
  hv : (Lit.int .u64 v).wf = true
instance : Inhabited Sto := ⟨⟨default, 0, by decide⟩⟩
def StoCells (W : World) (g off : Nat) (c : Nat → Sto) (n : Nat) : Prop := ∀ i, i < n →
  W.cell? ⟨g, off + i * 4, none⟩ = some (.int .u8 (c i).x.k) ∧ W.cell? ⟨g, off + i * 4 + 1, none⟩ = some (.int .i64 (c i).x.a) ∧ W.cell? ⟨g, off + i * 4 + 2, none⟩ = some (.int .i64 (c i).x.f) ∧ W.cell? ⟨g, off + i * 4 + 3, none⟩ = some (.int .u64 (c i).v)
theorem StoCells.below {W W' : World} {g off : Nat} {c : Nat → Sto} {n : Nat} (h : StoCells W g off c n) (hb : Below W.heap.size W W') : StoCells W' g off c n := fun i hi => by
  have k : ∀ {q j : Nat} {v : Value}, W.cell? ⟨q, j, none⟩ = some v → W'.cell? ⟨q, j, none⟩ = some v := fun {q j v} hc => (hb.cell (p := ⟨q, j, none⟩) (World.block_lt_of_cell? W _ hc)).trans hc
  obtain ⟨h0, h1, h2, h3⟩ := h i hi
  exact ⟨k h0, k h1, k h2, k h3⟩
theorem pair_store2 {p m b n : Nat} {D : DataW Unit} {s : Acc8} {L : List (Ad × Int)} {W : World} (x : Ad) (v : Int) (hv : (Lit.int .u64 v).wf = true) (h : Pr p m b n D s L s W) (hr : Rel D L) (hl : LayM W) (h0 : 0 ≤ s.st) (h1 : s.st < 1000000) (hn : n < 1000000) (hL : L.length ≤ 999) :
    Calls Tryd.prog 13 #[.agg #[.pointer (some ⟨p, 0, none⟩), .pointer (some ⟨b, 0, none⟩)], .agg #[.int .u8 x.k, .int .i64 x.a, .int .i64 x.f, .int .u64 v]] W fun e W' =>
      e = .returned (.tuple #[]) ∧ Pr p m b (n + 1) (storeD D x v) (s.touch 2 x (vals L x) (vals (storeA L x v) x) false) (storeA L x v) (s.touch 2 x (vals L x) (vals (storeA L x v) x) false) W' ∧ Fr p m b W W' := by
  have := pair_store x v hv h hl h0 h1 hn hL h0 h1
  rw [hr.val, (hr.store x v).val] at this
  exact this
/-- Both memories, that say the same, after at most i steps. -/
def Both (p m b i : Nat) (w : World) : Prop := ∃ (n : Nat) (D : DataW Unit) (s : Acc8) (L : List (Ad × Int)), Pr p m b n D s L s w ∧ Rel D L ∧ L.length ≤ i ∧ n ≤ i ∧ 0 ≤ s.st ∧ s.st ≤ i
/-- Between two rounds. -/
structure BegS (W : World) (p m b : Nat) (i : Nat) (wr : World) : Prop where
  mem : Both p m b i wr
  lay : LayM wr
  low : Below W.heap.size W wr
  size : W.heap.size < m
  box : wr.heap[b + 1]? = some (.cells #[.pointer (some ⟨p, 0, none⟩), .pointer (some ⟨b, 0, none⟩)] 28 (0, 0))
  res : wr.heap[W.heap.size]? = some (.cells #[.pointer none, .pointer none] 28 (0, 0))

set_option maxRecDepth 100000 in
set_option maxHeartbeats 4000000 in
theorem begin_any (g off cap nn : Nat) (c : Nat → Sto) (W : World) (hl : LayM W) (hc : StoCells W g off c nn) (hn : nn ≤ 300) : Calls Tryd.prog 8 #[.slice (some ⟨g, off, none⟩) nn cap] W fun e W' => ∃ p m b, e = .returned (.agg #[.pointer (some ⟨p, 0, none⟩), .pointer (some ⟨b, 0, none⟩)]) ∧ Both p m b nn W' ∧ W.heap.size < m ∧ m < p ∧ p < b ∧ Below W.heap.size W W' := by
  have h1W := hl.1
  have HL := Lib.hid hl
  have HC := Lib.hid hc
  clear hl hc
  have hB : Below W.heap.size W (W.alloc (.cells #[.pointer none, .pointer none] 28)) := (Below.refl _ _).alloc (Nat.le_refl _) _
  have HB := Lib.hid hB
  have k0 : (W.alloc (.cells #[.pointer none, .pointer none] 28)).heap[W.heap.size]? = some (.cells #[.pointer none, .pointer none] 28 (0, 0)) := World.alloc_heap_new _ _
  have hs : (W.alloc (.cells #[.pointer none, .pointer none] 28)).heap.size = W.heap.size + 1 := by simp
  clear hB
  go_enter Tryd.func8, Tryd.ntmps8
  go_wp2_with fail
  revert HB k0 hs
  generalize W.alloc (.cells #[.pointer none, .pointer none] 28) = w0
  intro HB k0 hs
  ((with_reducible refine (new_some w0).mono ?_); rintro e w1 ⟨p, m, rfl, hp, hb, hwm, hmp⟩)
  have HP := Lib.hid hp
  have HB1 := Lib.hid (HB.out.trans (hb.mono HB.out.size))
  have k1 := Lib.hid ((hb.block W.heap.size (by omega)).trans k0)
  have hpl := hp.lt
  clear hp hb k0
  go_wp2_with fail
  have hX : Below w1.heap.size w1 ((w1.alloc (.cells #[.slice none 0 0, .int .i64 0, .int .u8 0, .int .u8 0, .int .i64 0, .int .i64 0, .int .u64 0, .int .u64 0, .bool false] 89)).alloc (.cells #[.pointer (some ⟨p, 0, none⟩), .pointer (some ⟨w1.heap.size, 0, none⟩)] 28)) := ((Below.refl _ _).alloc (Nat.le_refl _) _).alloc (by simp) _
  have HPX := Lib.hid (HP.out.below hX)
  have HBX := Lib.hid (HB1.out.trans (hX.mono HB1.out.size))
  have kt := (hX.block W.heap.size (Array.getElem?_eq_some_iff.1 k1.out).1).trans k1.out
  have HKT := Lib.hid kt
  have ka : ((w1.alloc (.cells #[.slice none 0 0, .int .i64 0, .int .u8 0, .int .u8 0, .int .i64 0, .int .i64 0, .int .u64 0, .int .u64 0, .bool false] 89)).alloc (.cells #[.pointer (some ⟨p, 0, none⟩), .pointer (some ⟨w1.heap.size, 0, none⟩)] 28)).heap[w1.heap.size]? = some (.cells #[.slice none 0 0, .int .i64 0, .int .u8 0, .int .u8 0, .int .i64 0, .int .i64 0, .int .u64 0, .int .u64 0, .bool false] 89 (0, 0)) := (Below.heap_alloc _ _ _ (by simp)).trans (World.alloc_heap_new _ _)
  have KA := Lib.hid ka
  have kb : ((w1.alloc (.cells #[.slice none 0 0, .int .i64 0, .int .u8 0, .int .u8 0, .int .i64 0, .int .i64 0, .int .u64 0, .int .u64 0, .bool false] 89)).alloc (.cells #[.pointer (some ⟨p, 0, none⟩), .pointer (some ⟨w1.heap.size, 0, none⟩)] 28)).heap[w1.heap.size + 1]? = some (.cells #[.pointer (some ⟨p, 0, none⟩), .pointer (some ⟨w1.heap.size, 0, none⟩)] 28 (0, 0)) := by
    have := World.alloc_heap_new (w1.alloc (.cells #[.slice none 0 0, .int .i64 0, .int .u8 0, .int .u8 0, .int .i64 0, .int .i64 0, .int .u64 0, .int .u64 0, .bool false] 89)) (.cells #[.pointer (some ⟨p, 0, none⟩), .pointer (some ⟨w1.heap.size, 0, none⟩)] 28)
    simpa using this
  have KB := Lib.hid kb
  have b0 := Joins.cell_of_block kb 0
  have b1 := Joins.cell_of_block kb 1
  have t0 := Joins.cell_of_block kt 0
  have t1 := Joins.cell_of_block kt 1
  have z0 := Joins.unfrozen_of_block kt 0
  have z1 := Joins.unfrozen_of_block kt 1
  simp only [List.getElem?_toArray, List.getElem?_cons_zero, List.getElem?_cons_succ] at b0 b1 t0 t1
  clear hX kt ka kb HP HB1 k1
  revert HPX HBX HKT KA KB b0 b1 t0 t1 z0 z1
  generalize ((w1.alloc (.cells #[.slice none 0 0, .int .i64 0, .int .u8 0, .int .u8 0, .int .i64 0, .int .i64 0, .int .u64 0, .int .u64 0, .bool false] 89)).alloc (.cells #[.pointer (some ⟨p, 0, none⟩), .pointer (some ⟨w1.heap.size, 0, none⟩)] 28)) = X
  intro HPX HBX HKT KA KB z0 z1 b0 b1 t0 t1
  have hWl : W.heap.size < w1.heap.size := by omega
  generalize w1.heap.size = b at *
  have HS := Lib.hid (show BegS W p m b 0 X from ⟨⟨0, .map [], z8, [], ⟨HPX.out, ⟨.slice none 0 0, KA.out, World.ownsRow_nil _ _ _ _, by omega⟩, hmp, hpl⟩, rel_nil, Nat.le_refl _, Nat.le_refl _, by decide, by decide⟩, HL.out.below HBX.out, HBX.out, by omega, KB.out, HKT.out⟩)
  clear HPX HKT KA KB HBX z0 z1 b0 b1 t0 t1
  have hWm : W.heap.size < m := by omega
  clear hs hwm
  go_loopw [4] (fun j wr => ∃ i : Nat, i ≤ nn ∧ j = .int .i64 (i : Int) ∧ Hid (BegS W p m b i wr)) (fun j _ => nn - (intOf j).toNat)
  case atStart => exact ⟨0, Nat.zero_le _, rfl, HS⟩
  case round =>
    obtain ⟨i, hi, rfl, hst⟩ := hrel
    have b0 := Joins.cell_of_block hst.out.box 0
    have b1 := Joins.cell_of_block hst.out.box 1
    simp only [List.getElem?_toArray, List.getElem?_cons_zero, List.getElem?_cons_succ] at b0 b1
    by_cases hlt : i < nn
    · have hlt' : (i : Int) < (nn : Int) := by omega
      have h300 : (i : Int) < 300 := by omega
      have hge : (0 : Int) ≤ (i : Int) := by omega
      obtain ⟨d0, d1, d2, d3⟩ := (HC.out.below hst.out.low) i hlt
      generalize c i = s at d0 d1 d2 d3
      obtain ⟨x, v, hv⟩ := s
      dsimp only at d0 d1 d2 d3
      have HV := Lib.hid hv
      clear hv
      go_wp2_with fail
      refine wp_region_still_tail 5 (by kernel_rfl) (by kernel_rfl) ?_
      change wpStill _ _ wr.drew (fun a' => wpList _ _ _ _ a' wr.drew) _ _
      have HD := Lib.hid (Below.refl wr.heap.size wr).drew
      have b0' : wr.drew.cell? ⟨b + 1, 0, none⟩ = some (.pointer (some ⟨p, 0, none⟩)) := b0
      have b1' : wr.drew.cell? ⟨b + 1, 1, none⟩ = some (.pointer (some ⟨b, 0, none⟩)) := b1
      have d0' : wr.drew.cell? ⟨g, off + i * 4, none⟩ = some (.int .u8 x.k) := d0
      have d1' : wr.drew.cell? ⟨g, off + i * 4 + 1, none⟩ = some (.int .i64 x.a) := d1
      have d2' : wr.drew.cell? ⟨g, off + i * 4 + 2, none⟩ = some (.int .i64 x.f) := d2
      have d3' : wr.drew.cell? ⟨g, off + i * 4 + 3, none⟩ = some (.int .u64 v) := d3
      clear b0 b1 d0 d1 d2 d3
      simp only [List.take_succ_cons, List.take_zero, List.drop_succ_cons, List.drop_zero]
      iterate 5 still_step
      refine wpStill_nil ?_
      obtain ⟨n, D, s, L, hp, hr, hL, hn3, hs0, hs1⟩ := hst.out.mem
      have HP := Lib.hid (hp.below HD.out)
      have HR := Lib.hid hr
      have HLY := Lib.hid (hst.out.lay.below HD.out)
      clear hp hr
      have HS1 := Lib.hid (show s.st < 1000000 by omega)
      have HN9 := Lib.hid (show n < 1000000 by omega)
      have HL9 := Lib.hid (show L.length ≤ 999 by omega)
      go_wp2_with fail
      ((with_reducible refine (pair_store2 x v HV.out HP.out HR.out HLY.out hs0 HS1.out HN9.out HL9.out).mono ?_); rintro e wD ⟨rfl, hp, hf⟩)
      clear b0' b1' d0' d1' d2' d3'
      have hpl := hp.lt
      have HB := Lib.hid (show BegS W p m b (i + 1) wD from ⟨⟨n + 1, _, _, _, hp, HR.out.store x v, by have := storeA_len L x v; omega, by omega, by show 0 ≤ s.st + 1; omega, by show s.st + 1 ≤ _; omega⟩, hf.lay (by omega) HLY.out, (hst.out.low.trans (HD.out.mono hst.out.low.size)).trans (hf.low.mono (by omega)), hWm, hf.cell ((HD.out.block _ (Array.getElem?_eq_some_iff.1 hst.out.box).1).trans hst.out.box) (by decide) (by omega) (by omega), (hf.low.block _ (by omega)).trans ((HD.out.block _ (by have := hst.out.low.size; have := (Array.getElem?_eq_some_iff.1 hst.out.res).1; omega)).trans hst.out.res)⟩)
      clear hp hf
      go_wp2_with fail
      go_roundw
      case rel => exact ⟨i + 1, by omega, by go_num, HB⟩
      case measure => simp [intOf]; omega
    · have hlt' : (nn : Int) ≤ (i : Int) := by omega
      have hin : i = nn := by omega
      have kt := hst.out.res
      have t0 := Joins.cell_of_block kt 0
      have t1 := Joins.cell_of_block kt 1
      have z0 := Joins.unfrozen_of_block kt 0
      have z1 := Joins.unfrozen_of_block kt 1
      simp only [List.getElem?_toArray, List.getElem?_cons_zero, List.getElem?_cons_succ] at t0 t1
      clear kt
      have HIN := Lib.hid hin
      clear hin
      go_wp2_with fail
      have far : ∀ q, q ≠ W.heap.size → ((wr.setCell ⟨W.heap.size, 0, none⟩ (.pointer (some ⟨p, 0, none⟩))).setCell ⟨W.heap.size, 1, none⟩ (.pointer (some ⟨b, 0, none⟩))).heap[q]? = wr.heap[q]? := fun q hq => (Below.heap_setCell _ _ _ q (by simpa using hq)).trans (Below.heap_setCell _ _ _ q (by simpa using hq))
      obtain ⟨n, D, s, L, hp, hr, hL, hn3, hs0, hs1⟩ := hst.out.mem
      refine bodyPost_ret (v := .agg #[.pointer (some ⟨p, 0, none⟩), .pointer (some ⟨b, 0, none⟩)]) (by simp [results, Tryd.results8, go_sem, t0, t1]) rfl ⟨p, m, b, rfl, ⟨n, D, s, L, ⟨hp.prog.keep (far p (by omega)) (far m (by omega)), ?_, hmp, hpl⟩, hr, by have := HIN.out; omega, by have := HIN.out; omega, hs0, by have := HIN.out; omega⟩, hWm, hmp, hpl, (hst.out.low.setCell (p := ⟨W.heap.size, 0, none⟩) (Nat.le_refl _) _).setCell (p := ⟨W.heap.size, 1, none⟩) (Nat.le_refl _) _⟩
      obtain ⟨v, hv⟩ := hp.ref
      exact ⟨v, hv.keep (Nat.le_refl _) fun q hq _ => far q (by omega)⟩
theorem begin_none (W : World) (hl : LayM W) : Calls Tryd.prog 8 #[.slice none 0 0] W fun e W' => ∃ p m b, e = .returned (.agg #[.pointer (some ⟨p, 0, none⟩), .pointer (some ⟨b, 0, none⟩)]) ∧ Both p m b 0 W' ∧ W.heap.size ≤ m ∧ m < p ∧ p < b ∧ Below W.heap.size W W' := by
  refine (begin_nil W (by have := hl.1; omega)).mono ?_
  rintro e W' ⟨p, m, b, rfl, hp, h1, h2⟩
  exact ⟨p, m, b, rfl, ⟨0, _, _, _, hp, rel_nil, Nat.le_refl _, Nat.le_refl _, by decide, by decide⟩, h1, hp.mp, hp.pb, h2⟩
end Go.Proofs.YtipgidkpjilhoaaDoor
