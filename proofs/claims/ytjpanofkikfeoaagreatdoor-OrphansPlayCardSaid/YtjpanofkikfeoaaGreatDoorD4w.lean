/-
  The two memories of layer 2 side by side: their words, in order; condition: both say the same.
  The law's pair of memories: have both the same words? They have; condition: both lie as they say, and say the same.
-/
import Derived.Test.YtjpanofkikfeoaaGreatDoorD0
import Derived.Test.YtjpanofkikfeoaaGreatDoorD4
import Derived.Test.YtjpanofkikfeoaaGreatDoorV0
import Derived.Test.YtjpanofkikfeoaaGreatDoorD6
namespace Go.Proofs.YtjpanofkikfeoaaGreatDoor
open Go.RowKit Go.Maps

theorem valOf_eq (D : DataW Unit) (x : Ad) : valOf D x = valD D x := by
  unfold valOf valD
  generalize D.atKey x.lit (.lit (.int .u64 0)) = d
  cases d with
  | lit l => cases l <;> rfl
  | _ => rfl
theorem apart_of (L : List (Ad × Int)) (h : (L.map Prod.fst).Nodup) : Apart (L.map toWd) := by
  unfold Apart
  rw [List.pairwise_map]
  rw [List.nodup_iff_pairwise_ne, List.pairwise_map] at h
  exact h.imp fun hne e => hne (Ad.ext e)
theorem Rel.words {D : DataW Unit} {L : List (Ad × Int)} (h : Rel D L) {ts : List Ad} (ht : Addrs D ts) : wordsF (L.map toWd) = ts.map fun x => toWd (x, valD D x) := by
  obtain ⟨s1, s2⟩ := wordsF_spec (L.map toWd) [] (apart_of L h.nodup) List.Pairwise.nil (fun x hx => by cases hx)
  refine sorted_ext (r := fun x z => lessW x z = true) lessW_irr lessW_asy _ _ s1 ?_ fun z => ?_
  · rw [List.pairwise_map]
    exact ht.1.imp fun hh => hh
  · show z ∈ (L.map toWd).foldl stepW [] ↔ _
    rw [s2 z]
    constructor
    · rintro (hz | ⟨hz, hv⟩)
      · cases hz
      · obtain ⟨⟨x, v⟩, hm, rfl⟩ := List.mem_map.1 hz
        have e := vals_of_mem L h.nodup x v hm
        have e' : valD D x = v := (h.val x).trans e
        refine List.mem_map.2 ⟨x, (ht.2.1 x).2 ((h.has x).2 (by rw [e']; exact hv)), by rw [e']⟩
    · intro hz
      obtain ⟨x, hx, rfl⟩ := List.mem_map.1 hz
      have hne := (h.has x).1 ((ht.2.1 x).1 hx)
      refine .inr ⟨List.mem_map.2 ⟨(x, valD D x), ?_, rfl⟩, hne⟩
      rw [h.val x] at hne ⊢
      exact mem_of_vals L x hne
end Go.Proofs.YtjpanofkikfeoaaGreatDoor
namespace Go.Proofs.YtjpanofkikfeoaaGreatDoor
open Go.RowKit Go.Maps

theorem flatW_words (D : DataW Unit) (ts : List Ad) : flatW (wordsOf D ts) = flat (ts.map fun x => toWd (x, valD D x)) := by
  induction ts with
  | nil => rfl
  | cons x r ih =>
    show wordCells (x, valOf D x) ++ flatW (wordsOf D r) = (toWd (x, valD D x)).cells ++ flat (r.map fun x => toWd (x, valD D x))
    rw [ih, valOf_eq]
    rfl
theorem Rel.none {D : DataW Unit} {L : List (Ad × Int)} (h : Rel D L) {w : World} {m n : Nat} (hown : w.ownsMap Tryz.prog 34 (plainElem Tryz.prog 35) m n D) (hz : Maps.size D = 0) : wordsF (L.map toWd) = [] := by
  have hn : ((L.filter fun y => decide (y.2 ≠ 0)).map Prod.fst).Nodup := h.nodup.sublist (List.Sublist.map _ List.filter_sublist)
  have hm : ∀ x : Ad, x ∈ (L.filter fun y => decide (y.2 ≠ 0)).map Prod.fst ↔ Maps.has D x.lit = true := fun x => by
    rw [h.has x, h.val x, List.mem_map]
    constructor
    · rintro ⟨⟨y, v⟩, hy, rfl⟩
      obtain ⟨h1, h2⟩ := List.mem_filter.1 hy
      rw [vals_of_mem L h.nodup y v h1]
      simpa using h2
    · intro hx
      exact ⟨(x, vals L x), List.mem_filter.2 ⟨mem_of_vals L x hx, by simpa using hx⟩, rfl⟩
  have hl := own_size hown hn hm
  rw [hz] at hl
  have he := List.length_eq_zero_iff.1 hl
  rw [he] at hm
  rw [h.words (ts := []) ⟨List.Pairwise.nil, hm, hz.symm⟩]
  rfl
/-- What Words of the program leaves. -/
def RowA (sl : List Wd) (B : Nat) (v : Value) (W : World) : Prop :=
  (v = .slice none 0 0 ∧ sl = []) ∨ (∃ g, v = .slice (some ⟨g, 0, none⟩) sl.length sl.length ∧ W.ownsRow B 92 4 (.slice (some ⟨g, 0, none⟩) sl.length sl.length) sl.length (flat sl) ∧ 0 < sl.length)
section
variable {p m b n : Nat} {D : DataW Unit} {s r : Acc8} {L : List (Ad × Int)} {W : World}
theorem words_p (h : Pr p m b n D s L r W) (hr : Rel D L) (hL : L.length ≤ 4999) :
    Calls Tryz.prog 33 #[.pointer (some ⟨p, 0, none⟩)] W fun e W' => ∃ v, e = .returned v ∧ RowA (wordsF (L.map toWd)) W.heap.size v W' ∧ Below W.heap.size W W' := by
  have hsz := hr.size h.prog.own
  by_cases hz : Maps.size D = 0
  · refine (words_none p m n D hz W (h.prog.cell 0) h.prog.own).mono ?_
    rintro e W' ⟨rfl, rfl⟩
    exact ⟨_, rfl, .inl ⟨rfl, hr.none h.prog.own hz⟩, Below.refl _ _⟩
  · refine (words_any p m n D (by omega) (by omega) _ _ W h.prog.blk rfl h.prog.own).mono ?_
    rintro e W' ⟨g, ts, rfl, hts, hrow, hb⟩
    have hw := hr.words hts
    have hl : (wordsF (L.map toWd)).length = ts.length := by rw [hw, List.length_map]
    rw [flatW_words, ← hw, ← hl] at hrow
    rw [← hl]
    exact ⟨_, rfl, .inr ⟨g, rfl, hrow, by have := hts.2.2; omega⟩, hb⟩
theorem words_r (h : Pr p m b n D s L r W) (hL : L.length ≤ 4999) : Calls Tryz.prog 34 #[.pointer (some ⟨b, 0, none⟩)] W (RefWords (L.map toWd) W) := by
  obtain ⟨v, h2⟩ := h.ref
  exact ref_words_any b b (L.map toWd) v _ W h2 (by simp; omega)
theorem neq_addr (k a f : Int) (w : World) : (binOp .neq 34 (.agg #[.int .u8 k, .int .i64 a, .int .i64 f]) (.agg #[.int .u8 k, .int .i64 a, .int .i64 f])).run Tryz.prog w = .ok (.bool false) w := by
  have hS : Tryz.prog.underlying 34 = some (.struct (Tryz.prog.fieldsOf 34)) := by kernel_rfl
  have hp : Tryz.prog.stoodInHeld 34 = false := by kernel_rfl
  rw [run_neq_struct, show (10000 : Nat) = 9999 + 1 from rfl, run_equalIn_agg w 9999 34 _ _ hS hp]
  simp only [Program.fieldsOf, Tryz.underlying34]
  go_simp
theorem own_cells43 {w : World} {B g cap : Nat} {l : List Wd} (h : w.ownsRow B 92 4 (.slice (some ⟨g, 0, none⟩) l.length cap) l.length (flat l)) : WdCells w g l := fun i hi => by
  have k : ∀ j, j < 4 → w.cell? ⟨g, i * 4 + j, none⟩ = (l.getD i wd0).cells[j]? := fun j hj => (h.cellAt (i * 4 + j) (by omega)).trans (flat_at l i j hi hj)
  exact ⟨k 0 (by decide), k 1 (by decide), k 2 (by decide), k 3 (by decide)⟩
theorem WdCells.below {w w' : World} {g : Nat} {l : List Wd} (h : WdCells w g l) (hb : Below w.heap.size w w') : WdCells w' g l := fun i hi => by
  have k : ∀ {q j : Nat} {v : Value}, w.cell? ⟨q, j, none⟩ = some v → w'.cell? ⟨q, j, none⟩ = some v := fun {q j v} hc => (hb.cell (p := ⟨q, j, none⟩) (World.block_lt_of_cell? w _ hc)).trans hc
  obtain ⟨h0, h1, h2, h3⟩ := h i hi
  exact ⟨k h0, k h1, k h2, k h3⟩
set_option maxRecDepth 100000 in
set_option maxHeartbeats 2000000 in
theorem pair_words (h : Pr p m b n D s L r W) (hr : Rel D L) (hL : L.length ≤ 4999) :
    Calls Tryz.prog 15 #[.agg #[.pointer (some ⟨p, 0, none⟩), .pointer (some ⟨b, 0, none⟩)]] W fun e W' => e = .returned (.bool true) ∧ Below W.heap.size W W' := by
  have hB : Below W.heap.size W (W.alloc (.cells #[.pointer (some ⟨p, 0, none⟩), .pointer (some ⟨b, 0, none⟩)] 28)) := (Below.refl _ _).alloc (Nat.le_refl _) _
  have HP := Lib.hid (h.below hB)
  have HB := Lib.hid hB
  have HR := Lib.hid hr
  have k0 : (W.alloc (.cells #[.pointer (some ⟨p, 0, none⟩), .pointer (some ⟨b, 0, none⟩)] 28)).heap[W.heap.size]? = some (.cells #[.pointer (some ⟨p, 0, none⟩), .pointer (some ⟨b, 0, none⟩)] 28 (0, 0)) := World.alloc_heap_new _ _
  have c0 := Joins.cell_of_block k0 0
  have c1 := Joins.cell_of_block k0 1
  simp only [List.getElem?_toArray, List.getElem?_cons_zero, List.getElem?_cons_succ] at c0 c1
  clear h hB k0 hr
  go_enter Tryz.func15, Tryz.ntmps15
  go_wp2_with fail
  revert HB HP c0 c1
  generalize W.alloc (.cells #[.pointer (some ⟨p, 0, none⟩), .pointer (some ⟨b, 0, none⟩)] 28) = w0
  intro HP HB c0 c1
  ((with_reducible refine (words_p HP.out HR.out hL).mono ?_); rintro e w1 ⟨va, rfl, ha, hb1⟩)
  have HP1 := Lib.hid (HP.out.below hb1)
  have HB1 := Lib.hid (HB.out.trans (hb1.mono HB.out.size))
  have d1 := (hb1.cell (p := ⟨W.heap.size, 1, none⟩) (World.block_lt_of_cell? w0 _ c1)).trans c1
  have HA := Lib.hid ha
  clear hb1 ha c0 c1
  go_wp2_with fail
  ((with_reducible refine (words_r HP1.out hL).mono ?_); rintro e w2 ⟨vb, rfl, hb, hb2⟩)
  have HB2 := Lib.hid (HB1.out.trans (hb2.mono HB1.out.size))
  have hsn : (wordsF (L.map toWd)).length ≤ 5000 := by have := wordsF_le (L.map toWd) (L.map toWd).length; rw [List.take_length] at this; simp at this; omega
  rcases HA.out with ⟨rfl, h0⟩ | ⟨g, rfl, hrow, hpos⟩
  · rw [h0] at hb
    clear HA hsn d1
    rcases hb.2 with ⟨hv, _⟩ | ⟨g2, cap2, cur2, hv, _⟩
    · subst hv
      clear hb
      go_wp2_with fail
      refine wp_loop_rounds 1 ?_
      rw [rounds_succ]
      go_wp2_with fail
      go_ret
      exact ⟨rfl, HB2.out⟩
    · subst hv
      clear hb
      go_wp2_with fail
      refine wp_loop_rounds 1 ?_
      rw [rounds_succ]
      go_wp2_with fail
      go_ret
      exact ⟨rfl, HB2.out⟩
  · have HC := Lib.hid ((own_cells43 hrow).below hb2)
    generalize wordsF (L.map toWd) = sl at hb HC hpos hsn
    rcases hb.2 with ⟨_, hn0⟩ | ⟨g2, cap2, cur2, hv, _⟩
    · omega
    · subst hv
      have HD := Lib.hid (own_cells hb)
      clear hb hrow HA d1
      go_wp2_with fail
      go_loopw [5] (fun j wr => ∃ i d : Nat, i ≤ sl.length ∧ j = .int .i64 (i : Int) ∧ wr = w2.drewN d) (fun j _ => sl.length - (intOf j).toNat)
      case atStart => exact ⟨0, 0, Nat.zero_le _, rfl, rfl⟩
      case round =>
        obtain ⟨i, d, hi, rfl, rfl⟩ := hrel
        by_cases hlt : i < sl.length
        · obtain ⟨e0, e1, e2, e3⟩ := HC.out i hlt
          obtain ⟨f0, f1, f2, f3⟩ := HD.out i hlt
          have hlt' : (i : Int) < (sl.length : Int) := by omega
          have hge : (0 : Int) ≤ (i : Int) := by omega
          generalize sl.getD i wd0 = y at e0 e1 e2 e3 f0 f1 f2 f3
          have hq := neq_addr y.k y.a y.f
          go_wp2
          go_quiet (fail)
          go_wp2
          go_roundw
          case rel => exact ⟨i + 1, d + nq, by omega, by go_num, rfl⟩
          case measure => simp [intOf]; omega
        · have hge : (sl.length : Int) ≤ (i : Int) := by omega
          go_wp2
          go_ret
          exact ⟨rfl, below_drewNM' HB2.out _⟩
end
end Go.Proofs.YtjpanofkikfeoaaGreatDoor
