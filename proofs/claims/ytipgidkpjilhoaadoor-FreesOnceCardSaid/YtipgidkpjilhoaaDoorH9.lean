/-
  Threads at first; where their rows lie; a row of numbers put behind a row of the call's own; how often each number is in a list; no condition.
-/
import Derived.Test.YtipgidkpjilhoaaDoorF11
import Derived.Maps.AppendAt
namespace Go.Proofs.YtipgidkpjilhoaaDoor
open Go.RowKit Go.Maps

def zT : Value := .agg #[.slice none 0 0, .pointer none, .pointer none]
theorem Tryd_infoT : (Tryd.prog.info? 73).map (fun i => (i.zero, i.size, i.bytes)) = some (some zT, 3, 40) := by kernel_rfl
theorem made_T : (madeCells zT.cells (6 * 3)).toList = (List.range 18).map fun i => if i % 3 = 0 then Value.slice none 0 0 else .pointer none := by kernel_rfl
/-- Six threads that have nothing. -/
theorem ts0 {p b G st n : Nat} {M : MS} {w0 w : World} (F : FM p b st M w) (hst : st ≤ n) (hb : Below w0.heap.size w0 w) (hp : w0.heap.size ≤ p) (hbb : w0.heap.size ≤ b) (hG : w0.heap.size ≤ G) {base : Nat}
    (ho : w.ownsRow base 73 3 (.slice (some ⟨G, 0, none⟩) 6 6) 6 (madeCells zT.cells (6 * 3)).toList) : TS w0.heap.size p b G n th0 M w0 w := by
  refine ⟨fun _ => .slice none 0 0, fun _ => 0, st, hst, ⟨F, hp, hbb, hG, ?_, fun k _ => HRow.nil _ _, fun k _ => trivial, fun j k _ _ _ g hg => by simp [hblk] at hg, fun j k _ _ _ h => absurd rfl h⟩, hb⟩
  rw [made_T] at ho
  rcases ho.2 with ⟨e, _⟩ | ⟨g, cap, cur, e, _, hh, _, _, hs, ht⟩
  · cases e
  · injection e with e1 _ e2
    injection e1 with e1
    injection e1 with e1
    subst e1 e2
    have hc : cur.toList = (List.range 18).map fun i => if i % 3 = 0 then Value.slice none 0 0 else .pointer none := by
      rw [← ht, List.take_of_length_le (by simp [hs])]
    have hx : ∀ i, i < 18 → cur[i]? = some (if i % 3 = 0 then Value.slice none 0 0 else .pointer none) := fun i hi => by
      rw [← Array.getElem?_toList, hc, List.getElem?_map, List.getElem?_range hi]
      rfl
    refine ⟨cur, hh, hs, fun k hk => ⟨?_, ?_, ?_⟩⟩
    · rw [hx _ (by omega), if_pos (by omega)]
    · rw [hx _ (by omega), if_neg (by omega)]; rfl
    · rw [hx _ (by omega), if_neg (by omega)]; rfl

/-- Where the threads' rows lie: below N. -/
def Rows6 (N G : Nat) (th : Nat → Th) (w : World) : Prop := ∀ k, k < 6 → ∃ A c, w.cell? ⟨G, k * 3, none⟩ = some (.slice A (th k).held.length c) ∧ HRow w 0 (.slice A (th k).held.length c) (th k).held ∧ G < N ∧ ∀ g, hblk (.slice A (th k).held.length c) = some g → g < N
theorem Rows6.keep {N G : Nat} {th : Nat → Th} {w w' : World} (h : Rows6 N G th w) (hb : Below N w w') : Rows6 N G th w' := by
  intro k hk
  obtain ⟨A, c, h1, h2, h3, h4⟩ := h k hk
  exact ⟨A, c, (World.cell?_of_block (a := ⟨G, k * 3, none⟩) (hb.block G h3)).trans h1, h2.same fun g hg => hb.block g (h4 g hg), h3, h4⟩
theorem HRow.low {w : World} {B B' : Nat} {v : Value} {xs : List Int} (h : HRow w B v xs) (hB : B' ≤ B) : HRow w B' v xs := by
  obtain ⟨A, c, h1, h2, h3, h4, h5⟩ := h
  refine ⟨A, c, h1, h2, h3, h4, fun hc => ?_⟩
  obtain ⟨g, off, cur, e1, e2, e3⟩ := h5 hc
  exact ⟨g, off, cur, e1, by omega, e3⟩
theorem TS.rows6 {B p b G n : Nat} {th : Nat → Th} {M : MS} {w0 w w' : World} (h : TS B p b G n th M w0 w) (ho : Only p b w w') : Rows6 w.heap.size G th w' := by
  obtain ⟨hv, qs, st, _, W, _⟩ := h
  intro k hk
  obtain ⟨cur, b1, b2, b3⟩ := W.blk
  obtain ⟨g1, g2⟩ := (W.tl hk).G_ne
  have hG := (Array.getElem?_eq_some_iff.1 b1).1
  have hr := W.row k hk
  obtain ⟨A, c, e, _⟩ := id hr
  have h6 := (W.tl hk).cells.1
  rw [e] at h6 hr
  refine ⟨A, c, ?_, (hr.low (Nat.zero_le _)).same fun g hg => ho.block g (hr.lt hg).2.1 (hr.kindM hg W.fm).1 (hr.kindM hg W.fm).2, hG, fun g hg => (hr.lt hg).2.1⟩
  rw [Nat.mul_comm]
  exact (World.cell?_of_block (a := ⟨G, 3 * k, none⟩) (ho.block G hG g1 g2)).trans h6
theorem TS.fmOf {B p b G n : Nat} {th : Nat → Th} {M : MS} {w0 w : World} (h : TS B p b G n th M w0 w) : ∃ st, st ≤ n ∧ FM p b st M w ∧ Below B w0 w ∧ B ≤ p ∧ B ≤ b := by
  obtain ⟨hv, qs, st, h1, W, h2⟩ := h
  exact ⟨st, h1, W.fm, h2, W.pB, W.bB⟩

set_option maxRecDepth 100000 in
/-- A row of numbers goes behind a row of the call's own. -/
theorem append_ints {w : World} {ops : Array Oper} {rest : List Oper} {o : Oper} {a : Act} {Q : Exit → Act → World → Prop} (hgd : o.guard = none) (s x : Operand)
    (ho : o.op = .call { callee := .builtin .append, args := #[s, x], argTypes := #[71, 71] })
    (base : Nat) (v : Value) (xs : List Int) (hs : a.eval s = v) (hown : w.ownsRow base 3 1 v xs.length (xs.map iV)) (A : Option Addr) (c : Nat) (l : List Int) (hx : a.eval x = .slice A l.length c)
    (H : HRow w 0 (.slice A l.length c) l) (hlen : xs.length + l.length ≤ 100000) (hbase : base ≤ w.heap.size)
    (h : ∀ v' w', w'.ownsRow base 3 1 v' (xs ++ l).length ((xs ++ l).map iV) → w.grownBy w' v.ownBlock → (v'.ownBlock = v.ownBlock ∨ v'.ownBlock = some w.heap.size) → wpList Tryd.prog ops Q rest (a.put o.dst v') w') : wpList Tryd.prog ops Q (o :: rest) a w := by
  obtain ⟨i0, hi, hz0, hz1, hz2⟩ := info_parts Tryd_infoI
  obtain ⟨A', c', e, h2, h3, h4, h5⟩ := H
  injection e with e1 _ e2
  subst e1 e2
  cases A with
  | none =>
    obtain rfl := h4 rfl
    have hl : l = [] := List.eq_nil_of_length_eq_zero (by omega)
    subst hl
    refine wpList_append_own_none hgd s x 71 ho base 3 i0 1 Tryd.underlying71 hi v xs.length (xs.map iV) hs hown hx ?_
    refine h v w ?_ ⟨rfl, rfl, rfl, Nat.le_refl _, fun _ _ _ => rfl⟩ (.inl rfl)
    rw [List.append_nil]
    exact hown
  | some ad =>
    refine wpList_append_own_at w hgd s x 71 ho base 3 i0 _ 1 8 Tryd.underlying71 hi hz0 hz1 hz2 rfl (by decide) v xs.length (xs.map iV) hs hown ad l.length c (l.map iV) hx (by rw [List.length_map, Nat.mul_one]) (fun j u hu => ?_) (fun u hu => ?_) (by unfold maxLen; omega) (by omega) hbase ?_
    · have hj : j < l.length := by have := (List.getElem?_eq_some_iff.1 hu).1; simpa using this
      obtain ⟨g, off, cur, e, _, e3, e4, e5⟩ := h5 (by omega)
      injection e with e
      subst e
      rw [ints_at 0 hj] at hu
      have ea : (⟨g, off, none⟩ : Addr).add j = ⟨g, off + j, none⟩ := by simp [Addr.add]
      rw [← hu, ea]
      exact (cell_of_row w g (off + j) cur 3 (0, 0) e3).trans (e5 j hj)
    · obtain ⟨z, _, rfl⟩ := List.mem_map.1 hu
      rfl
    · intro v' w' h6 h7 _ h8
      refine h v' w' ?_ h7 h8
      rw [List.length_append, List.map_append]
      exact h6

/-- How often each of n numbers is in a list. -/
def cntV (n : Nat) (L : List Int) : List Int := (List.range n).map fun z : Nat => ((L.count (z : Int) : Nat) : Int)
theorem cntV_len (n : Nat) (L : List Int) : (cntV n L).length = n := by simp [cntV]
theorem cntV_at {n : Nat} (L : List Int) {z : Nat} (h : z < n) : ((cntV n L).map iV)[z]? = some (.int .i64 ((L.count (z : Int) : Nat) : Int)) := by simp [cntV, iV, h]
theorem cntV_nil (n : Nat) : (madeCells (Value.int .i64 0).cells (n * 1)).toList = (cntV n []).map iV := by
  rw [Nat.mul_one, show (Value.int .i64 0).cells = #[Value.int .i64 0] from rfl, toList_madeCells_one]
  apply List.ext_getElem?
  intro i
  simp [cntV, List.getElem?_replicate]
  split <;> simp_all [iV]
theorem cntV_set {n : Nat} (L : List Int) {z : Nat} (h : z < n) : ((cntV n L).map iV).set z (.int .i64 (((L.count (z : Int) : Nat) : Int) + 1)) = (cntV n (L ++ [(z : Int)])).map iV := by
  apply List.ext_getElem?
  intro i
  rw [List.getElem?_set]
  by_cases hi : i < n
  · rw [cntV_at _ hi, cntV_at _ hi, List.length_map, cntV_len]
    by_cases e : z = i
    · subst e
      simp [h]
    · have : ¬ (z : Int) = (i : Int) := by omega
      simp [e, this, List.count_append]
  · have e1 : ((cntV n L).map iV)[i]? = none := List.getElem?_eq_none (by rw [List.length_map, cntV_len]; omega)
    have e2 : ((cntV n (L ++ [(z : Int)])).map iV)[i]? = none := List.getElem?_eq_none (by rw [List.length_map, cntV_len]; omega)
    rw [e1, e2, if_neg (by omega)]
theorem take_cnt {L : List Int} {i : Nat} (h : i < L.length) : L.take (i + 1) = L.take i ++ [L.getD i 0] := by
  rw [List.take_add_one, List.getElem?_eq_getElem h]
  simp [List.getD_eq_getElem?_getD, List.getElem?_eq_getElem h]
/-- What is in a whole list is one of n numbers. -/
theorem whole_at {n : Nat} {L : List Int} (hc : ∀ z, L.count z = if 0 ≤ z ∧ z < n then 1 else 0) {i : Nat} (h : i < L.length) : ∃ z : Nat, L.getD i 0 = (z : Int) ∧ z < n ∧ L.count (z : Int) ≤ 1 := by
  have hg : L.getD i 0 = L[i] := by simp [List.getD_eq_getElem?_getD, List.getElem?_eq_getElem h]
  have h1 := hc (L[i])
  have h2 := List.count_pos_iff.2 (List.getElem_mem h)
  have hin : 0 ≤ L[i] ∧ L[i] < n := by
    split at h1
    · assumption
    · omega
  refine ⟨L[i].toNat, by rw [hg]; omega, by omega, ?_⟩
  rw [Int.toNat_of_nonneg hin.1, h1, if_pos hin]
  exact Nat.le_refl _
theorem cnt_take_le (L : List Int) (i : Nat) (z : Int) : (L.take i).count z ≤ L.count z := (List.take_sublist i L).count_le z
theorem helds_mono (th : Nat → Th) (z : Int) {i : Nat} (h : i ≤ 6) : (helds th i).count z ≤ (helds th 6).count z := by
  by_cases h6 : i = 6
  · rw [h6]; exact Nat.le_refl _
  · have := helds_pre th z (i := i) (k := 0) (by omega)
    simp at this
    omega
/-- A part of the whole list is no longer than it. -/
theorem part_len {n : Nat} {S : List Int} {th : Nat → Th} (hc : ∀ z, (S ++ helds th 6).count z = if 0 ≤ z ∧ z < n then 1 else 0) {i : Nat} (h : i ≤ 6) : (S ++ helds th i).length ≤ n := by
  refine cnt_len n _ fun z => ?_
  have h1 := hc z
  have h2 := helds_mono th z h
  rw [List.count_append] at h1 ⊢
  omega
end Go.Proofs.YtipgidkpjilhoaaDoor
