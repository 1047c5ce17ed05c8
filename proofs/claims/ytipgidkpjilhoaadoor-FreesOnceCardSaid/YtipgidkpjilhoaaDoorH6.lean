/-
  A slice of numbers that is cut at its front and grows at its end: where it lies, what an append makes of it; condition: it lies as it says.
-/
import Derived.Test.YtipgidkpjilhoaaDoorF0
import Derived.Test.YtipgidkpjilhoaaDoorFRow
import Derived.Laws.OwnMore
import Derived.Laws.AppendOwnNone
import Derived.Deep.AppendLies
import Derived.ArgAppend
namespace Go.Proofs.YtipgidkpjilhoaaDoor
open Go.RowKit Go.Maps

/-- A slice of numbers, from wherever in its block. -/
def HRow (w : World) (B : Nat) (v : Value) (xs : List Int) : Prop :=
  ∃ A c, v = .slice A xs.length c ∧ xs.length ≤ c ∧ c ≤ 9223372036854775807 ∧ (A = none → c = 0) ∧
    (0 < c → ∃ g off cur, A = some ⟨g, off, none⟩ ∧ B ≤ g ∧ w.heap[g]? = some (.cells cur 3 (0, 0)) ∧ off + c ≤ cur.size ∧ ∀ j, j < xs.length → cur[off + j]? = some (iV (xs.getD j 0)))
/-- The block that it lies in, where it has room. -/
def hblk : Value → Option Nat
  | .slice (some a) _ c => if c = 0 then none else some a.block
  | _ => none
theorem HRow.nil (w : World) (B : Nat) : HRow w B (.slice none 0 0) [] := ⟨none, 0, rfl, Nat.le_refl _, by omega, fun _ => rfl, fun h => absurd h (by decide)⟩
theorem HRow.lt {w : World} {B : Nat} {v : Value} {xs : List Int} (h : HRow w B v xs) {g : Nat} (hg : hblk v = some g) : B ≤ g ∧ g < w.heap.size ∧ ∃ cur, w.heap[g]? = some (.cells cur 3 (0, 0)) := by
  obtain ⟨A, c, rfl, _, _, _, h5⟩ := h
  cases A with
  | none => simp [hblk] at hg
  | some a =>
    by_cases hc : c = 0
    · simp [hblk, hc] at hg
    · obtain ⟨g', off, cur, e1, e2, e3, e4, e5⟩ := h5 (by omega)
      injection e1 with e1
      subst e1
      simp [hblk, hc] at hg
      subst hg
      exact ⟨e2, (Array.getElem?_eq_some_iff.1 e3).1, cur, e3⟩
theorem HRow.same {w w' : World} {B : Nat} {v : Value} {xs : List Int} (h : HRow w B v xs) (hs : ∀ g, hblk v = some g → w'.heap[g]? = w.heap[g]?) : HRow w' B v xs := by
  obtain ⟨A, c, rfl, h2, h3, h4, h5⟩ := h
  refine ⟨A, c, rfl, h2, h3, h4, fun hc => ?_⟩
  obtain ⟨g, off, cur, rfl, e2, e3, e4⟩ := h5 hc
  exact ⟨g, off, cur, rfl, e2, (hs g (by have : c ≠ 0 := by omega
                                         simp [hblk, this])).trans e3, e4⟩
theorem HRow.at_ {w : World} {B : Nat} {A : Option Addr} {n c : Nat} {xs : List Int} (h : HRow w B (.slice A n c) xs) {j : Nat} (hj : j < n) : n = xs.length ∧ ∃ g off, A = some ⟨g, off, none⟩ ∧ w.cell? ⟨g, off + j, none⟩ = some (.int .i64 (xs.getD j 0)) := by
  obtain ⟨A', c', e, h2, h3, h4, h5⟩ := h
  injection e with e1 e2 e3
  subst e1 e2 e3
  obtain ⟨g, off, cur, rfl, _, e3, _, e5⟩ := h5 (by omega)
  exact ⟨rfl, g, off, rfl, (cell_of_row w g (off + j) cur 3 (0, 0) e3).trans (e5 j hj)⟩

theorem wpList_append_held {w : World} {ops : Array Oper} {rest : List Oper} {o : Oper} {a : Act} {Q : Exit → Act → World → Prop} (hgd : o.guard = none) (s x : Operand)
    (ho : o.op = .call { callee := .builtin .append, args := #[s, x], argTypes := #[71, 71] }) (B : Nat) (v : Value) (xs : List Int) (hs : a.eval s = v) (H : HRow w B v xs)
    (ad : Addr) (c' : Nat) (z : Int) (hx : a.eval x = .slice (some ad) 1 c') (hz : w.cell? ad = some (.int .i64 z)) (hn : xs.length < 100000) (hB : B ≤ w.heap.size)
    (hK : ∀ v' w', HRow w' B v' (xs ++ [z]) → w.grownBy w' (hblk v) → (∀ g, hblk v' = some g → hblk v = some g ∨ w.heap.size ≤ g) → wpList Tryd.prog ops Q rest (a.put o.dst v') w') : wpList Tryd.prog ops Q (o :: rest) a w := by
  obtain ⟨i0, hi, hz0, hz1, hz2⟩ := info_parts Tryd_infoI
  have hzc : ∀ j u, [iV z][j]? = some u → w.cell? (ad.add j) = some u := by
    intro j u hu
    cases j with
    | zero =>
      simp at hu
      subst hu
      have : ad.add 0 = ad := by unfold Addr.add; split <;> simp_all
      rw [this]; exact hz
    | succ j => simp at hu
  have h1c : ∀ u ∈ [iV z], u.oneCell' = true := by intro u hu; rw [List.mem_singleton.1 hu]; rfl
  have key : ∀ v' w', w'.ownsRow w.heap.size 3 1 v' (xs.length + 1) ((xs.map iV) ++ [iV z]) → w.grownBy w' none → wpList Tryd.prog ops Q rest (a.put o.dst v') w' := by
    intro v' w' hown hg
    obtain ⟨g, cap, rfl, hb, hlt⟩ := hown.form (by omega)
    obtain ⟨hl, hr⟩ := hown
    rcases hr with ⟨e, _⟩ | ⟨g2, cap2, cur, e, e1, e2, e3, e4, e5, e6⟩
    · cases e
    · injection e with ea eb ec
      injection ea with ea
      injection ea with ea
      subst ea ec
      refine hK _ w' ⟨some ⟨g, 0, none⟩, cap, by simp, by simpa using e3, by unfold maxLen at e4; exact e4, by simp, fun _ => ⟨g, 0, cur, rfl, by omega, e2, by omega, fun j hj => ?_⟩⟩ ⟨hg.os, hg.tape, hg.output, hg.size, fun k hk _ => hg.block k hk (by simp)⟩ (fun g' hg' => .inr ?_)
      · rw [Nat.zero_add]
        have := congrArg (fun l => l[j]?) e6
        simp only [List.getElem?_take, Nat.mul_one] at this
        rw [List.length_append] at hj
        rw [if_pos (by simpa using hj)] at this
        rw [← Array.getElem?_toList, this]
        rw [show (xs.map iV) ++ [iV z] = (xs ++ [z]).map iV by simp]
        rw [ints_at 0 (by rw [List.length_append]; exact hj)]
        rfl
      · simp only [hblk] at hg'
        split at hg'
        · cases hg'
        · injection hg' with hg'
          omega
  subst hs
  obtain ⟨A, c, hv, h2, h3, h4, h5⟩ := H
  by_cases hc : 0 < c
  · obtain ⟨g, off, cur, rfl, e2, e3, e4, e5⟩ := h5 hc
    have hce : c ≠ 0 := by omega
    have hhb : hblk (a.eval s) = some g := by rw [hv]; simp [hblk, hce]
    rw [hhb] at hK
    refine wpList_append_arg w hgd s x 71 ho 3 i0 _ 1 8 Tryd.underlying71 hi hz0 hz1 hz2 rfl (by decide) g off xs.length c (xs.map iV) hv (by simp) (fun j u hu => ?_) ad 1 c' [iV z] hx rfl hzc h1c (fun hr j hj => ?_) (by unfold maxLen; omega) (by omega) (fun hr => ?_) (fun _ => key)
    · have hj : j < xs.length := by have := (List.getElem?_eq_some_iff.1 hu).1; simpa using this
      rw [ints_at 0 hj] at hu
      rw [← hu, cell_of_row w g (off + j) cur 3 (0, 0) e3]
      exact e5 j hj
    · have hj0 : j = 0 := by simpa using hj
      subst hj0
      refine ⟨?_, by simp [World.frozen?, e3]⟩
      rw [cell_of_row w g _ cur 3 (0, 0) e3, Array.getElem?_eq_getElem (by omega)]
      rfl
    · have es : w.setCells g (off + xs.length * 1) [iV z] = w.setCell ⟨g, off + xs.length, none⟩ (iV z) := by simp [World.setCells]
      rw [es]
      have hb := setCell_blk e3 (off + xs.length) (iV z)
      refine hK _ _ ⟨some ⟨g, off, none⟩, c, by simp, by simpa using hr, h3, by simp, fun _ => ⟨g, off, _, rfl, e2, hb, by simpa using e4, fun j hj => ?_⟩⟩ ⟨rfl, rfl, rfl, by simp [World.setCell], fun k hk hne => Below.heap_setCell w ⟨g, off + xs.length, none⟩ _ k (fun e => hne (by rw [show k = g from e]))⟩ (fun g' hg' => .inl ?_)
      · rw [List.length_append] at hj
        simp at hj
        by_cases hjl : j = xs.length
        · subst hjl
          simp [show off + xs.length < cur.size by omega]
        · rw [Array.getElem?_setIfInBounds, if_neg (by omega), e5 j (by omega)]
          simp [List.getElem?_append, show j < xs.length by omega]
      · simp [hblk, hce] at hg'
        rw [hg']
  · have hc0 : c = 0 := by omega
    subst hc0
    have hx0 : xs = [] := List.eq_nil_of_length_eq_zero (by omega)
    subst hx0
    refine wpList_append_grows w hgd s x 71 ho 3 i0 _ 1 8 Tryd.underlying71 hi hz0 hz1 hz2 rfl (by decide) A 0 0 [] hv (fun e => ⟨rfl, rfl⟩) rfl (fun b _ j u hu => by simp at hu) ad 1 c' [iV z] hx rfl hzc h1c (by decide) (by unfold maxLen; omega) (by omega) ?_
    simpa using key
/-- .. the new slice written out. -/
theorem wpList_append_slice {w : World} {ops : Array Oper} {rest : List Oper} {o : Oper} {a : Act} {Q : Exit → Act → World → Prop} (hgd : o.guard = none) (s x : Operand)
    (ho : o.op = .call { callee := .builtin .append, args := #[s, x], argTypes := #[71, 71] }) (B : Nat) (v : Value) (xs : List Int) (hs : a.eval s = v) (H : HRow w B v xs)
    (ad : Addr) (c' : Nat) (z : Int) (hx : a.eval x = .slice (some ad) 1 c') (hz : w.cell? ad = some (.int .i64 z)) (hn : xs.length < 100000) (hB : B ≤ w.heap.size)
    (hK : ∀ A n c w', HRow w' B (.slice A n c) (xs ++ [z]) → w.grownBy w' (hblk v) → (∀ g, hblk (.slice A n c) = some g → hblk v = some g ∨ w.heap.size ≤ g) → wpList Tryd.prog ops Q rest (a.put o.dst (.slice A n c)) w') : wpList Tryd.prog ops Q (o :: rest) a w :=
  wpList_append_held hgd s x ho B v xs hs H ad c' z hx hz hn hB fun v' w' h1 h2 h3 => by
    obtain ⟨A, c, rfl, _⟩ := id h1
    exact hK A _ c w' h1 h2 h3
end Go.Proofs.YtipgidkpjilhoaaDoor
