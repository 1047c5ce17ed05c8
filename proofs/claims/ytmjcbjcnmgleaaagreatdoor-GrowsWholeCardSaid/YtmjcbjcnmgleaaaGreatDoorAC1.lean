/-
  A slice of refs that is cut at its front and grows at its end: where it lies, what an append makes of it; condition: it lies as it says.
  Threads as they lie: the slice of them, each one's row of refs, its operation; what stays when one of them goes on; condition: all lies as it says.
  What the law's look at what is settled stands at: how often each slot has been met, the row of the list, what is asked of the memory; condition: all lies as it says.
-/
import Derived.Test.YtmjcbjcnmgleaaaGreatDoorB16
import Derived.Test.YtmjcbjcnmgleaaaGreatDoorF7
import Derived.Test.YtmjcbjcnmgleaaaGreatDoorFRow
import Derived.Laws.OwnMore
import Derived.Laws.AppendOwnNone
import Derived.Deep.AppendLies
import Derived.ArgAppend
import Derived.Deep.RegionLaw
import Derived.Deep.RegionLawGrows
import Derived.Test.YtmjcbjcnmgleaaaGreatDoorAG4
import Derived.Test.YtmjcbjcnmgleaaaGreatDoorP2
import Derived.Test.YtmjcbjcnmgleaaaGreatDoorGL1
namespace Go.Proofs.YtmjcbjcnmgleaaaGreatDoor
open Go.RowKit Go.Maps

def rV (x : Int × Int) : List Value := [.int .i64 x.1, .int .u32 x.2, .bool false]
theorem flatR_len : ∀ xs : List (Int × Int), (xs.flatMap rV).length = xs.length * 3
  | [] => rfl
  | x :: r => by rw [List.flatMap_cons, List.length_append, flatR_len r]; simp only [rV, List.length_cons, List.length_nil]; omega
theorem flatR_at : ∀ (xs : List (Int × Int)) (j i : Nat), j < xs.length → i < 3 → (xs.flatMap rV)[3 * j + i]? = (rV (xs.getD j (0, 0)))[i]?
  | [], _, _, h, _ => absurd h (by simp)
  | x :: r, 0, i, _, hi => by rw [List.flatMap_cons, List.getElem?_append_left (by simpa [rV] using hi)]; simp
  | x :: r, j + 1, i, h, hi => by
    rw [List.flatMap_cons, List.getElem?_append_right (by simp only [rV, List.length_cons, List.length_nil]; omega)]
    have := flatR_at r j i (by simpa using h) hi
    rw [show 3 * (j + 1) + i - (rV x).length = 3 * j + i by simp only [rV, List.length_cons, List.length_nil]; omega, this]
    simp
theorem flat_snoc (xs : List (Int × Int)) (z : Int × Int) : (xs ++ [z]).flatMap rV = xs.flatMap rV ++ rV z := by simp
theorem info_rf : (Tryz.prog.info? 85).map (fun i => (i.zero, i.size, i.bytes)) = some (some (.agg #[.int .i64 0, .int .u32 0, .bool false]), 3, 16) := by kernel_rfl
/-- A slice of refs, from wherever in its block. -/
def HRow (w : World) (B : Nat) (v : Value) (xs : List (Int × Int)) : Prop :=
  ∃ A c, v = .slice A xs.length c ∧ xs.length ≤ c ∧ c ≤ 9223372036854775807 ∧ (A = none → c = 0) ∧
    (0 < c → ∃ g off cur, A = some ⟨g, off, none⟩ ∧ B ≤ g ∧ w.heap[g]? = some (.cells cur 85 (0, 0)) ∧ off + c * 3 ≤ cur.size ∧ ∀ j, j < xs.length * 3 → cur[off + j]? = (xs.flatMap rV)[j]?)
/-- The block that it lies in, where it has room. -/
def hblk : Value → Option Nat
  | .slice (some a) _ c => if c = 0 then none else some a.block
  | _ => none
theorem HRow.nil (w : World) (B : Nat) : HRow w B (.slice none 0 0) [] := ⟨none, 0, rfl, Nat.le_refl _, by omega, fun _ => rfl, fun h => absurd h (by decide)⟩
theorem HRow.lt {w : World} {B : Nat} {v : Value} {xs : List (Int × Int)} (h : HRow w B v xs) {g : Nat} (hg : hblk v = some g) : B ≤ g ∧ g < w.heap.size ∧ ∃ cur, w.heap[g]? = some (.cells cur 85 (0, 0)) := by
  obtain ⟨A, c, rfl, _, _, _, h5⟩ := h
  cases A with
  | none => simp [hblk] at hg
  | some a =>
    by_cases hc : c = 0
    · simp [hblk, hc] at hg
    · obtain ⟨g', off, cur, e1, e2, e3, e4, e5⟩ := h5 (by omega)
      injection e1 with e1
      subst e1
      simp [hblk, hc] at hg
      subst hg
      exact ⟨e2, (Array.getElem?_eq_some_iff.1 e3).1, cur, e3⟩
theorem HRow.same {w w' : World} {B : Nat} {v : Value} {xs : List (Int × Int)} (h : HRow w B v xs) (hs : ∀ g, hblk v = some g → w'.heap[g]? = w.heap[g]?) : HRow w' B v xs := by
  obtain ⟨A, c, rfl, h2, h3, h4, h5⟩ := h
  refine ⟨A, c, rfl, h2, h3, h4, fun hc => ?_⟩
  obtain ⟨g, off, cur, rfl, e2, e3, e4⟩ := h5 hc
  exact ⟨g, off, cur, rfl, e2, (hs g (by have : c ≠ 0 := by omega
                                         simp [hblk, this])).trans e3, e4⟩
theorem HRow.at_ {w : World} {B : Nat} {A : Option Addr} {n c : Nat} {xs : List (Int × Int)} (h : HRow w B (.slice A n c) xs) {j : Nat} (hj : j < n) : n = xs.length ∧ ∃ g off, A = some ⟨g, off, none⟩ ∧ B ≤ g ∧ w.cell? ⟨g, off + 3 * j, none⟩ = some (.int .i64 (xs.getD j (0, 0)).1) ∧ w.cell? ⟨g, off + 3 * j + 1, none⟩ = some (.int .u32 (xs.getD j (0, 0)).2) ∧ w.cell? ⟨g, off + 3 * j + 2, none⟩ = some (.bool false) := by
  obtain ⟨A', c', e, h2, h3, h4, h5⟩ := h
  injection e with e1 e2 e3
  subst e1 e2 e3
  obtain ⟨g, off, cur, rfl, gB, e3, _, e5⟩ := h5 (by omega)
  have key : ∀ i, i < 3 → w.cell? ⟨g, off + 3 * j + i, none⟩ = (rV (xs.getD j (0, 0)))[i]? := fun i hi => by
    rw [cell_of_row w g (off + 3 * j + i) cur 85 (0, 0) e3, Nat.add_assoc off, e5 _ (by omega), flatR_at xs j i hj hi]
  exact ⟨rfl, g, off, rfl, gB, key 0 (by decide), key 1 (by decide), key 2 (by decide)⟩
theorem setCells3 (w : World) (g o : Nat) (a b c : Value) : w.setCells g o [a, b, c] = ((w.setCell ⟨g, o, none⟩ a).setCell ⟨g, o + 1, none⟩ b).setCell ⟨g, o + 2, none⟩ c := rfl
theorem HRow.put {w : World} {B g off c : Nat} {xs : List (Int × Int)} {z : Int × Int} {cur : Array Value} (e2 : B ≤ g) (e3 : w.heap[g]? = some (.cells cur 85 (0, 0))) (e4 : off + c * 3 ≤ cur.size) (e5 : ∀ j, j < xs.length * 3 → cur[off + j]? = (xs.flatMap rV)[j]?) (hr : xs.length + 1 ≤ c) (h3 : c ≤ 9223372036854775807) :
    HRow (w.setCells g (off + xs.length * 3) (rV z)) B (.slice (some ⟨g, off, none⟩) (xs.length + 1) c) (xs ++ [z]) ∧ w.grownBy (w.setCells g (off + xs.length * 3) (rV z)) (some g) := by
  have es : w.setCells g (off + xs.length * 3) (rV z) = ((w.setCell ⟨g, off + xs.length * 3, none⟩ (.int .i64 z.1)).setCell ⟨g, off + xs.length * 3 + 1, none⟩ (.int .u32 z.2)).setCell ⟨g, off + xs.length * 3 + 2, none⟩ (.bool false) := rfl
  rw [es]
  have hb := setCell_blk (setCell_blk (setCell_blk e3 (off + xs.length * 3) (.int .i64 z.1)) (off + xs.length * 3 + 1) (.int .u32 z.2)) (off + xs.length * 3 + 2) (.bool false)
  refine ⟨⟨some ⟨g, off, none⟩, c, by simp, by simpa using hr, h3, by simp, fun _ => ⟨g, off, _, rfl, e2, hb, by simpa using e4, fun j hj => ?_⟩⟩, ⟨rfl, rfl, rfl, by simp [World.setCell], fun k hk hne => ?_⟩⟩
  · rw [List.length_append] at hj
    simp only [List.length_cons, List.length_nil] at hj
    rw [flat_snoc]
    by_cases hjl : j < xs.length * 3
    · rw [List.getElem?_append_left (by rw [flatR_len]; exact hjl), Array.getElem?_setIfInBounds, if_neg (by omega), Array.getElem?_setIfInBounds, if_neg (by omega), Array.getElem?_setIfInBounds, if_neg (by omega), e5 j hjl]
    · rw [List.getElem?_append_right (by rw [flatR_len]; omega), flatR_len]
      rcases (show j = xs.length * 3 ∨ j = xs.length * 3 + 1 ∨ j = xs.length * 3 + 2 by omega) with rfl | rfl | rfl
      · rw [Array.getElem?_setIfInBounds, if_neg (by omega), Array.getElem?_setIfInBounds, if_neg (by omega), Array.getElem?_setIfInBounds, if_pos rfl, if_pos (by omega)]
        simp [rV]
      · rw [Array.getElem?_setIfInBounds, if_neg (by omega), Array.getElem?_setIfInBounds, if_pos (by omega), if_pos (by simp; omega)]
        simp [rV]
      · rw [Array.getElem?_setIfInBounds, if_pos (by omega), if_pos (by simp; omega)]
        simp [rV]
  · have hk' : k ≠ g := fun e => hne (by rw [e])
    exact (Below.heap_setCell _ ⟨g, _, none⟩ _ k hk').trans ((Below.heap_setCell _ ⟨g, _, none⟩ _ k hk').trans (Below.heap_setCell _ ⟨g, _, none⟩ _ k hk'))
theorem HRow.own {w' : World} {B g cap m : Nat} {xs : List (Int × Int)} {z : Int × Int} (hB : B ≤ m) (hown : w'.ownsRow m 85 3 (.slice (some ⟨g, 0, none⟩) (xs.length + 1) cap) (xs.length + 1) ((xs.flatMap rV) ++ rV z)) : HRow w' B (.slice (some ⟨g, 0, none⟩) (xs.length + 1) cap) (xs ++ [z]) ∧ m ≤ g := by
  obtain ⟨hl, hr⟩ := hown
  rcases hr with ⟨e, _⟩ | ⟨g2, cap2, cur, e, e1, e2, e3, e4, e5, e6⟩
  · cases e
  · injection e with ea eb ec
    injection ea with ea
    injection ea with ea
    subst ea ec
    refine ⟨⟨some ⟨g, 0, none⟩, cap, by simp, by simpa using e3, by unfold maxLen at e4; exact e4, by simp, fun _ => ⟨g, 0, cur, rfl, by omega, e2, by omega, fun j hj => ?_⟩⟩, e1⟩
    rw [Nat.zero_add, flat_snoc, ← e6, List.getElem?_take, if_pos (by simpa using hj)]
    simp
set_option maxRecDepth 100000 in
theorem step_append_held {w : World} {ops : Array Oper} {o : Oper} {a : Act} {K : Act → World → Prop} {Q : Exit → Act → World → Prop} {E : Prop} (hgd : o.guard = none) (s x : Operand)
    (ho : o.op = .call { callee := .builtin .append, args := #[s, x], argTypes := #[75, 75] }) (B : Nat) (v : Value) (xs : List (Int × Int)) (hs : a.eval s = v) (H : HRow w B v xs)
    (g9 c' : Nat) (z : Int × Int) (hx : a.eval x = .slice (some ⟨g9, 0, none⟩) 1 c') (hz : Bq g9 85 (rV z) w) (hn : xs.length < 100000) (hB : B ≤ w.heap.size)
    (hK : ∀ A n c w', HRow w' B (.slice A n c) (xs ++ [z]) → w.grownBy w' (hblk v) → (∀ g, hblk (.slice A n c) = some g → hblk v = some g ∨ w.heap.size ≤ g) → K (a.put o.dst (.slice A n c)) w') : if Region.wanted o (yielded ops a.tmps) = true then Oper.wp Tryz.prog o a w K Q else E := by
  obtain ⟨i0, hi, hz0, hz1, hz2⟩ := info_parts info_rf
  have hzc : ∀ j u, (rV z)[j]? = some u → w.cell? ((⟨g9, 0, none⟩ : Addr).add j) = some u := by
    intro j u hu
    have h9 := hz.cell j
    by_cases h0 : j = 0
    · subst h0
      simpa [Addr.add] using h9.trans hu
    · simpa [Addr.add, h0] using h9.trans hu
  have h1c : ∀ u ∈ rV z, u.oneCell' = true := by
    intro u hu
    simp only [rV, List.mem_cons, List.not_mem_nil, or_false] at hu
    rcases hu with rfl | rfl | rfl <;> rfl
  have key : ∀ v' w', w'.ownsRow w.heap.size 85 3 v' (xs.length + 1) ((xs.flatMap rV) ++ rV z) → w.grownBy w' none → K (a.put o.dst v') w' := by
    intro v' w' hown hg
    obtain ⟨g, cap, rfl, hb, hlt⟩ := hown.form (by omega)
    obtain ⟨h1, h2⟩ := HRow.own hB hown
    refine hK _ _ _ w' h1 ⟨hg.os, hg.tape, hg.output, hg.size, fun k hk _ => hg.block k hk (by simp)⟩ (fun g' hg' => .inr ?_)
    simp only [hblk] at hg'
    split at hg'
    · cases hg'
    · injection hg' with hg'
      omega
  subst hs
  obtain ⟨A, c, hv, h2, h3, h4, h5⟩ := H
  by_cases hc : 0 < c
  · obtain ⟨g, off, cur, rfl, e2, e3, e4, e5⟩ := h5 hc
    have hce : c ≠ 0 := by omega
    have hhb : hblk (a.eval s) = some g := by rw [hv]; simp [hblk, hce]
    rw [hhb] at hK
    by_cases hr : xs.length + 1 ≤ c
    · obtain ⟨k1, k2⟩ := HRow.put (z := z) e2 e3 e4 e5 hr h3
      refine step_append_room hgd s x 75 ho 85 i0 3 Tryz.underlying75 hi hz1 g off xs.length c hv ⟨g9, 0, none⟩ 1 c' (rV z) hx rfl hzc h1c hr (fun j hj => ?_) (hK _ _ _ _ k1 k2 (fun g' hg' => .inl (by simp [hblk, hce] at hg'; rw [hg'])))
      have hj0 : j < 3 := by simpa [rV] using hj
      refine ⟨?_, by simp [World.frozen?, e3]⟩
      rw [cell_of_row w g _ cur 85 (0, 0) e3, Array.getElem?_eq_getElem (by omega)]
      rfl
    · refine step_append_grows hgd s x 75 ho 85 i0 _ 3 16 Tryz.underlying75 hi hz0 hz1 hz2 rfl (by decide) (some ⟨g, off, none⟩) xs.length c (xs.flatMap rV) hv (fun e => by cases e) (flatR_len xs) (fun b hb j u hu => ?_) ⟨g9, 0, none⟩ 1 c' (rV z) hx rfl hzc h1c (by omega) (by unfold maxLen; omega) (by omega) key
      injection hb with hb
      subst hb
      have hj : j < xs.length * 3 := by have := (List.getElem?_eq_some_iff.1 hu).1; rwa [flatR_len] at this
      rw [Addr.add_lit, cell_of_row w g (off + j) cur 85 (0, 0) e3, e5 j hj]
      exact hu
  · have hc0 : c = 0 := by omega
    subst hc0
    have hx0 : xs = [] := List.eq_nil_of_length_eq_zero (by omega)
    subst hx0
    refine step_append_grows hgd s x 75 ho 85 i0 _ 3 16 Tryz.underlying75 hi hz0 hz1 hz2 rfl (by decide) A 0 0 [] hv (fun e => ⟨rfl, rfl⟩) rfl (fun b _ j u hu => by simp at hu) ⟨g9, 0, none⟩ 1 c' (rV z) hx rfl hzc h1c (by decide) (by unfold maxLen; omega) (by omega) ?_
    simpa using key
/-- .. its first one cut off. -/
theorem HRow.tail {w : World} {B g off c n : Nat} {x : Int × Int} {r : List (Int × Int)} (h : HRow w B (.slice (some ⟨g, off, none⟩) n c) (x :: r)) :
    HRow w B (.slice (if c = 1 then some ⟨g, off, none⟩ else some ⟨g, off + 3, none⟩) r.length (c - 1)) r := by
  obtain ⟨A, c', e, h2, h3, h4, h5⟩ := h
  injection e with e1 e2 e3
  subst e1 e3
  simp only [List.length_cons] at h2
  refine ⟨_, c - 1, rfl, by omega, by omega, by split <;> simp, fun hc => ?_⟩
  obtain ⟨g', off', cur, e1, h6, h7, h8, h9⟩ := h5 (by omega)
  injection e1 with e1
  injection e1 with e1 e3
  subst e1 e3
  rw [if_neg (by omega)]
  refine ⟨g, off + 3, cur, rfl, h6, h7, by omega, fun j hj => ?_⟩
  have := h9 (j + 3) (by simp only [List.length_cons]; omega)
  rw [show off + 3 + j = off + (j + 3) by omega, this, List.flatMap_cons, List.getElem?_append_right (by simp [rV])]
  simp [rV]
theorem hblk_tail {g off c n : Nat} {g' : Nat} (h : hblk (.slice (if c = 1 then some ⟨g, off, none⟩ else some ⟨g, off + 3, none⟩) n (c - 1)) = some g') (hc : 0 < c) : hblk (.slice (some ⟨g, off, none⟩) (n + 1) c) = some g' := by
  by_cases h1 : c = 1
  · rw [if_pos h1, h1] at h
    simp [hblk] at h
  · rw [if_neg h1] at h
    have h2 : c - 1 ≠ 0 := by omega
    have h3 : c ≠ 0 := by omega
    simpa [hblk, h2, h3] using h
end Go.Proofs.YtmjcbjcnmgleaaaGreatDoor
namespace Go.Proofs.YtmjcbjcnmgleaaaGreatDoor
open Go.RowKit Go.Maps

def updN {α : Type} (f : Nat → α) (k : Nat) (v : α) : Nat → α := fun j => if j = k then v else f j
theorem updN_same {α : Type} (f : Nat → α) (k : Nat) (v : α) : updN f k v k = v := by simp [updN]
theorem updN_ne {α : Type} (f : Nat → α) {j k : Nat} (v : α) (h : j ≠ k) : updN f k v j = f j := by simp [updN, h]
section
variable {nt B p b q r r1 : Nat} {E : List Nat} {M M' : MV} {w w' : World}
theorem PkX.same {o : PO} (h : PkX q r o w) (h1 : w'.heap[q]? = w.heap[q]?) (h2 : w'.heap[r]? = w.heap[r]?) : PkX q r o w' := by
  rcases h with ⟨h, s, g, k⟩ | ⟨pt, bt, cs, hp, kq, kr⟩
  · exact .inl ⟨h, s, g, k.same h1⟩
  · exact .inr ⟨pt, bt, cs, hp, kq.same h1, kr.same h2⟩
theorem AlRep.same {o : AX} (h : AlRep q r r1 o w) (h1 : w'.heap[q]? = w.heap[q]?) (h2 : w'.heap[r]? = w.heap[r]?) (h3 : w'.heap[r1]? = w.heap[r1]?) : AlRep q r r1 o w' := by
  rcases h with ⟨h, s, g, hg, k⟩ | ⟨pt, bt, cs, s, g, hp, g1, g2, kq, kr⟩ | ⟨h, g, kq, P⟩
  · exact .inl ⟨h, s, g, hg, k.same h1⟩
  · exact .inr (.inl ⟨pt, bt, cs, s, g, hp, g1, g2, kq.same h1, kr.same h2⟩)
  · exact .inr (.inr ⟨h, g, kq.same h1, P.same h2 h3⟩)
theorem FrRep.same {f : FX} (h : FrRep q r r1 f w) (h1 : w'.heap[q]? = w.heap[q]?) (h2 : w'.heap[r]? = w.heap[r]?) (h3 : w'.heap[r1]? = w.heap[r1]?) : FrRep q r r1 f w' := by
  rcases h with ⟨h, s, g, k⟩ | ⟨pt, bt, cs, hp, kq, kr⟩ | ⟨h, kq, P⟩
  · exact .inl ⟨h, s, g, k.same h1⟩
  · exact .inr (.inl ⟨pt, bt, cs, hp, kq.same h1, kr.same h2⟩)
  · exact .inr (.inr ⟨h, kq.same h1, P.same h2 h3⟩)
/-- A block of an operation's. -/
def Own (B x : Nat) (w : World) : Prop := B ≤ x ∧ ∃ t cs, Bq x t cs w ∧ t ≠ 85 ∧ t ≠ 79 ∧ t ≠ 121 ∧ t ≠ 3
theorem Own.lt {x : Nat} (h : Own B x w) : x < w.heap.size := by obtain ⟨_, t, cs, k, _⟩ := h; exact k.lt
theorem Own.same {x : Nat} (h : Own B x w) (hs : w'.heap[x]? = w.heap[x]?) : Own B x w' := by obtain ⟨g, t, cs, k, h1⟩ := h; exact ⟨g, t, cs, k.same hs, h1⟩
theorem Own.neM {x : Nat} (h : Own B x w) (F : VX p b M w) : x ≠ p ∧ x ≠ b := by obtain ⟨_, t, cs, k, _, _, h1, _⟩ := h; exact F.ne h1 k
theorem Own.neB {x y : Nat} {t : TypeId} {cs : List Value} (h : Own B x w) (k : Bq y t cs w) (ht : t = 85 ∨ t = 79) : x ≠ y := by
  obtain ⟨_, u, ds, j, h1, h2, _⟩ := h
  exact j.ne k (by rcases ht with rfl | rfl <;> assumption)
theorem Own.neI {x y : Nat} {cs : List Value} (h : Own B x w) (k : Bq y 3 cs w) : x ≠ y := by
  obtain ⟨_, u, ds, j, _, _, _, h3⟩ := h
  exact j.ne k h3
theorem PkPart.own {o : PO} {pt bt : TypeId} {cs : List Value} (h : PkPart o pt bt cs) : bt ≠ 85 ∧ bt ≠ 79 ∧ bt ≠ 121 ∧ bt ≠ 3 := by
  cases h <;> exact ⟨by decide, by decide, by decide, by decide⟩
theorem AlPart.own {o : AX} {pt bt : TypeId} {cs : List Value} (h : AlPart o pt bt cs) : bt ≠ 85 ∧ bt ≠ 79 ∧ bt ≠ 121 ∧ bt ≠ 3 := by
  cases h <;> exact ⟨by decide, by decide, by decide, by decide⟩
theorem FrPart.own {o : FX} {pt bt : TypeId} {cs : List Value} (h : FrPart o pt bt cs) : bt ≠ 85 ∧ bt ≠ 79 ∧ bt ≠ 121 ∧ bt ≠ 3 := by
  cases h <;> exact ⟨by decide, by decide, by decide, by decide⟩
/-- The third block of an Alloc that has no third one may be its second. -/
theorem AlRep.tidy {o : AX} (h : AlRep q r r1 o w) (hn : o.o.ln ≠ 0) (ok : AlNum o) (hq : B ≤ q) (hr : B ≤ r) (hr1 : B ≤ r1) : ∃ r2, (r2 = r ∨ r2 = r1) ∧ AlRep q r r2 o w ∧ Own B q w ∧ Own B r w ∧ Own B r2 w := by
  rcases h with ⟨h, _⟩ | ⟨pt, bt, cs, s, g, hp, g1, g2, kq, kr⟩ | ⟨h, g, kq, P⟩
  · exact absurd h hn
  · have o1 : Own B r w := ⟨hr, _, _, kr, hp.own⟩
    exact ⟨r, .inl rfl, .inr (.inl ⟨pt, bt, cs, s, g, hp, g1, g2, kq, kr⟩), ⟨hq, _, _, kq, by decide, by decide, by decide, by decide⟩, o1, o1⟩
  · have hn0 := (ok.pk h).2.1
    have P' := P
    rcases P with ⟨h0, _⟩ | ⟨pt, bt, cs, hp, k1, k2⟩
    · exact absurd h0 hn0
    · exact ⟨r1, .inr rfl, .inr (.inr ⟨h, g, kq, P'⟩), ⟨hq, _, _, kq, by decide, by decide, by decide, by decide⟩, ⟨hr, _, _, k1, by decide, by decide, by decide, by decide⟩, ⟨hr1, _, _, k2, hp.own⟩⟩
theorem FrRep.tidy {f : FX} (h : FrRep q r r1 f w) (hn : f.o.ln ≠ 0) (ok : FrNum f) (hq : B ≤ q) (hr : B ≤ r) (hr1 : B ≤ r1) : ∃ r2, (r2 = r ∨ r2 = r1) ∧ FrRep q r r2 f w ∧ Own B q w ∧ Own B r w ∧ Own B r2 w := by
  rcases h with ⟨h, _⟩ | ⟨pt, bt, cs, hp, kq, kr⟩ | ⟨h, kq, P⟩
  · exact absurd h hn
  · have o1 : Own B r w := ⟨hr, _, _, kr, hp.own⟩
    exact ⟨r, .inl rfl, .inr (.inl ⟨pt, bt, cs, hp, kq, kr⟩), ⟨hq, _, _, kq, by decide, by decide, by decide, by decide⟩, o1, o1⟩
  · have hn0 := (ok.pk h).2.1
    have P' := P
    rcases P with ⟨h0, _⟩ | ⟨pt, bt, cs, hp, k1, k2⟩
    · exact absurd h0 hn0
    · exact ⟨r1, .inr rfl, .inr (.inr ⟨h, kq, P'⟩), ⟨hq, _, _, kq, by decide, by decide, by decide, by decide⟩, ⟨hr, _, _, k1, by decide, by decide, by decide, by decide⟩, ⟨hr1, _, _, k2, hp.own⟩⟩
/-- An operation as it lies: its blocks, both words of its thread. -/
def OpR (w : World) (fp : List Nat) (va vf : Value) : AO → Prop
  | .no => fp = [] ∧ va = .pointer none ∧ vf = .pointer none
  | .al o => ∃ ox q r r1, fp = [q, r, r1] ∧ AX.o ox = o ∧ o.ln ≠ 0 ∧ AlNum ox ∧ AlRep q r r1 ox w ∧ va = .pointer (some ⟨q, 0, none⟩) ∧ vf = .pointer none
  | .fr o => ∃ fx q r r1, fp = [q, r, r1] ∧ FX.o fx = o ∧ o.ln ≠ 0 ∧ FrNum fx ∧ FrRep q r r1 fx w ∧ va = .pointer none ∧ vf = .pointer (some ⟨q, 0, none⟩)
theorem OpR.same {fp : List Nat} {va vf : Value} {op : AO} (h : OpR w fp va vf op) (hs : ∀ x ∈ fp, w'.heap[x]? = w.heap[x]?) : OpR w' fp va vf op := by
  cases op with
  | no => exact h
  | al o =>
    obtain ⟨ox, q, r, r1, rfl, h1, h2, h3, h4, h5⟩ := h
    exact ⟨ox, q, r, r1, rfl, h1, h2, h3, h4.same (hs q (by simp)) (hs r (by simp)) (hs r1 (by simp)), h5⟩
  | fr o =>
    obtain ⟨ox, q, r, r1, rfl, h1, h2, h3, h4, h5⟩ := h
    exact ⟨ox, q, r, r1, rfl, h1, h2, h3, h4.same (hs q (by simp)) (hs r (by simp)) (hs r1 (by simp)), h5⟩
theorem HRow.bq {v : Value} {xs : List (Int × Int)} (h : HRow w B v xs) {g : Nat} (hg : hblk v = some g) : ∃ cs, Bq g 85 cs w := by
  obtain ⟨_, _, cur, hc⟩ := h.lt hg
  exact ⟨cur.toList, by unfold Bq; simpa using hc⟩
/-- How a thread lies. -/
structure LY where
  h : Value
  a : Value
  f : Value
  fp : List Nat
/-- All threads. -/
structure TW (nt B p b G : Nat) (ly : Nat → LY) (th : Nat → TA) (M : MV) (w : World) : Prop where
  fm : VX p b M w
  pB : B ≤ p
  bB : B ≤ b
  GB : B ≤ G
  blk : ∃ cur, w.heap[G]? = some (.cells cur 79 (0, 0)) ∧ cur.size = 3 * nt ∧ ∀ j, j < nt → cur[3 * j]? = some (ly j).h ∧ cur[3 * j + 1]? = some (ly j).a ∧ cur[3 * j + 2]? = some (ly j).f
  row : ∀ j, j < nt → HRow w B (ly j).h (th j).held
  op : ∀ j, j < nt → OpR w (ly j).fp (ly j).a (ly j).f (th j).op
  own : ∀ j, j < nt → ∀ x ∈ (ly j).fp, Own B x w
  sepr : ∀ i j, i < nt → j < nt → i ≠ j → ∀ g, hblk (ly i).h = some g → hblk (ly j).h ≠ some g
  sepo : ∀ i j, i < nt → j < nt → i ≠ j → ∀ x ∈ (ly i).fp, x ∉ (ly j).fp
/-- All but thread k, whose words are vh, vp, vq. -/
structure TL (nt B p b G k : Nat) (ly : Nat → LY) (th : Nat → TA) (M : MV) (vh vp vq : Value) (w : World) : Prop where
  fm : VX p b M w
  pB : B ≤ p
  bB : B ≤ b
  GB : B ≤ G
  blk : ∃ cur, w.heap[G]? = some (.cells cur 79 (0, 0)) ∧ cur.size = 3 * nt ∧ (∀ j, j < nt → j ≠ k → cur[3 * j]? = some (ly j).h ∧ cur[3 * j + 1]? = some (ly j).a ∧ cur[3 * j + 2]? = some (ly j).f) ∧ cur[3 * k]? = some vh ∧ cur[3 * k + 1]? = some vp ∧ cur[3 * k + 2]? = some vq
  row : ∀ j, j < nt → j ≠ k → HRow w B (ly j).h (th j).held
  op : ∀ j, j < nt → j ≠ k → OpR w (ly j).fp (ly j).a (ly j).f (th j).op
  own : ∀ j, j < nt → j ≠ k → ∀ x ∈ (ly j).fp, Own B x w
  sepr : ∀ i j, i < nt → j < nt → i ≠ k → j ≠ k → i ≠ j → ∀ g, hblk (ly i).h = some g → hblk (ly j).h ≠ some g
  sepo : ∀ i j, i < nt → j < nt → i ≠ k → j ≠ k → i ≠ j → ∀ x ∈ (ly i).fp, x ∉ (ly j).fp
/-- A row's block is no other thread's; an operation's neither. -/
def SepR (nt k : Nat) (ly : Nat → LY) (v : Value) : Prop := ∀ j, j < nt → j ≠ k → ∀ g, hblk v = some g → hblk (ly j).h ≠ some g
def SepO (nt k : Nat) (ly : Nat → LY) (fp : List Nat) : Prop := ∀ j, j < nt → j ≠ k → ∀ x ∈ fp, x ∉ (ly j).fp
variable {G k : Nat} {ly : Nat → LY} {th : Nat → TA} {vh vp vq : Value}
theorem TW.tl (W : TW nt B p b G ly th M w) (hk : k < nt) : TL nt B p b G k ly th M (ly k).h (ly k).a (ly k).f w := by
  obtain ⟨cur, h1, h2, h3⟩ := W.blk
  exact ⟨W.fm, W.pB, W.bB, W.GB, ⟨cur, h1, h2, fun j hj _ => h3 j hj, h3 k hk⟩, fun j hj _ => W.row j hj, fun j hj _ => W.op j hj, fun j hj _ => W.own j hj, fun i j hi hj _ _ => W.sepr i j hi hj, fun i j hi hj _ _ => W.sepo i j hi hj⟩
theorem TW.sr (W : TW nt B p b G ly th M w) (hk : k < nt) : SepR nt k ly (ly k).h := fun j hj hjk g h => W.sepr k j hk hj (Ne.symm hjk) g h
theorem TW.so (W : TW nt B p b G ly th M w) (hk : k < nt) : SepO nt k ly (ly k).fp := fun j hj hjk x hx => W.sepo k j hk hj (Ne.symm hjk) x hx
theorem TL.tw (L : TL nt B p b G k ly th M vh vp vq w) (_ : k < nt) {t : TA} {fp : List Nat} (hr : HRow w B vh t.held) (ho : OpR w fp vp vq t.op) (hw : ∀ x ∈ fp, Own B x w) (sr : SepR nt k ly vh) (so : SepO nt k ly fp) :
    TW nt B p b G (updN ly k ⟨vh, vp, vq, fp⟩) (updA th k t) M w := by
  obtain ⟨cur, h1, h2, h3, h4, h5, h6⟩ := L.blk
  refine ⟨L.fm, L.pB, L.bB, L.GB, ⟨cur, h1, h2, fun j hj => ?_⟩, fun j hj => ?_, fun j hj => ?_, fun j hj => ?_, fun i j hi hj hij g hg => ?_, fun i j hi hj hij x hx => ?_⟩
  · by_cases hjk : j = k
    · subst hjk; rw [updN_same]; exact ⟨h4, h5, h6⟩
    · rw [updN_ne _ _ hjk]; exact h3 j hj hjk
  · by_cases hjk : j = k
    · subst hjk; rw [updN_same, updA_same]; exact hr
    · rw [updN_ne _ _ hjk, updA_ne _ _ hjk]; exact L.row j hj hjk
  · by_cases hjk : j = k
    · subst hjk; rw [updN_same, updA_same]; exact ho
    · rw [updN_ne _ _ hjk, updA_ne _ _ hjk]; exact L.op j hj hjk
  · by_cases hjk : j = k
    · subst hjk; rw [updN_same]; exact hw
    · rw [updN_ne _ _ hjk]; exact L.own j hj hjk
  · by_cases hik : i = k
    · subst hik
      rw [updN_same] at hg
      rw [updN_ne _ _ (Ne.symm hij)]
      exact sr j hj (Ne.symm hij) g hg
    · rw [updN_ne _ _ hik] at hg
      by_cases hjk : j = k
      · subst hjk
        rw [updN_same]
        exact fun h => sr i hi hik g h hg
      · rw [updN_ne _ _ hjk]
        exact L.sepr i j hi hj hik hjk hij g hg
  · by_cases hik : i = k
    · subst hik
      rw [updN_same] at hx
      rw [updN_ne _ _ (Ne.symm hij)]
      exact so j hj (Ne.symm hij) x hx
    · rw [updN_ne _ _ hik] at hx
      by_cases hjk : j = k
      · subst hjk
        rw [updN_same]
        exact fun h => so i hi hik x h hx
      · rw [updN_ne _ _ hjk]
        exact L.sepo i j hi hj hik hjk hij x hx
theorem TL.gb (L : TL nt B p b G k ly th M vh vp vq w) : ∃ cs, Bq G 79 cs w := by
  obtain ⟨cur, h1, _⟩ := L.blk
  exact ⟨cur.toList, by unfold Bq; simpa using h1⟩
theorem TL.G_ne (L : TL nt B p b G k ly th M vh vp vq w) : G ≠ p ∧ G ≠ b := by
  obtain ⟨cs, h⟩ := L.gb
  exact L.fm.ne (by decide) h
/-- What turns blocks of E, and the memory's, alone. -/
theorem TL.onl (L : TL nt B p b G k ly th M vh vp vq w) (F : VX p b M' w') (h : Onl p b E w w') (hG : G ∉ E) (hr : ∀ j, j < nt → j ≠ k → ∀ g, hblk (ly j).h = some g → g ∉ E) (ho : ∀ j, j < nt → j ≠ k → ∀ x ∈ (ly j).fp, x ∉ E) : TL nt B p b G k ly th M' vh vp vq w' := by
  obtain ⟨cur, h1, h2⟩ := L.blk
  have hGlt : G < w.heap.size := (Array.getElem?_eq_some_iff.1 h1).1
  obtain ⟨g1, g2⟩ := L.G_ne
  have hs : ∀ j, j < nt → j ≠ k → ∀ x ∈ (ly j).fp, w'.heap[x]? = w.heap[x]? := fun j hj hjk x hx => by
    have o := L.own j hj hjk x hx
    exact h.block x o.lt (o.neM L.fm).1 (o.neM L.fm).2 (ho j hj hjk x hx)
  refine ⟨F, L.pB, L.bB, L.GB, ⟨cur, (h.block G hGlt g1 g2 hG).trans h1, h2⟩, fun j hj hjk => ?_, fun j hj hjk => (L.op j hj hjk).same (hs j hj hjk), fun j hj hjk x hx => (L.own j hj hjk x hx).same (hs j hj hjk x hx), L.sepr, L.sepo⟩
  refine (L.row j hj hjk).same fun g hg => ?_
  obtain ⟨cs, kb⟩ := (L.row j hj hjk).bq hg
  exact h.block g kb.lt (L.fm.ne (by decide) kb).1 (L.fm.ne (by decide) kb).2 (hr j hj hjk g hg)
theorem TL.below (L : TL nt B p b G k ly th M vh vp vq w) (h : Below w.heap.size w w') : TL nt B p b G k ly th M vh vp vq w' :=
  L.onl (E := []) (L.fm.below h) (.of_below h) (by simp) (by simp) (by simp)
/-- .. a step of thread k's operation. -/
theorem TL.step (L : TL nt B p b G k ly th M vh vp vq w) (F : VX p b M' w') (h : Onl p b E w w') (hE : ∀ x ∈ E, Own B x w) (so : SepO nt k ly E) : TL nt B p b G k ly th M' vh vp vq w' := by
  obtain ⟨cs, gb⟩ := L.gb
  refine L.onl F h (fun hx => (hE G hx).neB gb (.inr rfl) rfl) (fun j hj hjk g hg hx => ?_) (fun j hj hjk x hx h' => so j hj hjk x h' hx)
  obtain ⟨ds, kb⟩ := (L.row j hj hjk).bq hg
  exact (hE g hx).neB kb (.inl rfl) rfl
/-- Thread k's word is turned. -/
theorem TL.set (L : TL nt B p b G k ly th M vh vp vq w) (hB : 1 < B) (hk : k < nt) (i : Nat) (hi : i < 3) (v : Value) {a : Addr} (ha : a = ⟨G, 3 * k + i, none⟩) :
    TL nt B p b G k ly th M (if i = 0 then v else vh) (if i = 1 then v else vp) (if i = 2 then v else vq) (w.setCell a v) := by
  subst ha
  obtain ⟨cur, h1, h2, h3, h4, h5, h6⟩ := L.blk
  obtain ⟨cs, gb⟩ := L.gb
  have hlt := L.fm.lt
  have hGB := L.GB
  obtain ⟨g1, g2⟩ := L.G_ne
  have hb : ∀ j, j ≠ G → (w.setCell ⟨G, 3 * k + i, none⟩ v).heap[j]? = w.heap[j]? := fun j hj => Below.heap_setCell w ⟨G, 3 * k + i, none⟩ v j hj
  have hs : ∀ j, j < nt → j ≠ k → ∀ x ∈ (ly j).fp, (w.setCell ⟨G, 3 * k + i, none⟩ v).heap[x]? = w.heap[x]? := fun j hj hjk x hx => hb x ((L.own j hj hjk x hx).neB gb (.inr rfl))
  refine ⟨L.fm.setQ g1 g2 (by omega) _ _, L.pB, L.bB, L.GB, ⟨_, setCell_blk h1 _ v, by simpa using h2, fun j hj hjk => ?_, ?_, ?_, ?_⟩, fun j hj hjk => ?_, fun j hj hjk => (L.op j hj hjk).same (hs j hj hjk), fun j hj hjk x hx => (L.own j hj hjk x hx).same (hs j hj hjk x hx), L.sepr, L.sepo⟩
  · obtain ⟨a1, a2, a3⟩ := h3 j hj hjk
    simp only [Array.getElem?_setIfInBounds]
    rw [if_neg (by omega), if_neg (by omega), if_neg (by omega)]
    exact ⟨a1, a2, a3⟩
  · rw [Array.getElem?_setIfInBounds]
    by_cases e : i = 0
    · subst e; simp [show 3 * k < cur.size by omega]
    · rw [if_neg (by omega), if_neg e]; exact h4
  · rw [Array.getElem?_setIfInBounds]
    by_cases e : i = 1
    · subst e; simp [show 3 * k + 1 < cur.size by omega]
    · rw [if_neg (by omega), if_neg e]; exact h5
  · rw [Array.getElem?_setIfInBounds]
    by_cases e : i = 2
    · subst e; simp [show 3 * k + 2 < cur.size by omega]
    · rw [if_neg (by omega), if_neg e]; exact h6
  · refine (L.row j hj hjk).same fun g hg => hb g ?_
    obtain ⟨ds, kb⟩ := (L.row j hj hjk).bq hg
    exact kb.ne gb (by decide)
theorem TL.set0 (L : TL nt B p b G k ly th M vh vp vq w) (hB : 1 < B) (hk : k < nt) (v : Value) {a : Addr} (ha : a = ⟨G, 3 * k, none⟩) : TL nt B p b G k ly th M v vp vq (w.setCell a v) := by
  have := L.set hB hk 0 (by decide) v (a := a) (ha.trans (by simp))
  simpa using this
theorem TL.set1 (L : TL nt B p b G k ly th M vh vp vq w) (hB : 1 < B) (hk : k < nt) (v : Value) {a : Addr} (ha : a = ⟨G, 3 * k + 1, none⟩) : TL nt B p b G k ly th M vh v vq (w.setCell a v) := by
  have := L.set hB hk 1 (by decide) v ha
  simpa using this
theorem TL.set2 (L : TL nt B p b G k ly th M vh vp vq w) (hB : 1 < B) (hk : k < nt) (v : Value) {a : Addr} (ha : a = ⟨G, 3 * k + 2, none⟩) : TL nt B p b G k ly th M vh vp v (w.setCell a v) := by
  have := L.set hB hk 2 (by decide) v ha
  simpa using this
theorem TL.cells (L : TL nt B p b G k ly th M vh vp vq w) : w.cell? ⟨G, 3 * k, none⟩ = some vh ∧ w.cell? ⟨G, 3 * k + 1, none⟩ = some vp ∧ w.cell? ⟨G, 3 * k + 2, none⟩ = some vq ∧ ∀ i, w.frozen? ⟨G, i, none⟩ = false := by
  obtain ⟨cur, h1, h2, h3, h4, h5, h6⟩ := L.blk
  exact ⟨(cell_of_row w G _ cur 79 (0, 0) h1).trans h4, (cell_of_row w G _ cur 79 (0, 0) h1).trans h5, (cell_of_row w G _ cur 79 (0, 0) h1).trans h6, fun i => by simp [World.frozen?, h1]⟩
theorem HRow.step {v : Value} {xs : List (Int × Int)} (h : HRow w B v xs) (F : VX p b M w) (h3 : Onl p b E w w') (hE : ∀ x ∈ E, Own B x w) : HRow w' B v xs := by
  refine h.same fun g hg => ?_
  obtain ⟨cs, kb⟩ := h.bq hg
  exact h3.block g kb.lt (F.ne (by decide) kb).1 (F.ne (by decide) kb).2 (fun hx => (hE g hx).neB kb (.inl rfl) rfl)
theorem HRow.below {v : Value} {xs : List (Int × Int)} (h : HRow w B v xs) (hb : Below w.heap.size w w') : HRow w' B v xs := h.same fun g hg => hb.block g (h.lt hg).2.1
theorem HRow.setG {v : Value} {xs : List (Int × Int)} (h : HRow w B v xs) (L : TL nt B p b G k ly th M vh vp vq w) {a : Addr} (ha : a.block = G) (u : Value) : HRow (w.setCell a u) B v xs := by
  obtain ⟨cs, gb⟩ := L.gb
  refine h.same fun g hg => Below.heap_setCell w a u g ?_
  obtain ⟨ds, kb⟩ := h.bq hg
  rw [ha]
  exact kb.ne gb (by decide)
theorem Own.setG {x : Nat} (h : Own B x w) (L : TL nt B p b G k ly th M vh vp vq w) {a : Addr} (ha : a.block = G) (u : Value) : (w.setCell a u).heap[x]? = w.heap[x]? := by
  obtain ⟨cs, gb⟩ := L.gb
  refine Below.heap_setCell w a u x ?_
  rw [ha]
  exact h.neB gb (.inr rfl)
/-- An append to thread k's row. -/
theorem TL.grown (L : TL nt B p b G k ly th M vh vp vq w) (hB : 1 < B) {v : Value} {xs : List (Int × Int)} (h : HRow w B v xs) (sr : SepR nt k ly v) (hg : w.grownBy w' (hblk v)) : TL nt B p b G k ly th M vh vp vq w' := by
  cases hv' : hblk v with
  | none =>
    rw [hv'] at hg
    exact L.below ⟨hg.os, hg.tape, hg.output, hg.size, fun j hj => hg.block j hj (by simp)⟩
  | some g =>
    rw [hv'] at hg
    obtain ⟨cs, gb⟩ := L.gb
    obtain ⟨ds, kb⟩ := h.bq hv'
    obtain ⟨l1, l2, _⟩ := h.lt hv'
    have hlt := L.fm.lt
    obtain ⟨n1, n2⟩ := L.fm.ne (by decide) kb
    have hx : ∀ j, j < w.heap.size → j ≠ g → w'.heap[j]? = w.heap[j]? := fun j hj hne => hg.block j hj (by simpa using hne)
    have hp1 := L.fm.lay.1
    have hm1 := L.fm.laym.1
    refine L.onl (E := [g]) (L.fm.keep hg.size (hx p hlt.1 (Ne.symm n1)) (hx b hlt.2 (Ne.symm n2)) (hx _ hp1 (by omega)) (hx _ hm1 (by omega))) ⟨hg.os, hg.tape, hg.output, hg.size, fun j hj _ _ hne => hx j hj (by simpa using hne)⟩ (fun e => ?_) (fun j hj hjk g' hg' e => ?_) (fun j hj hjk x hx' e => ?_)
    · rw [List.mem_singleton] at e
      exact gb.ne kb (by decide) e
    · rw [List.mem_singleton] at e
      exact sr j hj hjk g hv' (by rw [hg', e])
    · rw [List.mem_singleton] at e
      exact (L.own j hj hjk x hx').neB kb (.inl rfl) e
theorem SepR.grown (sr : SepR nt k ly vh) {vh' vp' vq' v' : Value} (L : TL nt B p b G k ly th M vh' vp' vq' w) (h : ∀ g, hblk v' = some g → hblk vh = some g ∨ w.heap.size ≤ g) : SepR nt k ly v' := by
  intro j hj hjk g hg e
  rcases h g hg with h | h
  · exact sr j hj hjk g h e
  · have := ((L.row j hj hjk).lt e).2.1
    omega
theorem TL.so_new (L : TL nt B p b G k ly th M vh vp vq w) {fp : List Nat} (hq : ∀ x ∈ fp, w.heap.size ≤ x) : SepO nt k ly fp := by
  intro j hj hjk x hx e
  have := (L.own j hj hjk x e).lt
  have := hq x hx
  omega
end
end Go.Proofs.YtmjcbjcnmgleaaaGreatDoor
namespace Go.Proofs.YtmjcbjcnmgleaaaGreatDoor
open Go.RowKit Go.Maps

section
variable {p b : Nat} {M : MV} {w : World} {s : Int}
theorem vx_loadHA (F : VX p b M w) (hs : M.s.st < 1000000) (h : 0 ≤ s ∧ s < 256) :
    Calls Tryz.prog 60 #[.pointer (some ⟨p, 0, none⟩), .agg #[.int .u8 9, .int .i64 s, .int .i64 0]] w fun e w' => e = .returned (.int .u64 (M.V (adH s))) ∧ VX p b (ldM M (adH s)) w' ∧ Only p b w w' := by
  have := F.load hs (adH s)
  have h := slot_i64 h
  rw [(adH_at h).1, (adH_at h).2.1, (adH_at h).2.2] at this
  exact this
set_option maxRecDepth 100000 in
set_option maxHeartbeats 4000000 in
theorem header8_anyA (F : VX p b M w) (hs : M.s.st < 1000000) (h : 0 ≤ s ∧ s < 256) :
    Calls Tryz.prog 55 #[.pointer (some ⟨p, 0, none⟩), .int .i64 s] w fun e w' => e = .returned (.tuple #[.int .u8 (stS (fld (M.V (adH s)) 0 3)), .int .u32 (fld (M.V (adH s)) 3 32)]) ∧ VX p b (ldM M (adH s)) w' ∧ Only p b w w' := by
  have hld := vx_loadHA F hs h
  have hu := F.u64 (adH s)
  clear F
  go_enter Tryz.func55, Tryz.ntmps55
  go_wp2_with fail
  ((with_reducible refine hld.mono ?_); rintro e w1 ⟨rfl, F1, h1⟩)
  have HF := Lib.hid F1
  have HO := Lib.hid h1
  have hah := asHeader_any (M.V (adH s)) w1 F1.lay hu
  clear F1 h1 hld
  go_wp2_with fail
  ((with_reducible refine hah.mono ?_); rintro e w2 ⟨rfl, n, rfl⟩)
  have hb := below_drewN' (Below.refl w1.heap.size w1) n
  have HF2 := Lib.hid (HF.out.below hb)
  have HO2 := Lib.hid (HO.out.trans (.of_below hb))
  clear hah hb
  revert HF2 HO2
  generalize w1.drewN n = wz
  intro HF2 HO2
  go_wp2_with fail
  go_ret2
  exact ⟨rfl, HF2.out, HO2.out⟩
end
theorem stS_ofA {s g : Int} (h0 : 0 ≤ s) (h1 : s ≤ 4) (g0 : 0 ≤ g) (g1 : g < 4294967296) : stS (fld (headerW s g) 0 3) = s ∧ fld (headerW s g) 3 32 = g := by
  refine ⟨?_, gW_header s g h0 h1 g0 g1⟩
  rw [show fld (headerW s g) 0 3 = s from stW_header s g h0 h1 g0 g1]
  exact stS_small h1
theorem TW.onl {nt B p b G : Nat} {ly : Nat → LY} {th : Nat → TA} {M : MV} {w w' : World} {E : List Nat} {M' : MV} (W : TW nt B p b G ly th M w) (F : VX p b M' w') (h : Onl p b E w w') (hG : G ∉ E) (hr : ∀ j, j < nt → ∀ g, hblk (ly j).h = some g → g ∉ E) (ho : ∀ j, j < nt → ∀ x ∈ (ly j).fp, x ∉ E) : TW nt B p b G ly th M' w' := by
  obtain ⟨cur, h1, h2⟩ := W.blk
  have gb : Bq G 79 cur.toList w := by unfold Bq; simpa using h1
  obtain ⟨g1, g2⟩ := W.fm.ne (by decide) gb
  have hs : ∀ j, j < nt → ∀ x ∈ (ly j).fp, w'.heap[x]? = w.heap[x]? := fun j hj x hx => by
    have o := W.own j hj x hx
    exact h.block x o.lt (o.neM W.fm).1 (o.neM W.fm).2 (ho j hj x hx)
  refine ⟨F, W.pB, W.bB, W.GB, ⟨cur, (h.block G gb.lt g1 g2 hG).trans h1, h2⟩, fun j hj => ?_, fun j hj => (W.op j hj).same (hs j hj), fun j hj x hx => (W.own j hj x hx).same (hs j hj x hx), W.sepr, W.sepo⟩
  refine (W.row j hj).same fun g hg => ?_
  obtain ⟨cs, kb⟩ := (W.row j hj).bq hg
  exact h.block g kb.lt (W.fm.ne (by decide) kb).1 (W.fm.ne (by decide) kb).2 (hr j hj g hg)
/-- What the first i actors have got. -/
def heldsN (th : Nat → TA) : Nat → List (Int × Int)
  | 0 => []
  | i + 1 => heldsN th i ++ (th i).held
theorem heldsN_part (th : Nat → TA) {i : Nat} : ∀ {nt : Nat}, i < nt → ∃ r, heldsN th nt = heldsN th i ++ ((th i).held ++ r)
  | nt + 1, h => by
    rcases Nat.lt_or_ge i nt with h1 | h1
    · obtain ⟨r, e⟩ := heldsN_part th h1
      exact ⟨r ++ (th nt).held, by simp [heldsN, e, List.append_assoc]⟩
    · have : i = nt := by omega
      subst this
      exact ⟨[], by simp [heldsN]⟩
def seenN (th : Nat → TA) (i k : Nat) : List Int := (heldsN th i ++ (th i).held.take k).map (·.1)
theorem seenN_next (th : Nat → TA) (i : Nat) : seenN th i (th i).held.length = seenN th (i + 1) 0 := by
  unfold seenN
  rw [List.take_length, List.take_zero, List.append_nil]
  rfl
theorem seenN_step (th : Nat → TA) (i : Nat) {k : Nat} (hk : k < (th i).held.length) : seenN th i (k + 1) = seenN th i k ++ [((th i).held.getD k (0, 0)).1] := by
  unfold seenN
  rw [List.take_add_one, List.getElem?_eq_getElem hk]
  rw [List.getD_eq_getElem?_getD, List.getElem?_eq_getElem hk]
  simp only [List.map_append, List.append_assoc, Option.toList, Option.getD, List.map_cons, List.map_nil]
theorem seenN_len (th : Nat → TA) {i k nt : Nat} (hi : i < nt) : (seenN th i k).length ≤ (heldsN th nt).length := by
  obtain ⟨r, e⟩ := heldsN_part th hi
  rw [e]
  simp only [seenN, List.length_map, List.length_append, List.length_take]
  omega
theorem seenN_all (th : Nat → TA) (nt : Nat) : seenN th nt 0 = (heldsN th nt).map (·.1) := by simp [seenN]
/-- How often each slot has been met. -/
def CntI (H0 : Nat) (f : Nat → Nat) (w : World) : Prop := ∃ cur, w.heap[H0]? = some (.cells cur 3 (0, 0)) ∧ cur.size = 256 ∧ ∀ j : Nat, j < 256 → cur[j]? = some (.int .i64 (f j : Int))
theorem CntI.new (w : World) : CntI w.heap.size (fun _ => 0) (w.alloc (.cells z256 3)) :=
  ⟨z256, alloc_blk _ _, by simp [z256], fun j hj => by unfold z256; rw [Array.getElem?_eq_getElem (by simpa using hj)]; simp⟩
/-- The row of the list, that was there before the counts. -/
def RowI (H0 : Nat) (A : Option Addr) (S : List Int) (w : World) : Prop :=
  S = [] ∨ ∃ g cur, A = some ⟨g, 0, none⟩ ∧ g < H0 ∧ w.heap[g]? = some (.cells cur 3 (0, 0)) ∧ ∀ j : Nat, j < S.length → cur[j]? = some (.int .i64 (S.getD j 0))
section
variable {nt B p b G H0 c c' n C : Nat} {f g : Nat → Nat} {ly : Nat → LY} {th : Nat → TA} {M M1 : MV} {w w' wr w1 : World} {A : Option Addr} {S : List Int}
theorem CntI.at_ (h : CntI H0 f w) {j : Nat} (hj : j < 256) : w.cell? ⟨H0, j, none⟩ = some (.int .i64 (f j : Int)) ∧ ∀ i, w.frozen? ⟨H0, i, none⟩ = false := by
  obtain ⟨cur, h1, h2, h3⟩ := h
  exact ⟨(cell_of_row w H0 j cur _ (0, 0) h1).trans (h3 j hj), fun i => by simp [World.frozen?, h1]⟩
theorem CntI.lt (h : CntI H0 f w) : H0 < w.heap.size := by
  obtain ⟨cur, h1, _⟩ := h
  exact (Array.getElem?_eq_some_iff.1 h1).1
theorem CntI.same (h : CntI H0 f w) (hs : w'.heap[H0]? = w.heap[H0]?) : CntI H0 f w' := by
  obtain ⟨cur, h1, h2⟩ := h
  exact ⟨cur, hs.trans h1, h2⟩
theorem CntI.congr (h : CntI H0 f w) (e : ∀ j, j < 256 → f j = g j) : CntI H0 g w := by
  obtain ⟨cur, h1, h2, h3⟩ := h
  exact ⟨cur, h1, h2, fun j hj => by rw [h3 j hj, e j hj]⟩
theorem CntI.put (h : CntI H0 f w) {z : Nat} (_ : z < 256) : CntI H0 (fun j => if j = z then f j + 1 else f j) (w.setCell ⟨H0, z, none⟩ (.int .i64 ((f z : Int) + 1))) := by
  obtain ⟨cur, h1, h2, h3⟩ := h
  refine ⟨_, setCell_blk h1 z _, by simpa using h2, fun j hj => ?_⟩
  rw [Array.getElem?_setIfInBounds]
  by_cases e : z = j
  · subst e
    rw [if_pos rfl, if_pos (by omega)]
    simp
  · rw [if_neg e, h3 j hj]
    simp [show ¬ j = z from fun h => e h.symm]
theorem CntI.neB (h : CntI H0 f w) {t : TypeId} {cs : List Value} (k : Bq C t cs w) (ht : t ≠ 3) : C ≠ H0 := by
  obtain ⟨cur, h1, _⟩ := h
  exact k.ne (u := 3) (ds := cur.toList) (by unfold Bq; simpa using h1) ht
theorem RowI.of_own {N cc m : Nat} (h : w.ownsRow N 3 1 (.slice A m cc) m (S.map iV)) (hm : m = S.length) : RowI w.heap.size A S w := by
  rcases h.2 with ⟨_, h0⟩ | ⟨g, cap, cur, hv, _, hh, _, _, _, ht⟩
  · exact .inl (List.length_eq_zero_iff.1 (by omega))
  · injection hv with hv
    refine .inr ⟨g, cur, hv, (Array.getElem?_eq_some_iff.1 hh).1, hh, fun j hj => ?_⟩
    have := ints_at (l := S) 0 hj
    rw [← ht, List.getElem?_take, if_pos (by omega)] at this
    simpa using this
theorem RowI.cell (h : RowI H0 A S w) {j : Nat} (hj : j < S.length) : ∃ g, A = some ⟨g, 0, none⟩ ∧ g < H0 ∧ w.cell? ⟨g, j, none⟩ = some (.int .i64 (S.getD j 0)) := by
  rcases h with rfl | ⟨g, cur, e, hg, hh, hc⟩
  · simp at hj
  · exact ⟨g, e, hg, (cell_of_row _ _ j cur 3 (0, 0) hh).trans (hc j hj)⟩
theorem RowI.same (h : RowI H0 A S w) (hs : ∀ g cur, g < H0 → w.heap[g]? = some (.cells cur 3 (0, 0)) → w'.heap[g]? = w.heap[g]?) : RowI H0 A S w' := by
  rcases h with h | ⟨g, cur, e, hg, hh, hc⟩
  · exact .inl h
  · exact .inr ⟨g, cur, e, hg, (hs g cur hg hh).trans hh, hc⟩
theorem RowI.only (h : RowI H0 A S wr) (lm : LmA p b M w c wr) (k : Only p b wr w') : RowI H0 A S w' :=
  h.same fun g cur _ hh => k.block g (Array.getElem?_eq_some_iff.1 hh).1 (lm.ne (by decide) hh).1 (lm.ne (by decide) hh).2
theorem RowI.set (h : RowI H0 A S wr) (z : Nat) (v : Value) : RowI H0 A S (wr.setCell ⟨H0, z, none⟩ v) :=
  h.same fun g _ hg _ => Below.heap_setCell wr ⟨H0, z, none⟩ v g (by simp only; omega)
theorem Bq.s5 {t : TypeId} {c0 c1 c2 c3 c4 : Value} (k : Bq C t [c0, c1, c2, c3, c4] w) : w.cell? ⟨C, 0, none⟩ = some c0 ∧ w.cell? ⟨C, 1, none⟩ = some c1 ∧ w.cell? ⟨C, 2, none⟩ = some c2 ∧ w.cell? ⟨C, 3, none⟩ = some c3 ∧ w.cell? ⟨C, 4, none⟩ = some c4 ∧ ∀ i, w.frozen? ⟨C, i, none⟩ = false := ⟨k.cell 0, k.cell 1, k.cell 2, k.cell 3, k.cell 4, k.free⟩
/-- What the look stands at. -/
structure StA (p b : Nat) (M : MV) (w : World) (H0 : Nat) (f : Nat → Nat) (c : Nat) (wr : World) : Prop where
  lm : LmA p b M w c wr
  cn : CntI H0 f wr
  old : w.heap.size ≤ H0
theorem StA.tw (h : StA p b M w H0 f c wr) (W : TW nt B p b G ly th M w) : ∃ M', M'.V = M.V ∧ TW nt B p b G ly th M' wr := by
  obtain ⟨⟨⟨M', e, _, F⟩, o⟩, _⟩ := h
  exact ⟨M', e, W.onl F o (by simp) (by simp) (by simp)⟩
theorem StA.ne (h : StA p b M w H0 f c wr) : H0 ≠ p ∧ H0 ≠ b := by
  obtain ⟨cur, h1, _⟩ := h.cn
  exact h.lm.ne (by decide) h1
theorem StA.below (h : StA p b M w H0 f c wr) (hb : Below wr.heap.size wr w') : StA p b M w H0 f c w' := ⟨h.lm.below hb, h.cn.same (hb.block H0 h.cn.lt), h.old⟩
theorem StA.mono (h : StA p b M w H0 f c wr) (hc : c ≤ c') : StA p b M w H0 f c' wr := ⟨h.lm.mono hc, h.cn, h.old⟩
theorem StA.congr (h : StA p b M w H0 f c wr) (e : ∀ j, j < 256 → f j = g j) : StA p b M w H0 g c wr := ⟨h.lm, h.cn.congr e, h.old⟩
theorem StA.put (h : StA p b M w H0 f c wr) (h1 : 1 < H0) {z : Nat} (hz : z < 256) : StA p b M w H0 (fun j => if j = z then f j + 1 else f j) c (wr.setCell ⟨H0, z, none⟩ (.int .i64 ((f z : Int) + 1))) := by
  have hn := h.ne
  obtain ⟨⟨⟨M', e1, e2, F⟩, o⟩, cn, old⟩ := h
  exact ⟨⟨⟨M', e1, e2, F.setQ hn.1 hn.2 h1 _ _⟩, o.past (E := [H0]) (Onl.setCell _ (by simp) z _) (fun x hx => by rw [List.mem_singleton.1 hx]; exact old)⟩, cn.put hz, old⟩
/-- .. a cell of a block that the call has made. -/
theorem StA.setC (h : StA p b M w H0 f c wr) {t : TypeId} {cs : List Value} (k : Bq C t cs wr) (ht : t ≠ 3) (htm : t ≠ 121) (hC : w.heap.size ≤ C) (h1 : 1 < C) (i : Nat) (v : Value) : StA p b M w H0 f c (wr.setCell ⟨C, i, none⟩ v) := by
  have hne := h.cn.neB k ht
  obtain ⟨⟨⟨M', e1, e2, F⟩, o⟩, cn, old⟩ := h
  have hn := F.ne htm k
  exact ⟨⟨⟨M', e1, e2, F.setQ hn.1 hn.2 h1 _ _⟩, o.past (E := [C]) (Onl.setCell _ (by simp) i _) (fun x hx => by rw [List.mem_singleton.1 hx]; exact hC)⟩, cn.same (Below.heap_setCell wr ⟨C, i, none⟩ v H0 (by simp only; omega)), old⟩
/-- A header is looked at. -/
theorem StA.hd (h : StA p b M w H0 f c wr) (hs : M.s.st + (c : Int) < 1000000) {z : Int} (hz : 0 ≤ z ∧ z < 256) :
    Calls Tryz.prog 55 #[.pointer (some ⟨p, 0, none⟩), .int .i64 z] wr fun e w' => e = .returned (.tuple #[.int .u8 (stS (fld ((maV M.V).hdr z) 0 3)), .int .u32 (fld ((maV M.V).hdr z) 3 32)]) ∧ StA p b M w H0 f (c + 1) w' ∧ Only p b wr w' := by
  have hn := h.ne
  obtain ⟨⟨⟨M', e1, e2, F⟩, o⟩, cn, old⟩ := h
  refine (header8_anyA F (by omega) hz).mono ?_
  rintro e w' ⟨rfl, F', k⟩
  have hv : M'.V (adH z) = (maV M.V).hdr z := by rw [e1, ← ma_hdr (V := M.V) hz]
  rw [hv]
  refine ⟨rfl, ⟨⟨⟨ldM M' (adH z), e1, ?_, F'⟩, o.trans (.of_only k)⟩, cn.same (k.block H0 cn.lt hn.1 hn.2), old⟩, k⟩
  show M'.s.st + 1 ≤ _
  push_cast
  omega
theorem StA.header (h : StA p b M w H0 f c wr) (hs : M.s.st + (c : Int) < 1000000) {z : Int} (hz : 0 ≤ z ∧ z < 256) {s : Int} (hst : stW ((maV M.V).hdr z) = s) (h4 : s ≤ 4) :
    Calls Tryz.prog 55 #[.pointer (some ⟨p, 0, none⟩), .int .i64 z] wr fun e w' => ∃ g : Int, e = .returned (.tuple #[.int .u8 s, .int .u32 g]) ∧ StA p b M w H0 f (c + 1) w' ∧ Only p b wr w' := by
  refine (h.hd hs hz).mono ?_
  rintro e w' ⟨rfl, k1, k2⟩
  have hv : fld ((maV M.V).hdr z) 0 3 = s := hst
  rw [hv, stS_small h4]
  exact ⟨_, rfl, k1, k2⟩
theorem StA.live (h : StA p b M w H0 f c wr) (hs : M.s.st + (c : Int) < 1000000) {z : Int} (hz : 0 ≤ z ∧ z < 256) {g : Int} (hst : (maV M.V).hdr z = headerW 1 g) (g0 : 0 ≤ g) (g1 : g < 4294967296) :
    Calls Tryz.prog 55 #[.pointer (some ⟨p, 0, none⟩), .int .i64 z] wr fun e w' => e = .returned (.tuple #[.int .u8 1, .int .u32 g]) ∧ StA p b M w H0 f (c + 1) w' ∧ Only p b wr w' := by
  refine (h.hd hs hz).mono ?_
  rintro e w' ⟨rfl, k1, k2⟩
  rw [hst, (stS_ofA (s := 1) (by decide) (by decide) g0 g1).1, (stS_ofA (s := 1) (by decide) (by decide) g0 g1).2]
  exact ⟨rfl, k1, k2⟩
/-- A segment's words are looked at. -/
theorem StA.seg (h : StA p b M w H0 f c wr) (hs : M.s.st + (c : Int) < 900000) {z : Int} (hz : 0 ≤ z ∧ z < 32) {s u : Int} (h1 : (maV M.V).sst z = s) (h2 : (maV M.V).spk z = u) :
    Calls Tryz.prog 28 #[.pointer (some ⟨p, 0, none⟩), .int .i64 z] wr fun e w' => e = .returned (.tuple #[.int .u64 s, .int .u64 u]) ∧ StA p b M w H0 f (c + 2) w' ∧ Only p b wr w' := by
  have hn := h.ne
  obtain ⟨⟨⟨M', e1, e2, F⟩, o⟩, cn, old⟩ := h
  refine (seg9_any F (by omega) hz).mono ?_
  rintro e w' ⟨rfl, F', k⟩
  have hv : M'.V (adG z) = s := by rw [e1, ← ma_sst (V := M.V) hz]; exact h1
  have hv2 : M'.V (adP z) = u := by rw [e1, ← ma_spk (V := M.V) hz]; exact h2
  rw [hv, hv2]
  refine ⟨rfl, ⟨⟨⟨ldM (ldM M' (adG z)) (adP z), e1, ?_, F'⟩, o.trans (.of_only k)⟩, cn.same (k.block H0 cn.lt hn.1 hn.2), old⟩, k⟩
  show M'.s.st + 1 + 1 ≤ _
  push_cast
  omega
end
/-- How many of the first k from a on have state s. -/
def pS (A : MA) (s : Int) (a : Nat) : Nat → Nat
  | 0 => 0
  | k + 1 => pS A s a k + (if stW (A.hdr ((a + k : Nat) : Int)) = s then 1 else 0)
theorem pS_two (A : MA) (a : Nat) : ∀ k, pS A 3 a (k + 1) + pS A 4 a (k + 1) = pS A 3 a k + pS A 4 a k + rz A ((a + k : Nat) : Int) := fun k => by
  simp only [pS, rz]
  by_cases h3 : stW (A.hdr ((a + k : Nat) : Int)) = 3
  · rw [if_pos h3, if_neg (by omega), if_pos (.inl h3)]
    omega
  · by_cases h4 : stW (A.hdr ((a + k : Nat) : Int)) = 4
    · rw [if_neg h3, if_pos h4, if_pos (.inr h4)]
      omega
    · rw [if_neg h3, if_neg h4, if_neg (by omega)]
      rfl
theorem pS_nR (A : MA) (g : Nat) : pS A 3 (8 * g) 8 + pS A 4 (8 * g) 8 = nR A (g : Int) := by
  rw [pS_two, pS_two, pS_two, pS_two, pS_two, pS_two, pS_two, pS_two]
  unfold nR
  simp only [pS, Nat.zero_add, Nat.add_zero, Int.natCast_add, Int.natCast_mul]
  rfl
/-- All that the look asks of the memory. -/
structure SetQ (n nt : Nat) (th : Nat → TA) (S : List Int) (A : MA) : Prop where
  n3 : n ≤ 3
  hl : ∀ i, i < nt → ∀ x ∈ (th i).held, (0 ≤ x.1 ∧ x.1 < 256) ∧ A.hdr x.1 = headerW 1 x.2 ∧ 0 ≤ x.2 ∧ x.2 < 4294967296
  len : (heldsN th nt).length ≤ 60
  sl : S.length ≤ 60
  sn : ∀ z ∈ S, (0 ≤ z ∧ z < 256) ∧ stW (A.hdr z) = 0
  st : ∀ z : Nat, z < 8 * n → 0 ≤ stW (A.hdr z) ∧ stW (A.hdr z) ≤ 4
  one : ∀ z : Nat, z < 8 * n → S.count (z : Int) + ((heldsN th nt).map (·.1)).count (z : Int) + rz A z = 1
  seg : ∀ g : Nat, g < n → (A.sst g = 0 ∨ A.sst g = 1) ∧ A.spk g = nR A g ∧ (A.sst g = 0 → A.spk g = 8) ∧ ∀ z, segF z = (g : Int) → A.sst g = 1 → stW (A.hdr z) ≠ 3
end Go.Proofs.YtmjcbjcnmgleaaaGreatDoor
