/-
  A row of commands that turns: what goes on beside it; no condition of its own.
-/
import Derived.Test.YtlgfdemggkiojaaDoorL4
namespace Go.Proofs.YtlgfdemggkiojaaDoor
open Go.RowKit

theorem own_cases {w : World} {base : Nat} {e : TypeId} {size : Nat} {A : Option Addr} {n c : Nat} {xs : List Value} (h : w.ownsRow base e size (.slice A n c) n xs) : (A = none ∧ n = 0) ∨ ∃ g, A = some ⟨g, 0, none⟩ ∧ base ≤ g ∧ g < w.heap.size := by
  rcases h.2 with ⟨hv, rfl⟩ | ⟨g, cap, cur, hv, hb, hg, _⟩
  · injection hv with hv
    exact .inl ⟨hv, rfl⟩
  · injection hv with hv
    exact .inr ⟨g, hv, hb, (Array.getElem?_eq_some_iff.1 hg).1⟩
theorem Over.next {w w1 w2 : World} {A : Option Addr} {n : Nat} (h : Over w w1 A n) (hb : Below w1.heap.size w1 w2) : Over w w2 A n := by
  refine ⟨h.grown.trans ⟨hb.os, hb.tape, hb.output, hb.size, fun k hk _ => hb.block k hk⟩, fun g o hA j hj => ?_⟩
  obtain ⟨h1, h2⟩ := h.there g o hA j hj
  obtain ⟨u, hu⟩ := Option.isSome_iff_exists.1 h1
  have hk := hb.block g (World.block_lt_of_cell? w1 _ hu)
  exact ⟨by rw [World.cell?_of_block (a := ⟨g, o + j, none⟩) hk]; exact h1, by rw [World.frozen?_of_block (a := ⟨g, o + j, none⟩) hk]; exact h2⟩
/-- A row of another block is as it was. -/
theorem own_over {w w' : World} {base : Nat} {e : TypeId} {size : Nat} {A X : Option Addr} {n m c : Nat} {xs : List Value} (ho : w.ownsRow base e size (.slice X m c) m xs) (hO : Over w w' A n) (hne : ∀ a b, A = some a → X = some b → a.block ≠ b.block) : w'.ownsRow base e size (.slice X m c) m xs := by
  refine own_far ho hO.grown fun g hg => ?_
  rcases own_cases ho with ⟨rfl, _⟩ | ⟨g', rfl, _, _⟩
  · cases hg
  · cases A with
    | none => simp
    | some a =>
      have h1 := hne a _ rfl rfl
      injection hg with hg
      subst hg
      intro e
      injection e with e
      exact h1 e.symm
/-- Nine cells go into the middle of a row. -/
theorem store_nine {P : Program} {ops : Array Oper} {rest : List Oper} {op : Oper} {a : Act} {w : World} {Q : Exit → Act → World → Prop} (hgd : op.guard = none) (ty : TypeId) (x y : Operand) (ho : op.op = .store ty x y)
    (b o : Nat) (cs : List Value) (hx : a.eval x = .pointer (some ⟨b, o, none⟩)) (hy : a.eval y = .agg cs.toArray) (hl : cs.length = 9)
    (ht : w.there b o 9) (hi : (P.info? ty).map (·.size) = some 9) (h1 : ∀ v ∈ cs, v.oneCell' = true)
    (h : ∀ w', w' = w.setCells b o cs → wpList P ops Q rest (a.put op.dst undef) w') : wpList P ops Q (op :: rest) a w := by
  have hz : cs.toArray.size = 9 := hl
  refine wpList_store_mid hgd ty x y ho b o cs.toArray hx hy (by rw [hz]; exact ht) (by rw [hz]; exact hi) (all_oneCell_toArray h1) ?_
  exact h _ rfl
end Go.Proofs.YtlgfdemggkiojaaDoor
