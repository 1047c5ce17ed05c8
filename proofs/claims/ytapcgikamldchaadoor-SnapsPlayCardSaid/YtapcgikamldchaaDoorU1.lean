/-
  A block that is known whole, stored into by the row or by the field: the world becomes a letter of which all is known; no condition.
-/
import Derived.Test.YtapcgikamldchaaDoorR1
import Derived.Laws.Rows
import Derived.Laws.Tables
import Derived.Deep.WholeRow
import Derived.RangeFuncBox
namespace Go.Proofs.YtapcgikamldchaaDoor
open Go.RowKit

/-- One block has turned, and nothing else. -/
structure Put (w w' : World) (g : Nat) (t : TypeId) (c : Array Value) : Prop where
  os : w'.os = w.os
  tape : w'.tape = w.tape
  output : w'.output = w.output
  size : w'.heap.size = w.heap.size
  at_ : w'.heap[g]? = some (.cells c t (0, 0))
  far : ∀ k, k ≠ g → w'.heap[k]? = w.heap[k]?
theorem Put.below {B g : Nat} {a w w' : World} {t : TypeId} {c : Array Value} (hp : Put w w' g t c) (h : Below B a w) (hg : B ≤ g) : Below B a w' :=
  ⟨hp.os.trans h.os, hp.tape.trans h.tape, hp.output.trans h.output, by rw [hp.size]; exact h.size, fun k hk => (hp.far k (by omega)).trans (h.block k hk)⟩
theorem put_setRow {w : World} {g : Nat} {t : TypeId} {c : Array Value} (hg : w.heap[g]? = some (.cells c t (0, 0))) (c' : Array Value) : Put w (w.setRow g c') g t c' :=
  ⟨rfl, rfl, rfl, by simp, setRow_heap w g c c' t (0, 0) hg, fun k hk => setRow_other w g k c' hk⟩
theorem put_setCell {w : World} {g : Nat} {t : TypeId} {c : Array Value} (hg : w.heap[g]? = some (.cells c t (0, 0))) (i : Nat) (v : Value) : Put w (w.setCell ⟨g, i, none⟩ v) g t (c.setIfInBounds i v) := by
  rw [setCell_eq_setRow w g i c t (0, 0) v hg]
  exact put_setRow hg _

theorem wpList_store_put {P : Program} {ops : Array Oper} {rest : List Oper} {o : Oper} {a : Act} {w : World} {Q : Exit → Act → World → Prop} (hgd : o.guard = none) (ty : TypeId) (x y : Operand) (ho : o.op = .store ty x y)
    (g : Nat) (hx : a.eval x = .pointer (some ⟨g, 0, none⟩)) (c' : Array Value) (hy : a.eval y = .agg c') (t : TypeId) (c : Array Value) (hg : w.heap[g]? = some (.cells c t (0, 0))) (hi : (P.info? ty).map (·.size) = some c'.size) (hs : c.size = c'.size) (h1 : c'.toList.all (·.oneCell') = true)
    (h : ∀ w', Put w w' g t c' → wpList P ops Q rest (a.put o.dst undef) w') : wpList P ops Q (o :: rest) a w := by
  refine wpList_plain hgd fun K hK => ?_
  unfold Oper.wp execOp
  simp only [ho, hx, hy, Instr.storeAt, Instr.sureAddr, Sem.run_bind, Sem.run_pure, Result.andThen_ok, run_storeVar_row w g t ty c c' hg hi hs (by rw [← Array.all_toList]; exact h1)]
  exact hK _ _ (h _ (put_setRow hg c'))
theorem wpList_store_fld {P : Program} {ops : Array Oper} {rest : List Oper} {o : Oper} {a : Act} {w : World} {Q : Exit → Act → World → Prop} (hgd : o.guard = none) (ty : TypeId) (x y : Operand) (ho : o.op = .store ty x y)
    (g i : Nat) (hx : a.eval x = .pointer (some ⟨g, i, none⟩)) (k : IntKind) (n : Int) (hy : a.eval y = .int k n) (t : TypeId) (c : Array Value) (hg : w.heap[g]? = some (.cells c t (0, 0))) (hi : (P.info? ty).map (·.size) = some 1) (hs : i < c.size)
    (h : ∀ w', Put w w' g t (c.setIfInBounds i (.int k n)) → wpList P ops Q rest (a.put o.dst undef) w') : wpList P ops Q (o :: rest) a w := by
  refine wpList_plain hgd fun K hK => ?_
  have hc : w.cell? ⟨g, i, none⟩ = some c[i] := by rw [cell_of_row w g i c t (0, 0) hg]; simp [hs]
  have hf : w.frozen? ⟨g, i, none⟩ = false := frozen_of_row w g i c t hg
  have hrun : (storeVar ty ⟨g, i, none⟩ (.int k n)).run P w = .ok () (w.setCell ⟨g, i, none⟩ (.int k n)) := by
    cases hq : P.info? ty with
    | none => simp [hq] at hi
    | some j =>
      have hj : j.size = 1 := by simpa [hq] using hi
      have hst := run_store P w ⟨g, i, none⟩ (.int k n) .plain rfl
      simp only [hc, hf] at hst
      have ha : (⟨g, i, none⟩ : Addr).add 0 = ⟨g, i, none⟩ := rfl
      simp [storeVar, sizeOf, typeInfo, hq, Value.cells, hj, storeCells, ha, hst]
  unfold Oper.wp execOp
  simp only [ho, hx, hy, Instr.storeAt, Instr.sureAddr, Sem.run_bind, Sem.run_pure, Result.andThen_ok, hrun]
  exact hK _ _ (h _ (put_setCell hg i _))
/-- Two results: a variable that lies whole in its block, and a slot. -/
theorem results_cell_tmp {P : Program} {fn : Func} {p q : Tmp} {ty : TypeId} (h : fn.results = #[.cell p ty, .tmp q]) (tmps : Array Value) (w : World) (g : Nat) (t : TypeId) (cs : Array Value) (fr : Nat × Nat) (d : TypeDesc)
    (hp : tmps.getD p undef = .pointer (some ⟨g, 0, none⟩)) (hg : w.heap[g]? = some (.cells cs t fr))
    (hu : P.underlying ty = some d) (hd : (match d with | .struct _ | .array _ _ => true | _ => false) = true) (hi : (P.info? ty).map (·.size) = some cs.size) :
    (results fn tmps).run P w = .ok (.tuple #[.agg cs, tmps.getD q undef]) w := by
  have hp' : tmps[p]?.getD undef = .pointer (some ⟨g, 0, none⟩) := by simpa using hp
  simp [results, h, hp', asAddr, run_loadVar_row w g t ty cs fr d hg hu hd hi]
end Go.Proofs.YtapcgikamldchaaDoor
