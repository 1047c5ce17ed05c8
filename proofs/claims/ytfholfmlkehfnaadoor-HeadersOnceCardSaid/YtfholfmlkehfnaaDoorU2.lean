/-
  A block that is known whole, loaded where a round may be called; the table of changes, as it is laid, read by its line; two headers compared; May, and the iterator's closure; conditions: the tables read as the program lays them.
-/
import Derived.Test.YtfholfmlkehfnaaDoorN1
import Derived.TacticsInMore
import Derived.OwnWalkIn
import Derived.Maps.AppendAt
namespace Go.Proofs.YtfholfmlkehfnaaDoor
open Go.RowKit

theorem wpListIn_load_row {F : Fence} {n : Nat} {P : Program} {ops : Array Oper} {rest : List Oper} {o : Oper} {a : Act} {w : World} {Q : Exit → Act → World → Prop} (hgd : o.guard = none) (ty : TypeId) (x : Operand) (ho : o.op = .load ty x)
    (g : Nat) (hx : a.eval x = .pointer (some ⟨g, 0, none⟩)) (t : TypeId) (cs : Array Value) (fr : Nat × Nat) (d : TypeDesc) (hg : w.heap[g]? = some (.cells cs t fr))
    (hu : P.underlying ty = some d) (hd : (match d with | .struct _ | .array _ _ => true | _ => false) = true) (hi : (P.info? ty).map (·.size) = some cs.size)
    (h : wpListIn F n P ops Q rest (a.put o.dst (.agg cs)) w) : wpListIn F n P ops Q (o :: rest) a w := by
  refine wpListIn_plain hgd fun K hK => ?_
  unfold Oper.wpIn
  refine ⟨?_, ?_⟩
  · simp [Oper.about, ho]
  · rw [Oper.semAt_plain F _ _ (by rw [ho]; intro c hc'; cases hc')]
    unfold execOp
    simp only [ho, hx, Instr.loadAt, Instr.sureAddr, Sem.run_bind, Sem.run_pure, Result.andThen_ok, run_loadVar_row w g t ty cs fr d hg hu hd hi]
    exact hK _ _ h
/-- The table of changes lies in its block. -/
def LayL (w : World) : Prop := ∃ t fr, w.heap[0]? = some (.cells linesC t fr)
theorem LayL.lt {w : World} (h : LayL w) : 0 < w.heap.size := by
  obtain ⟨t, fr, h⟩ := h
  exact (Array.getElem?_eq_some_iff.1 h).1
theorem LayL.below {w w' : World} {B : Nat} (h : LayL w) (hB : 0 < B) (hb : Below B w w') : LayL w' := by
  obtain ⟨t, fr, h⟩ := h
  exact ⟨t, fr, (hb.block 0 hB).trans h⟩
theorem isz66 : (Tryd.prog.info? 66).map (·.size) = some linesC.size := by kernel_rfl
theorem isz65 : (Tryd.prog.info? 65).map (·.size) = some 5 := by kernel_rfl
theorem run_line {k : Nat} (hk : k < 8) (w : World) : (Instr.index 66 (.agg linesC) (.int .i64 (k : Int))).run Tryd.prog w = .ok (.agg (lnC.getD k default).v.toArray) w := by
  match k, hk with
  | 0, _ => simp [Instr.index, run_underlying Tryd.underlying66, asIntOf, go_sem, linesC, lnC, Ln.v, part, Tryd.isAgg65, Tryd.sizeOf65]
  | 1, _ => simp [Instr.index, run_underlying Tryd.underlying66, asIntOf, go_sem, linesC, lnC, Ln.v, part, Tryd.isAgg65, Tryd.sizeOf65]
  | 2, _ => simp [Instr.index, run_underlying Tryd.underlying66, asIntOf, go_sem, linesC, lnC, Ln.v, part, Tryd.isAgg65, Tryd.sizeOf65]
  | 3, _ => simp [Instr.index, run_underlying Tryd.underlying66, asIntOf, go_sem, linesC, lnC, Ln.v, part, Tryd.isAgg65, Tryd.sizeOf65]
  | 4, _ => simp [Instr.index, run_underlying Tryd.underlying66, asIntOf, go_sem, linesC, lnC, Ln.v, part, Tryd.isAgg65, Tryd.sizeOf65]
  | 5, _ => simp [Instr.index, run_underlying Tryd.underlying66, asIntOf, go_sem, linesC, lnC, Ln.v, part, Tryd.isAgg65, Tryd.sizeOf65]
  | 6, _ => simp [Instr.index, run_underlying Tryd.underlying66, asIntOf, go_sem, linesC, lnC, Ln.v, part, Tryd.isAgg65, Tryd.sizeOf65]
  | 7, _ => simp [Instr.index, run_underlying Tryd.underlying66, asIntOf, go_sem, linesC, lnC, Ln.v, part, Tryd.isAgg65, Tryd.sizeOf65]
  | k + 8, h => exact absurd h (by omega)
theorem wpListIn_line {F : Fence} {n : Nat} {ops : Array Oper} {rest : List Oper} {o : Oper} {a : Act} {w : World} {Q : Exit → Act → World → Prop} (hgd : o.guard = none) (x y : Operand) (ho : o.op = .index 66 x y)
    (k : Nat) (hk : k < 8) (hx : a.eval x = .agg linesC) (hy : a.eval y = .int .i64 (k : Int)) (h : wpListIn F n Tryd.prog ops Q rest (a.put o.dst (.agg (lnC.getD k default).v.toArray)) w) : wpListIn F n Tryd.prog ops Q (o :: rest) a w := by
  refine wpListIn_plain hgd fun K hK => ?_
  unfold Oper.wpIn
  refine ⟨?_, ?_⟩
  · simp [Oper.about, ho]
  · rw [Oper.semAt_plain F _ _ (by rw [ho]; intro c hc'; cases hc')]
    unfold execOp
    simp only [ho, hx, hy, Sem.run_bind, Sem.run_pure, Result.andThen_ok, run_line hk w]
    exact hK _ _ h
set_option maxRecDepth 100000 in
theorem eql48 (s g s' g' : Int) (w : World) : (binOp .eql 48 (.agg #[.int .u8 s, .int .u64 g]) (.agg #[.int .u8 s', .int .u64 g'])).run Tryd.prog w = .ok (.bool (decide (s = s' ∧ g = g'))) w := by
  have hS : Tryd.prog.underlying 48 = some (.struct (Tryd.prog.fieldsOf 48)) := by kernel_rfl
  have hp : Tryd.prog.stoodInHeld 48 = false := by kernel_rfl
  have u41 := Tryd.underlying41
  have a41 := Tryd.isAgg41
  have z41 := Tryd.sizeOf41
  have u22 := Tryd.underlying22
  have a22 := Tryd.isAgg22
  have z22 := Tryd.sizeOf22
  rw [run_eql_struct, show (10000 : Nat) = 9999 + 1 from rfl, run_equalIn_agg w 9999 48 _ _ hS hp]
  simp only [Program.fieldsOf, Tryd.underlying48]
  clear hS hp
  go_simp
  by_cases hs : s = s'
  · subst hs
    by_cases hg : g = g'
    · subst hg
      simp
    · simp [hg]
  · simp [hs]
set_option maxHeartbeats 1000000 in
theorem may_any (x most : Int) (w : World) (hL : Lay w) (hx : U64 x) (hm' : U32 most) : Calls Tryd.prog 7 #[.int .u64 x, .int .u32 most] w fun e w' => e = .returned (.bool (mayH x most)) ∧ Below w.heap.size w w' := by
  have HC := Lib.hid (read_any x most w hL hx hm')
  clear hL hx hm'
  simp only [hV] at HC
  go_enter Tryd.func7, Tryd.ntmps7
  go_wp2_with fail
  refine HC.out.mono ?_
  rintro e w1 ⟨rfl, hb⟩
  have HB := Lib.hid hb
  clear hb HC
  go_wp2_with fail
  go_ret
  exact ⟨rfl, HB.out.alloc HB.out.size _⟩
set_option maxHeartbeats 1000000 in
theorem next_any (x most : Int) (w : World) : Calls Tryd.prog 21 #[.int .u64 x, .int .u32 most] w fun e w' => e = .returned (.func (.func 32) #[] #[.pointer (some ⟨w.heap.size, 0, none⟩), .pointer (some ⟨w.heap.size + 1, 0, none⟩)]) ∧ (w.alloc (.cells #[.int .u64 x] 22)).alloc (.cells #[.int .u32 most] 24) = w' := by
  go_enter Tryd.func21, Tryd.ntmps21
  go_wp2
  go_ret
  exact ⟨rfl, rfl⟩
end Go.Proofs.YtfholfmlkehfnaaDoor
