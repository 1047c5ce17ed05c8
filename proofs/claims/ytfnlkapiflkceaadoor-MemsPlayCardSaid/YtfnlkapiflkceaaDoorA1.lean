/-
  The law's maker of addresses of layer 2: what it gives may be; condition: numbers of their kinds.
-/
import Derived.Test.YtfnlkapiflkceaaDoorL0
import Derived.Test.YtfnlkapiflkceaaDoorP1
import Derived.Deep.WholeRow
import Derived.Deep.CutRange
import Derived.Maps.RangeWalk
namespace Go.Proofs.YtfnlkapiflkceaaDoor
open Go.RowKit Go.Maps

theorem wpList_val {P : Program} {ops : Array Oper} {rest : List Oper} {o : Oper} {a : Act} {w w' : World} {Q : Exit → Act → World → Prop} {v : Value} (hg : o.guard = none)
    (hrun : (execOp a.eval o).run P w = .ok (.value v) w') (h : wpList P ops Q rest (a.put o.dst v) w') : wpList P ops Q (o :: rest) a w := by
  refine wpList_plain hg fun K hK => ?_
  unfold Oper.wp
  rw [hrun]
  exact hK _ _ h
theorem wpList_skp {P : Program} {ops : Array Oper} {rest : List Oper} {o : Oper} {a : Act} {w w' : World} {Q : Exit → Act → World → Prop} (hg : o.guard = none)
    (hrun : (execOp a.eval o).run P w = .ok .skip w') (h : wpList P ops Q rest (a.put o.dst undef) w') : wpList P ops Q (o :: rest) a w := by
  refine wpList_plain hg fun K hK => ?_
  unfold Oper.wp
  rw [hrun]
  exact hK _ _ h

theorem alloc_blk' (w : World) (o : Obj) : (w.alloc o).heap[w.heap.size]? = some o := by
  show (w.heap.push o)[w.heap.size]? = _
  simp
theorem run_skip {P : Program} {s : Sem Unit} {w w' : World} (h : s.run P w = .ok () w') : (do s; pure Next.skip : Sem Next).run P w = .ok .skip w' := by
  rw [Sem.run_bind, h]
  rfl

theorem store_run {P : Program} {a : Act} {o : Oper} {w w' : World} (t : TypeId) (x y : Operand) (p v : Value) (hop : o.op = .store t x y) (hx : a.eval x = p) (hy : a.eval y = v) (hst : (Instr.storeAt t p v).run P w = .ok () w') :
    (execOp a.eval o).run P w = .ok .skip w' := by
  unfold execOp
  rw [hop]
  simp only [hx, hy]
  exact run_skip hst

set_option maxRecDepth 100000 in
set_option maxHeartbeats 2000000 in
theorem addr_made (k a f : Int) (hk : 0 ≤ k ∧ k ≤ 255) (ha : 0 ≤ a ∧ a ≤ 255) (hf : 0 ≤ f ∧ f ≤ 255) (w : World) :
    Calls Tryd.prog 22 #[.int .u8 k, .int .u8 a, .int .u8 f] w fun e w' => e = .returned (.agg #[.int .u8 (k % 12), .int .i64 (a % atRoom (k % 12)), .int .i64 (f % fieldRoom (k % 12))]) ∧ Below w.heap.size w w' := by
  have hq0 : 0 ≤ k % 12 := by omega
  have hq1 : k % 12 < 12 := by omega
  have hqt : Int.tmod k 12 = k % 12 := Int.tmod_eq_emod_of_nonneg hk.1
  have hqw : IntKind.u8.wrap (k % 12) = k % 12 := by simp [IntKind.wrap, IntKind.bits, IntKind.signed]; omega
  go_enter Tryd.func22, Tryd.ntmps22
  go_upto_region 2 with (fail)
  have hbb : Below w.heap.size w ((w.alloc (.cells #[.int .u8 0, .int .i64 0, .int .i64 0] 31)).alloc (.cells #[.int .u8 (k % 12), .int .i64 0, .int .i64 0] 31)) := ((Below.refl _ _).alloc (Nat.le_refl _) _).alloc (by simp) _
  have hsz : ((w.alloc (.cells #[.int .u8 0, .int .i64 0, .int .i64 0] 31)).alloc (.cells #[.int .u8 (k % 12), .int .i64 0, .int .i64 0] 31)).heap.size = w.heap.size + 1 + 1 := by simp
  have b0 := alloc_blk' (w.alloc (.cells #[.int .u8 0, .int .i64 0, .int .i64 0] 31)) (.cells #[.int .u8 (k % 12), .int .i64 0, .int .i64 0] 31)
  have b1 : ((w.alloc (.cells #[.int .u8 0, .int .i64 0, .int .i64 0] 31)).alloc (.cells #[.int .u8 (k % 12), .int .i64 0, .int .i64 0] 31)).heap[w.heap.size]? = some (.cells #[.int .u8 0, .int .i64 0, .int .i64 0] 31) :=
    (Below.heap_alloc _ _ _ (by simp)).trans (alloc_blk' w _)
  rw [World.size_alloc] at b0
  revert hbb hsz b0 b1
  generalize (w.alloc (.cells #[.int .u8 0, .int .i64 0, .int .i64 0] 31)).alloc (.cells #[.int .u8 (k % 12), .int .i64 0, .int .i64 0] 31) = w0
  intro hbb hsz b0 b1
  refine wp_region_lit ?_
  refine wpList_val (v := .agg #[.int .i64 1, .int .i64 1]) (w' := w0) rfl (by kernel_rfl) ?_
  refine wpList_val (v := .agg #[.int .i64 1, .int .i64 1]) (w' := w0) rfl (by kernel_rfl) ?_
  refine wpList_val (v := .agg #[.int .i64 1, .int .i64 1]) (w' := w0) rfl (by kernel_rfl) ?_
  refine wpList_val (v := .agg #[.int .i64 1, .int .i64 1]) (w' := w0) rfl (by kernel_rfl) ?_
  refine wpList_val (v := .agg #[.int .i64 1, .int .i64 1]) (w' := w0) rfl (by kernel_rfl) ?_
  refine wpList_val (v := .agg #[.int .i64 1, .int .i64 1]) (w' := w0) rfl (by kernel_rfl) ?_
  refine wpList_val (v := .agg #[.int .i64 32, .int .i64 2]) (w' := w0) rfl (by kernel_rfl) ?_
  refine wpList_val (v := .agg #[.int .i64 4, .int .i64 1]) (w' := w0) rfl (by kernel_rfl) ?_
  refine wpList_val (v := .agg #[.int .i64 16, .int .i64 10]) (w' := w0) rfl (by kernel_rfl) ?_
  refine wpList_val (v := .agg #[.int .i64 256, .int .i64 8]) (w' := w0) rfl (by kernel_rfl) ?_
  refine wpList_val (v := .agg #[.int .i64 9, .int .i64 1]) (w' := w0) rfl (by kernel_rfl) ?_
  refine wpList_val (v := .agg #[.int .i64 1, .int .i64 2]) (w' := w0) rfl (by kernel_rfl) ?_
  refine wpList_val (v := .agg roomsL.toArray) (w' := w0) rfl (by kernel_rfl) ?_
  refine wpList_val (v := .pointer (some ⟨w0.heap.size, 0, none⟩)) (w' := w0.alloc (.cells (Array.replicate 24 (.int .i64 0)) 72)) rfl (by kernel_rfl) ?_
  have hst := run_storeAt_new (P := Tryd.prog) w0 72 (Array.replicate 24 (.int .i64 0)) roomsL.toArray (by kernel_rfl) rfl (by kernel_rfl)
  refine wpList_skp (w' := w0.alloc (.cells roomsL.toArray 72)) rfl (store_run 72 (.tmp 8) (.tmp 24) _ _ rfl (by kernel_rfl) (by kernel_rfl) hst) ?_
  go_frame
  rw [hsz]
  clear hst
  have hbT : Below w.heap.size w (w0.alloc (.cells roomsL.toArray 72)) := hbb.trans (((Below.refl _ _).alloc (Nat.le_refl _) _).mono hbb.size)
  have g0 := (Below.heap_alloc w0 (.cells roomsL.toArray 72) (w.heap.size + 1) (by omega)).trans b0
  have g1 := (Below.heap_alloc w0 (.cells roomsL.toArray 72) w.heap.size (by omega)).trans b1
  have g2 := alloc_blk' w0 (.cells roomsL.toArray 72)
  rw [hsz] at g2
  clear b0 b1 hbb hsz
  revert hbT g0 g1 g2
  generalize w0.alloc (.cells roomsL.toArray 72) = wT
  intro hbT g0 g1 g2
  obtain ⟨ra, rf⟩ := rooms_at (k % 12) hq0 hq1
  obtain ⟨l1, l2, l3, l4⟩ := rooms_low (k % 12)
  have c0 : wT.cell? ⟨w.heap.size + 1 + 1, (k % 12).toNat * 2, none⟩ = some (.int .i64 (atRoom (k % 12))) := by simpa [World.cell?, g2] using ra
  have c1 : wT.cell? ⟨w.heap.size + 1 + 1, (k % 12).toNat * 2 + 1, none⟩ = some (.int .i64 (fieldRoom (k % 12))) := by simpa [World.cell?, g2] using rf
  have d0 : wT.cell? ⟨w.heap.size + 1, 0, none⟩ = some (.int .u8 (k % 12)) := by simp [World.cell?, g0]
  have d1 : wT.cell? ⟨w.heap.size + 1, 1, none⟩ = some (.int .i64 0) := by simp [World.cell?, g0]
  have d2 : wT.cell? ⟨w.heap.size + 1, 2, none⟩ = some (.int .i64 0) := by simp [World.cell?, g0]
  have z1 : wT.frozen? ⟨w.heap.size + 1, 1, none⟩ = false := by simp [World.frozen?, g0]
  have z2 : wT.frozen? ⟨w.heap.size + 1, 2, none⟩ = false := by simp [World.frozen?, g0]
  have e0 : wT.cell? ⟨w.heap.size, 0, none⟩ = some (.int .u8 0) := by simp [World.cell?, g1]
  have e1 : wT.cell? ⟨w.heap.size, 1, none⟩ = some (.int .i64 0) := by simp [World.cell?, g1]
  have e2 : wT.cell? ⟨w.heap.size, 2, none⟩ = some (.int .i64 0) := by simp [World.cell?, g1]
  have y0 : wT.frozen? ⟨w.heap.size, 0, none⟩ = false := by simp [World.frozen?, g1]
  have y1 : wT.frozen? ⟨w.heap.size, 1, none⟩ = false := by simp [World.frozen?, g1]
  have y2 : wT.frozen? ⟨w.heap.size, 2, none⟩ = false := by simp [World.frozen?, g1]
  obtain ⟨ta, wa, a0, a1⟩ := rem_of a (atRoom (k % 12)) ha.1 ha.2 l1
  obtain ⟨tf, wf, f0, f1⟩ := rem_of f (fieldRoom (k % 12)) hf.1 hf.2 l3
  have HG1 := Lib.hid g1
  have HBT := Lib.hid hbT
  clear ra rf g0 g1 g2 hbT hqt hqw
  obtain ⟨ar, har⟩ : ∃ ar, a % atRoom (k % 12) = ar := ⟨_, rfl⟩
  obtain ⟨fs, hfs⟩ : ∃ fs, f % fieldRoom (k % 12) = fs := ⟨_, rfl⟩
  rw [har] at ta wa a0 a1
  rw [hfs] at tf wf f0 f1
  obtain ⟨r, hr⟩ : ∃ r, atRoom (k % 12) = r := ⟨_, rfl⟩
  obtain ⟨s, hs⟩ : ∃ s, fieldRoom (k % 12) = s := ⟨_, rfl⟩
  rw [hr] at c0 ta l1 l2
  rw [hs] at c1 tf l3 l4
  obtain ⟨q, hq⟩ : ∃ q, k % 12 = q := ⟨_, rfl⟩
  rw [hq] at c0 c1 d0 hq0 hq1 ⊢
  have HR := Lib.hid har
  have HS := Lib.hid hfs
  have HQ := Lib.hid hq
  clear har hfs hr hs hq
  generalize roomsL.toArray = rl
  have r0 : (r == 0) = false := by simp; omega
  have s0 : (s == 0) = false := by simp; omega
  go_wp2
  refine bodyPost_ret (v := .agg #[.int .u8 q, .int .i64 ar, .int .i64 fs]) (by simp [results, Tryd.results22, go_sem, e0, e1, e2]) rfl ⟨?_, ?_⟩
  · rw [HR.out, HS.out, HQ.out]
  · exact ((((HBT.out.setCell (p := ⟨w.heap.size + 1, 1, none⟩) (Nat.le_succ _) _).setCell (p := ⟨w.heap.size + 1, 2, none⟩) (Nat.le_succ _) _).setCell (p := ⟨w.heap.size, 0, none⟩) (Nat.le_refl _) _).setCell (p := ⟨w.heap.size, 1, none⟩) (Nat.le_refl _) _).setCell (p := ⟨w.heap.size, 2, none⟩) (Nat.le_refl _) _
end Go.Proofs.YtfnlkapiflkceaaDoor
