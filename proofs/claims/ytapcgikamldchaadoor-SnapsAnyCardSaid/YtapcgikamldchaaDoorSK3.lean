/-
  Package snaps: a thread's words by their names: ten words, of which three are copied; no condition.
-/
import Derived.Test.YtapcgikamldchaaDoorSK2
import Derived.Test.YtapcgikamldchaaDoorU1
import Derived.Deep.DeepCutAuto
import Derived.StillTailTactics
import Derived.Outline
import Derived.Laws.CopyOwn
namespace Go.Proofs.YtapcgikamldchaaDoor
open Go.RowKit Go.Maps

section
variable {z : Nat} {w w' : World}
theorem size_alloc1 (w : World) (o : Obj) : (w.alloc o).heap.size = w.heap.size + 1 := by
  rw [← World.alloc_eq]
  exact Array.size_push _
theorem results_cell {P : Program} {fn : Func} {p : Tmp} {ty : TypeId} (h : fn.results = #[.cell p ty]) (tmps : Array Value) (w : World) (g : Nat) (t : TypeId) (cs : Array Value) (fr : Nat × Nat) (d : TypeDesc)
    (hp : tmps.getD p undef = .pointer (some ⟨g, 0, none⟩)) (hg : w.heap[g]? = some (.cells cs t fr))
    (hu : P.underlying ty = some d) (hd : (match d with | .struct _ | .array _ _ => true | _ => false) = true) (hi : (P.info? ty).map (·.size) = some cs.size) :
    (results fn tmps).run P w = .ok (.agg cs) w := by
  have hp' : tmps[p]?.getD undef = .pointer (some ⟨g, 0, none⟩) := by simpa using hp
  simp [results, h, hp', asAddr, run_loadVar_row w g t ty cs fr d hg hu hd hi]
theorem info_u64 : (Tryd.prog.info? 34).map (·.size) = some 1 := by kernel_rfl
theorem ten_cells {t : TypeId} {a0 a1 a2 a3 a4 a5 a6 a7 a8 a9 : Int} (h : Bq z t [.int .u64 a0, .int .u64 a1, .int .u64 a2, .int .u64 a3, .int .u64 a4, .int .u64 a5, .int .u64 a6, .int .u64 a7, .int .u64 a8, .int .u64 a9] w) :
    w.cell? ⟨z, 0, none⟩ = some (.int .u64 a0) ∧ w.cell? ⟨z, 1, none⟩ = some (.int .u64 a1) ∧ w.cell? ⟨z, 2, none⟩ = some (.int .u64 a2) ∧ w.cell? ⟨z, 3, none⟩ = some (.int .u64 a3) ∧ w.cell? ⟨z, 4, none⟩ = some (.int .u64 a4) ∧ w.cell? ⟨z, 5, none⟩ = some (.int .u64 a5) ∧ w.cell? ⟨z, 6, none⟩ = some (.int .u64 a6) ∧ w.cell? ⟨z, 7, none⟩ = some (.int .u64 a7) ∧ w.cell? ⟨z, 8, none⟩ = some (.int .u64 a8) ∧ w.cell? ⟨z, 9, none⟩ = some (.int .u64 a9) := ⟨h.cell 0, h.cell 1, h.cell 2, h.cell 3, h.cell 4, h.cell 5, h.cell 6, h.cell 7, h.cell 8, h.cell 9⟩
theorem ten_free {t : TypeId} {cs : List Value} (h : Bq z t cs w) :
    w.frozen? ⟨z, 0, none⟩ = false ∧ w.frozen? ⟨z, 1, none⟩ = false ∧ w.frozen? ⟨z, 2, none⟩ = false ∧ w.frozen? ⟨z, 3, none⟩ = false ∧ w.frozen? ⟨z, 4, none⟩ = false ∧ w.frozen? ⟨z, 5, none⟩ = false ∧ w.frozen? ⟨z, 6, none⟩ = false ∧ w.frozen? ⟨z, 7, none⟩ = false ∧ w.frozen? ⟨z, 8, none⟩ = false ∧ w.frozen? ⟨z, 9, none⟩ = false := ⟨h.free 0, h.free 1, h.free 2, h.free 3, h.free 4, h.free 5, h.free 6, h.free 7, h.free 8, h.free 9⟩
set_option maxRecDepth 100000 in
set_option maxHeartbeats 4000000 in
theorem as_thread (a0 a1 a2 a3 a4 a5 a6 a7 a8 a9 : Int) (w : World) : Calls Tryd.prog 29 #[.agg #[.int .u64 a0, .int .u64 a1, .int .u64 a2, .int .u64 a3, .int .u64 a4, .int .u64 a5, .int .u64 a6, .int .u64 a7, .int .u64 a8, .int .u64 a9]] w fun e w' => e = .returned (.agg #[.int .u64 a0, .int .u64 a1, .int .u64 a2, .int .u64 a3, .int .u64 a4, .int .u64 a5, .int .u64 a6, .int .u64 a7, .int .u64 a8, .int .u64 a9]) ∧ Below w.heap.size w w' := by
  have h1 : Below w.heap.size w (w.alloc (.cells #[.int .u64 a0, .int .u64 a1, .int .u64 a2, .int .u64 a3, .int .u64 a4, .int .u64 a5, .int .u64 a6, .int .u64 a7, .int .u64 a8, .int .u64 a9] 56)) := (Below.refl _ w).alloc (Nat.le_refl _) _
  have h2 : Below w.heap.size w ((w.alloc (.cells #[.int .u64 a0, .int .u64 a1, .int .u64 a2, .int .u64 a3, .int .u64 a4, .int .u64 a5, .int .u64 a6, .int .u64 a7, .int .u64 a8, .int .u64 a9] 56)).alloc (.cells #[.int .u64 0, .int .u64 0, .int .u64 0, .int .u64 0, .int .u64 0, .int .u64 0, .int .u64 0, .int .u64 0, .int .u64 0, .int .u64 0] 52)) := h1.alloc h1.size _
  have h3 : Below w.heap.size w (((w.alloc (.cells #[.int .u64 a0, .int .u64 a1, .int .u64 a2, .int .u64 a3, .int .u64 a4, .int .u64 a5, .int .u64 a6, .int .u64 a7, .int .u64 a8, .int .u64 a9] 56)).alloc (.cells #[.int .u64 0, .int .u64 0, .int .u64 0, .int .u64 0, .int .u64 0, .int .u64 0, .int .u64 0, .int .u64 0, .int .u64 0, .int .u64 0] 52)).alloc (.cells #[.int .u64 a0, .int .u64 a1, .int .u64 a2, .int .u64 a3, .int .u64 a4, .int .u64 a5, .int .u64 a6, .int .u64 0, .int .u64 0, .int .u64 0] 52)) := h2.alloc h2.size _
  have s1 : (w.alloc (.cells #[.int .u64 a0, .int .u64 a1, .int .u64 a2, .int .u64 a3, .int .u64 a4, .int .u64 a5, .int .u64 a6, .int .u64 a7, .int .u64 a8, .int .u64 a9] 56)).heap.size = w.heap.size + 1 := size_alloc1 _ _
  have s2 : ((w.alloc (.cells #[.int .u64 a0, .int .u64 a1, .int .u64 a2, .int .u64 a3, .int .u64 a4, .int .u64 a5, .int .u64 a6, .int .u64 a7, .int .u64 a8, .int .u64 a9] 56)).alloc (.cells #[.int .u64 0, .int .u64 0, .int .u64 0, .int .u64 0, .int .u64 0, .int .u64 0, .int .u64 0, .int .u64 0, .int .u64 0, .int .u64 0] 52)).heap.size = w.heap.size + 1 + 1 := (size_alloc1 _ _).trans (congrArg (· + 1) s1)
  have k1 := Bq.new w [.int .u64 a0, .int .u64 a1, .int .u64 a2, .int .u64 a3, .int .u64 a4, .int .u64 a5, .int .u64 a6, .int .u64 a7, .int .u64 a8, .int .u64 a9] 56
  have k2 := Bq.new (w.alloc (.cells #[.int .u64 a0, .int .u64 a1, .int .u64 a2, .int .u64 a3, .int .u64 a4, .int .u64 a5, .int .u64 a6, .int .u64 a7, .int .u64 a8, .int .u64 a9] 56)) [.int .u64 0, .int .u64 0, .int .u64 0, .int .u64 0, .int .u64 0, .int .u64 0, .int .u64 0, .int .u64 0, .int .u64 0, .int .u64 0] 52
  have k3 := Bq.new ((w.alloc (.cells #[.int .u64 a0, .int .u64 a1, .int .u64 a2, .int .u64 a3, .int .u64 a4, .int .u64 a5, .int .u64 a6, .int .u64 a7, .int .u64 a8, .int .u64 a9] 56)).alloc (.cells #[.int .u64 0, .int .u64 0, .int .u64 0, .int .u64 0, .int .u64 0, .int .u64 0, .int .u64 0, .int .u64 0, .int .u64 0, .int .u64 0] 52)) [.int .u64 a0, .int .u64 a1, .int .u64 a2, .int .u64 a3, .int .u64 a4, .int .u64 a5, .int .u64 a6, .int .u64 0, .int .u64 0, .int .u64 0] 52
  have k13 := (k1.below ((Below.refl _ _).alloc (Nat.le_refl _) (.cells #[.int .u64 0, .int .u64 0, .int .u64 0, .int .u64 0, .int .u64 0, .int .u64 0, .int .u64 0, .int .u64 0, .int .u64 0, .int .u64 0] 52))).below ((Below.refl _ _).alloc (Nat.le_refl _) (.cells #[.int .u64 a0, .int .u64 a1, .int .u64 a2, .int .u64 a3, .int .u64 a4, .int .u64 a5, .int .u64 a6, .int .u64 0, .int .u64 0, .int .u64 0] 52))
  have k23 := k2.below ((Below.refl _ _).alloc (Nat.le_refl _) (.cells #[.int .u64 a0, .int .u64 a1, .int .u64 a2, .int .u64 a3, .int .u64 a4, .int .u64 a5, .int .u64 a6, .int .u64 0, .int .u64 0, .int .u64 0] 52))
  rw [s1] at k23
  rw [s2] at k3
  have HB := Lib.hid h3
  have HA := Lib.hid k13
  have HR := Lib.hid k23
  have HT := Lib.hid k3
  clear h1 h2 h3 s1 s2 k1 k2 k3 k13 k23
  go_enter Tryd.func29, Tryd.ntmps29
  go_upto_region 2 with (fail)
  revert HB HA HR HT
  generalize (((w.alloc (.cells #[.int .u64 a0, .int .u64 a1, .int .u64 a2, .int .u64 a3, .int .u64 a4, .int .u64 a5, .int .u64 a6, .int .u64 a7, .int .u64 a8, .int .u64 a9] 56)).alloc (.cells #[.int .u64 0, .int .u64 0, .int .u64 0, .int .u64 0, .int .u64 0, .int .u64 0, .int .u64 0, .int .u64 0, .int .u64 0, .int .u64 0] 52)).alloc (.cells #[.int .u64 a0, .int .u64 a1, .int .u64 a2, .int .u64 a3, .int .u64 a4, .int .u64 a5, .int .u64 a6, .int .u64 0, .int .u64 0, .int .u64 0] 52)) = w3
  intro HB HA HR HT
  have hd : Below w3.heap.size w3 w3.drew := (Below.refl w3.heap.size w3).drew
  have HB2 := Lib.hid (HB.out.trans (hd.mono HB.out.size))
  have HA2 := Lib.hid (HA.out.below hd)
  have HR2 := Lib.hid (HR.out.below hd)
  have HT2 := Lib.hid (HT.out.below hd)
  refine wp_region_still_tail 3 (by kernel_rfl) (by kernel_rfl) ?_
  change wpStill _ _ w3.drew (fun a' => wpList _ _ _ _ a' w3.drew) _ _
  clear HB HA HR HT hd
  revert HB2 HA2 HR2 HT2
  generalize w3.drew = wd
  intro HB HA HR HT
  simp only [List.take_succ_cons, List.take_zero, List.drop_succ_cons, List.drop_zero]
  iterate 3 still_step
  refine wpStill_nil ?_
  have hsrc : ∀ j v, [.int .u64 a7, .int .u64 a8, .int .u64 a9][j]? = some v → wd.cell? ((⟨w.heap.size, 7, none⟩ : Addr).add j) = some v := fun j v hj => by
    have hA := HA.out
    match j, hj with
    | 0, hj => exact (hA.cell 7).trans hj
    | 1, hj => exact (hA.cell 8).trans hj
    | 2, hj => exact (hA.cell 9).trans hj
    | j + 3, hj => simp at hj
  have HS := Lib.hid hsrc
  have HBb := Lib.hid (Below.refl (w.heap.size + 1 + 1) wd)
  clear hsrc
  refine wpList_copy_splice rfl (.tmp 20) (.tmp 21) 94 94 rfl 34 Tryd.underlying94 info_u64 _ _ 3 3 3 3 rfl rfl (w.heap.size + 1 + 1) 7 _ 52 HT.out [.int .u64 a7, .int .u64 a8, .int .u64 a9] rfl (fun _ => ⟨rfl, _, rfl, HS.out⟩) (Nat.le_refl 10) (by simp [Value.oneCell']) _ _ HBb.out (Nat.le_refl _) ?_
  intro w4 hg hb
  have HT4 := Lib.hid (show Bq (w.heap.size + 1 + 1) 52 [.int .u64 a0, .int .u64 a1, .int .u64 a2, .int .u64 a3, .int .u64 a4, .int .u64 a5, .int .u64 a6, .int .u64 a7, .int .u64 a8, .int .u64 a9] w4 from hg.out)
  have HR4 := Lib.hid (HR.out.same (hb.block (w.heap.size + 1) (by omega)))
  have HB4 := Lib.hid (HB.out.trans (hb.mono (by omega)))
  clear hg hb HA HR HT HB HS HBb
  obtain ⟨x0, x1, x2, x3, x4, x5, x6, x7, x8, x9⟩ := ten_cells HT4.out
  go_wp2_with (refine wpList_store_put rfl 52 _ _ rfl (w.heap.size + 1) rfl #[.int .u64 a0, .int .u64 a1, .int .u64 a2, .int .u64 a3, .int .u64 a4, .int .u64 a5, .int .u64 a6, .int .u64 a7, .int .u64 a8, .int .u64 a9] rfl 52 _ HR4.out (by kernel_rfl) rfl rfl ?_; intro w5 hp)
  exact bodyPost_ret (results_cell Tryd.results29 _ _ _ _ _ _ _ rfl hp.at_ Tryd.underlying52 rfl (by kernel_rfl)) rfl ⟨rfl, hp.below HB4.out (Nat.le_succ _)⟩
end
end Go.Proofs.YtapcgikamldchaaDoor
