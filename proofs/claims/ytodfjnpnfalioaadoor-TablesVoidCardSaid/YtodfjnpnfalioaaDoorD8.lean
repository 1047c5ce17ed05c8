/-
  The law's Begin, with no words: two new memories that say the same; no condition.
-/
import Derived.Test.YtodfjnpnfalioaaDoorD6
namespace Go.Proofs.YtodfjnpnfalioaaDoor
open Go.RowKit Go.Maps

def z8 : Acc8 := ⟨0, 0, 0, 0, 0, 0, 0, false⟩
set_option maxRecDepth 100000 in
set_option maxHeartbeats 2000000 in
theorem begin_nil (W : World) (hW : 0 < W.heap.size) : Calls Tryd.prog 7 #[.slice none 0 0] W fun e W' => ∃ p m b, e = .returned (.agg #[.pointer (some ⟨p, 0, none⟩), .pointer (some ⟨b, 0, none⟩)]) ∧ Pr p m b 0 (.map []) z8 [] z8 W' ∧ W.heap.size ≤ m ∧ Below W.heap.size W W' := by
  have hB : Below W.heap.size W (W.alloc (.cells #[.pointer none, .pointer none] 27)) := (Below.refl _ _).alloc (Nat.le_refl _) _
  have HB := Lib.hid hB
  have k0 : (W.alloc (.cells #[.pointer none, .pointer none] 27)).heap[W.heap.size]? = some (.cells #[.pointer none, .pointer none] 27 (0, 0)) := World.alloc_heap_new _ _
  have hs : (W.alloc (.cells #[.pointer none, .pointer none] 27)).heap.size = W.heap.size + 1 := by simp
  clear hB
  go_enter Tryd.func7, Tryd.ntmps7
  go_wp2_with fail
  revert HB k0 hs
  generalize W.alloc (.cells #[.pointer none, .pointer none] 27) = w0
  intro HB k0 hs
  ((with_reducible refine (new_some w0).mono ?_); rintro e w1 ⟨p, m, rfl, hp, hb, hwm, hmp⟩)
  have HP := Lib.hid hp
  have HB1 := Lib.hid (HB.out.trans (hb.mono HB.out.size))
  have k1 := Lib.hid ((hb.block W.heap.size (by omega)).trans k0)
  have hpl := hp.lt
  clear hp hb k0
  go_wp2_with fail
  have hX : Below w1.heap.size w1 ((w1.alloc (.cells #[.slice none 0 0, .int .i64 0, .int .u8 0, .int .u8 0, .int .i64 0, .int .i64 0, .int .u64 0, .int .u64 0, .bool false] 76)).alloc (.cells #[.pointer (some ⟨p, 0, none⟩), .pointer (some ⟨w1.heap.size, 0, none⟩)] 27)) := ((Below.refl _ _).alloc (Nat.le_refl _) _).alloc (by simp) _
  have HPX := Lib.hid (HP.out.below hX)
  have HBX := Lib.hid (HB1.out.trans (hX.mono HB1.out.size))
  have kt := (hX.block W.heap.size (Array.getElem?_eq_some_iff.1 k1.out).1).trans k1.out
  have HKT := Lib.hid kt
  have ka : ((w1.alloc (.cells #[.slice none 0 0, .int .i64 0, .int .u8 0, .int .u8 0, .int .i64 0, .int .i64 0, .int .u64 0, .int .u64 0, .bool false] 76)).alloc (.cells #[.pointer (some ⟨p, 0, none⟩), .pointer (some ⟨w1.heap.size, 0, none⟩)] 27)).heap[w1.heap.size]? = some (.cells #[.slice none 0 0, .int .i64 0, .int .u8 0, .int .u8 0, .int .i64 0, .int .i64 0, .int .u64 0, .int .u64 0, .bool false] 76 (0, 0)) := (Below.heap_alloc _ _ _ (by simp)).trans (World.alloc_heap_new _ _)
  have KA := Lib.hid ka
  have kb : ((w1.alloc (.cells #[.slice none 0 0, .int .i64 0, .int .u8 0, .int .u8 0, .int .i64 0, .int .i64 0, .int .u64 0, .int .u64 0, .bool false] 76)).alloc (.cells #[.pointer (some ⟨p, 0, none⟩), .pointer (some ⟨w1.heap.size, 0, none⟩)] 27)).heap[w1.heap.size + 1]? = some (.cells #[.pointer (some ⟨p, 0, none⟩), .pointer (some ⟨w1.heap.size, 0, none⟩)] 27 (0, 0)) := by
    have := World.alloc_heap_new (w1.alloc (.cells #[.slice none 0 0, .int .i64 0, .int .u8 0, .int .u8 0, .int .i64 0, .int .i64 0, .int .u64 0, .int .u64 0, .bool false] 76)) (.cells #[.pointer (some ⟨p, 0, none⟩), .pointer (some ⟨w1.heap.size, 0, none⟩)] 27)
    simpa using this
  have b0 := Joins.cell_of_block kb 0
  have b1 := Joins.cell_of_block kb 1
  have t0 := Joins.cell_of_block kt 0
  have t1 := Joins.cell_of_block kt 1
  have z0 := Joins.unfrozen_of_block kt 0
  have z1 := Joins.unfrozen_of_block kt 1
  simp only [List.getElem?_toArray, List.getElem?_cons_zero, List.getElem?_cons_succ] at b0 b1 t0 t1
  clear hX kt ka kb HP HB1 k1
  revert HPX HBX HKT KA b0 b1 t0 t1 z0 z1
  generalize ((w1.alloc (.cells #[.slice none 0 0, .int .i64 0, .int .u8 0, .int .u8 0, .int .i64 0, .int .i64 0, .int .u64 0, .int .u64 0, .bool false] 76)).alloc (.cells #[.pointer (some ⟨p, 0, none⟩), .pointer (some ⟨w1.heap.size, 0, none⟩)] 27)) = X
  intro HPX HBX HKT KA z0 z1 b0 b1 t0 t1
  have hWl : W.heap.size < w1.heap.size := by omega
  generalize w1.heap.size = b at *
  refine wp_loop_rounds 1 ?_
  rw [rounds_succ]
  go_wp2_with fail
  have far : ∀ q, q ≠ W.heap.size → ((X.setCell ⟨W.heap.size, 0, none⟩ (.pointer (some ⟨p, 0, none⟩))).setCell ⟨W.heap.size, 1, none⟩ (.pointer (some ⟨b, 0, none⟩))).heap[q]? = X.heap[q]? := fun q hq => (Below.heap_setCell _ _ _ q (by simpa using hq)).trans (Below.heap_setCell _ _ _ q (by simpa using hq))
  refine bodyPost_ret (v := .agg #[.pointer (some ⟨p, 0, none⟩), .pointer (some ⟨b, 0, none⟩)]) (by simp [results, Tryd.results7, go_sem, t0, t1]) rfl ⟨p, m, b, rfl, ⟨HPX.out.keep (far p (by omega)) (far m (by omega)), ⟨.slice none 0 0, (far b (by omega)).trans KA.out, World.ownsRow_nil _ _ _ _, by omega⟩, hmp, hpl⟩, by omega, ?_⟩
  exact (HBX.out.setCell (p := ⟨W.heap.size, 0, none⟩) (Nat.le_refl _) _).setCell (p := ⟨W.heap.size, 1, none⟩) (Nat.le_refl _) _
end Go.Proofs.YtodfjnpnfalioaaDoor
