/-
  The law MemsPlay over a list that is not there, and over a long one; condition: the table of rooms reads as the program lays it.
-/
import Derived.Test.YtfnlkapiflkceaaDoorD9
namespace Go.Proofs.YtfnlkapiflkceaaDoor
open Go.RowKit Go.Maps

set_option maxRecDepth 100000 in
set_option maxHeartbeats 2000000 in
theorem play_long (ao : Option Addr) (cap nn : Nat) (W : World) (hl : Lay W) (hn : 300 < nn) :
    Calls Tryd.prog 3 #[.slice ao nn cap] W fun e W' => e = .returned (.bool true) ∧ Below W.heap.size W W' := by
  have HL := Lib.hid hl
  have hn' : (300 : Int) < (nn : Int) := by omega
  clear hl
  go_enter Tryd.func3, Tryd.ntmps3
  go_wp2_with fail
  ((with_reducible refine (lives_any W HL.out).mono ?_); rintro e w4 ⟨rfl, hb⟩)
  go_wp2_with fail
  go_ret
  exact ⟨rfl, hb⟩
set_option maxRecDepth 100000 in
set_option maxHeartbeats 2000000 in
theorem play_nil (W : World) (hl : Lay W) : Calls Tryd.prog 3 #[.slice none 0 0] W fun e W' => e = .returned (.bool true) ∧ Below W.heap.size W W' := by
  have h0W : 0 < W.heap.size := hl.1
  have HL := Lib.hid hl
  clear hl
  go_enter Tryd.func3, Tryd.ntmps3
  go_wp2_with fail
  ((with_reducible refine (begin_nil W h0W).mono ?_); rintro e w1 ⟨p, m, b, rfl, hp, hwm, hb⟩)
  have hX : Below w1.heap.size w1 (w1.alloc (.cells #[.pointer (some ⟨p, 0, none⟩), .pointer (some ⟨b, 0, none⟩)] 27)) := (Below.refl _ _).alloc (Nat.le_refl _) _
  have HP := Lib.hid (hp.below hX)
  have HB := Lib.hid (hb.trans (hX.mono hb.size))
  have HL2 := Lib.hid ((HL.out.below hb).below hX)
  have k0 : (w1.alloc (.cells #[.pointer (some ⟨p, 0, none⟩), .pointer (some ⟨b, 0, none⟩)] 27)).heap[w1.heap.size]? = some (.cells #[.pointer (some ⟨p, 0, none⟩), .pointer (some ⟨b, 0, none⟩)] 27 (0, 0)) := World.alloc_heap_new _ _
  have c0 := Joins.cell_of_block k0 0
  have c1 := Joins.cell_of_block k0 1
  simp only [List.getElem?_toArray, List.getElem?_cons_zero, List.getElem?_cons_succ] at c0 c1
  clear hp hb hX k0
  go_wp2_with fail
  revert HP HB HL2 c0 c1
  generalize w1.alloc (.cells #[.pointer (some ⟨p, 0, none⟩), .pointer (some ⟨b, 0, none⟩)] 27) = w2
  intro HP HB HL2 c0 c1
  refine wp_loop_rounds 1 ?_
  rw [rounds_succ]
  go_wp2_with fail
  ((with_reducible refine (pair_words HP.out rel_nil (by simp)).mono ?_); rintro e w3 ⟨rfl, hb⟩)
  have HL3 := Lib.hid (HL2.out.below hb)
  have HB3 := Lib.hid (HB.out.trans (hb.mono HB.out.size))
  clear hb
  go_wp2_with fail
  ((with_reducible refine (lives_any w3 HL3.out).mono ?_); rintro e w4 ⟨rfl, hb⟩)
  go_wp2_with fail
  go_ret
  exact ⟨rfl, HB3.out.trans (hb.mono HB3.out.size)⟩
end Go.Proofs.YtfnlkapiflkceaaDoor
