/-
  The chapter's example of layer 3, as the law runs it: it holds, and only makes memory of its own; condition: the table of sizes reads as the program lays it.
-/
import Derived.Test.YtlgfdemggkiojaaDoorH3
namespace Go.Proofs.YtlgfdemggkiojaaDoor
open Go.RowKit

def exB : List UInt8 := [5, 135, 1, 0, 7, 9, 129]
def ex1 : Cm := ⟨1, 0, 1, 5, 0, 0, 0, 0, 0⟩
def ex2 : Cm := ⟨9, 1, 6, 0, 1, 0, 0, 7, 9⟩
def ex3 : Cm := ⟨0, 6, 7, 0, 0, 0, 0, 0, 0⟩
theorem take_most (l : List UInt8) (h : l.length ≤ 65536) : l.take most = l := List.take_of_length_le (by rw [most_eq]; exact h)
theorem exB_parse : parseC exB = [ex1, ex2, ex3] := by
  unfold parseC
  rw [take_most _ (by decide)]
  rw [parseFrom_cons 0 exB (by decide), show dlen exB = 1 by kernel_rfl, show exB.drop 1 = [135, 1, 0, 7, 9, 129] by kernel_rfl]
  rw [parseFrom_cons _ [135, 1, 0, 7, 9, 129] (by decide), show dlen [135, 1, 0, 7, 9, 129] = 5 by kernel_rfl, show List.drop 5 [135, 1, 0, 7, 9, 129] = ([129] : List UInt8) by kernel_rfl]
  rw [parseFrom_cons _ [129] (by decide), show dlen [129] = 1 by kernel_rfl, show List.drop 1 ([129] : List UInt8) = [] by kernel_rfl, parseFrom_nil]
  kernel_rfl
def exN : Cm := ⟨0, 0, 2, 0, 0, 0, 0, 0, 0⟩
theorem exN_next : nextC [130, 3] 0 = some exN := by
  have h := nextC_in [130, 3] 0 (by rw [take_most _ (by decide)]; decide)
  rw [take_most _ (by decide)] at h
  exact h.trans (by kernel_rfl)
def exJ : Cm := ⟨2, 0, 0, 0, 0, 0, 0, 0, 0⟩
def exP : Cm := ⟨1, 0, 0, 127, 0, 0, 0, 0, 0⟩
theorem exW_may : [exJ, exP].all mayC = true := by decide
theorem exW_flat : flatB [exJ, exP] = [128, 127] := by decide
theorem fit_exJ : exJ.Fit := ⟨by decide, by decide, by decide, by decide, by decide, by decide⟩
theorem fit_exP : exP.Fit := ⟨by decide, by decide, by decide, by decide, by decide, by decide⟩
theorem bys_new (w : World) (bs : List UInt8) : Bys (w.alloc (.cells (bs.map bC).toArray 5)) w.heap.size 0 bs := bys_of_row (heap_alloc_new w _)
theorem cms_of_row {w : World} {g : Nat} {l : List Cm} {t : TypeId} (h : w.heap[g]? = some (.cells (flatV l).toArray t (0, 0))) : Cms w g 0 l := fun i c hc => by
  have k : ∀ j, j < 9 → w.cell? ⟨g, 0 + i * 9 + j, none⟩ = (vC c)[j]? := fun j hj => by
    rw [cell_of_row _ _ _ _ _ _ h, Nat.zero_add]
    have := flat_at (f := vC) (fun _ => rfl) l i j c hc hj
    simpa [flatV] using this
  exact ⟨k 0 (by omega), k 1 (by omega), k 2 (by omega), k 3 (by omega), k 4 (by omega), k 5 (by omega), k 6 (by omega), k 7 (by omega), k 8 (by omega)⟩
theorem bys_of_own {w : World} {g : Nat} {l : List UInt8} {base n c : Nat} (h : w.ownsRow base 5 1 (.slice (some ⟨g, 0, none⟩) n c) n (l.map bC)) : Bys w g 0 l := fun i hi => by
  have hn : n = l.length := by
    have := h.1
    simpa using this.symm
  rw [Nat.zero_add, h.cellAt i (by omega)]
  simp [bC, byt, List.getD_eq_getElem?_getD, hi]
set_option maxRecDepth 100000 in
set_option maxHeartbeats 4000000 in
theorem lives_any (w : World) (hl : Lay w) : Calls Tryd.prog 8 #[] w fun e w' => e = .returned (.bool true) ∧ Below w.heap.size w w' := by
  have HL := Lib.hid hl
  clear hl
  go_enter Tryd.func8, Tryd.ntmps8
  go_wp2_with fail
  have hb0 : Below w.heap.size w (w.alloc (.cells (exB.map bC).toArray 5)) := (Below.refl _ _).alloc (Nat.le_refl _) _
  have hp := parse_any (some ⟨w.heap.size, 0, none⟩) 7 exB (w.alloc (.cells (exB.map bC).toArray 5)) (HL.out.below hb0) (Sl.of (bys_new w exB)) (by decide) (by omega)
  refine hp.mono ?_
  rintro e w1 ⟨v, c, ho, hb1, hv⟩
  rw [exB_parse] at ho hv
  rcases hv with ⟨rfl, _⟩ | ⟨g, rfl, rfl⟩
  · rcases ho.2 with ⟨_, h⟩ | ⟨_, _, _, h, _⟩
    · cases h
    · cases h
  simp only [List.length_cons, List.length_nil, Nat.reduceAdd] at ho ⊢
  have HO1 := Lib.hid ho
  have HB1 := Lib.hid (hb0.trans (hb1.mono hb0.size))
  clear ho hb1 hb0 hp
  go_wp2_with fail
  have hb2 : Below w.heap.size w (w1.alloc (.cells (([130, 3] : List UInt8).map bC).toArray 5)) := HB1.out.alloc HB1.out.size _
  refine (next_some (some ⟨w1.heap.size, 0, none⟩) 2 [130, 3] 0 exN _ (HL.out.below (hb2.mono (Nat.le_refl _))) (Sl.of (bys_new w1 [130, 3])) (by decide) (by omega) exN_next).mono ?_
  rintro e w2 ⟨rfl, hb3⟩
  have HO2 := Lib.hid (own_low (HO1.out.alloc (.cells (([130, 3] : List UInt8).map bC).toArray 5)) hb3)
  have HB2 := Lib.hid (hb2.trans (hb3.mono hb2.size))
  clear hb2 hb3 HO1 HB1
  simp only [someCmd, Cm.v, exN]
  go_wp2_with fail
  have hq := heap_alloc_new w2 (.cells #[.int .u8 0, .int .i64 0, .int .i64 2, .int .i64 0, .int .i64 0, .int .u8 0, .int .u8 0, .int .u64 0, .int .u64 0] 34)
  have hb4 : Below w2.heap.size w2 ((w2.alloc (.cells #[.int .u8 0, .int .i64 0, .int .i64 2, .int .i64 0, .int .i64 0, .int .u8 0, .int .u8 0, .int .u64 0, .int .u64 0] 34)).alloc (.cells (flatV [exJ, exP]).toArray 34)) := below_two _ _ _
  have hr := heap_alloc_new (w2.alloc (.cells #[.int .u8 0, .int .i64 0, .int .i64 2, .int .i64 0, .int .i64 0, .int .u8 0, .int .u8 0, .int .u64 0, .int .u64 0] 34)) (.cells (flatV [exJ, exP]).toArray 34)
  rw [World.size_alloc] at hr
  have hq4 : ((w2.alloc (.cells #[.int .u8 0, .int .i64 0, .int .i64 2, .int .i64 0, .int .i64 0, .int .u8 0, .int .u8 0, .int .u64 0, .int .u64 0] 34)).alloc (.cells (flatV [exJ, exP]).toArray 34)).heap[w2.heap.size]? = some (.cells #[.int .u8 0, .int .i64 0, .int .i64 2, .int .i64 0, .int .i64 0, .int .u8 0, .int .u8 0, .int .u64 0, .int .u64 0] 34) := (Below.heap_alloc _ _ _ (by simp)).trans hq
  have hb5 := HB2.out.trans (hb4.mono HB2.out.size)
  have ho4 := own_low HO2.out hb4
  have hw := write_any (some ⟨w2.heap.size + 1, 0, none⟩) 2 [exJ, exP] _ (HL.out.below (hb5.mono (Nat.le_refl _))) (fun _ => ⟨_, _, rfl, cms_of_row hr⟩) (fun c hc => by
    simp at hc
    rcases hc with rfl | rfl
    · exact fit_exJ
    · exact fit_exP) (by decide)
  refine hw.mono ?_
  rintro e w3 ⟨hb6, ⟨h, _⟩ | ⟨_, v, c2, ho5, hv⟩⟩
  · rw [exW_may] at h
    cases h
  rw [exW_flat] at ho5 hv
  rcases hv with ⟨rfl, _⟩ | ⟨g2, rfl, rfl⟩
  · rcases ho5.2 with ⟨_, h⟩ | ⟨_, _, _, h, _⟩
    · cases h
    · cases h
  simp only [List.length_cons, List.length_nil, Nat.reduceAdd] at ho5 ⊢
  have hq6 := (hb6.block w2.heap.size (by rw [World.size_alloc, World.size_alloc]; omega)).trans hq4
  obtain ⟨q0, q1, q2, q3, q4, q5, q6, q7, q8, _⟩ := Box9.cells hq6
  have ho6 := own_low ho4 hb6
  have HB6 := Lib.hid (hb5.trans (hb6.mono hb5.size))
  have HO5 := Lib.hid ho5
  have yc : ∀ j, j < 27 → w3.cell? ⟨g, j, none⟩ = (flatV [ex1, ex2, ex3])[j]? := fun j hj => ho6.cellAt j hj
  have y0 : w3.cell? ⟨g, 0, none⟩ = some (.int .u8 1) := yc 0 (by omega)
  have y1 : w3.cell? ⟨g, 1, none⟩ = some (.int .i64 0) := yc 1 (by omega)
  have y2 : w3.cell? ⟨g, 2, none⟩ = some (.int .i64 1) := yc 2 (by omega)
  have y3 : w3.cell? ⟨g, 3, none⟩ = some (.int .i64 5) := yc 3 (by omega)
  have y4 : w3.cell? ⟨g, 4, none⟩ = some (.int .i64 0) := yc 4 (by omega)
  have y5 : w3.cell? ⟨g, 5, none⟩ = some (.int .u8 0) := yc 5 (by omega)
  have y6 : w3.cell? ⟨g, 6, none⟩ = some (.int .u8 0) := yc 6 (by omega)
  have y7 : w3.cell? ⟨g, 7, none⟩ = some (.int .u64 0) := yc 7 (by omega)
  have y8 : w3.cell? ⟨g, 8, none⟩ = some (.int .u64 0) := yc 8 (by omega)
  have y9 : w3.cell? ⟨g, 9, none⟩ = some (.int .u8 9) := yc 9 (by omega)
  have y10 : w3.cell? ⟨g, 10, none⟩ = some (.int .i64 1) := yc 10 (by omega)
  have y11 : w3.cell? ⟨g, 11, none⟩ = some (.int .i64 6) := yc 11 (by omega)
  have y12 : w3.cell? ⟨g, 12, none⟩ = some (.int .i64 0) := yc 12 (by omega)
  have y13 : w3.cell? ⟨g, 13, none⟩ = some (.int .i64 1) := yc 13 (by omega)
  have y14 : w3.cell? ⟨g, 14, none⟩ = some (.int .u8 0) := yc 14 (by omega)
  have y15 : w3.cell? ⟨g, 15, none⟩ = some (.int .u8 0) := yc 15 (by omega)
  have y16 : w3.cell? ⟨g, 16, none⟩ = some (.int .u64 7) := yc 16 (by omega)
  have y17 : w3.cell? ⟨g, 17, none⟩ = some (.int .u64 9) := yc 17 (by omega)
  have y18 : w3.cell? ⟨g, 18, none⟩ = some (.int .u8 0) := yc 18 (by omega)
  have y19 : w3.cell? ⟨g, 19, none⟩ = some (.int .i64 6) := yc 19 (by omega)
  have y20 : w3.cell? ⟨g, 20, none⟩ = some (.int .i64 7) := yc 20 (by omega)
  have y21 : w3.cell? ⟨g, 21, none⟩ = some (.int .i64 0) := yc 21 (by omega)
  have y22 : w3.cell? ⟨g, 22, none⟩ = some (.int .i64 0) := yc 22 (by omega)
  have y23 : w3.cell? ⟨g, 23, none⟩ = some (.int .u8 0) := yc 23 (by omega)
  have y24 : w3.cell? ⟨g, 24, none⟩ = some (.int .u8 0) := yc 24 (by omega)
  have y25 : w3.cell? ⟨g, 25, none⟩ = some (.int .u64 0) := yc 25 (by omega)
  have y26 : w3.cell? ⟨g, 26, none⟩ = some (.int .u64 0) := yc 26 (by omega)
  have e0 := neq34_self 1 0 1 5 0 0 0 0 0
  have e1 := neq34_self 9 1 6 0 1 0 0 7 9
  have e2 := neq34_self 0 6 7 0 0 0 0 0 0
  have e3 := eql34_self 0 0 2 0 0 0 0 0 0
  have c1 : (convert 22 9 (.slice (some ⟨g2, 0, none⟩) 2 2)).run Tryd.prog w3 = .ok (.string ⟨#[128, 127]⟩) w3 := str_of w3 (some ⟨g2, 0, none⟩) 2 [128, 127] (Sl.of (bys_of_own HO5.out))
  have c3 : (convert 22 9 (.slice (some ⟨w3.heap.size, 0, none⟩) 2 2)).run Tryd.prog (w3.alloc (.cells #[.int .u8 128, .int .u8 127] 5)) = .ok (.string ⟨#[128, 127]⟩) (w3.alloc (.cells #[.int .u8 128, .int .u8 127] 5)) := str_of _ (some ⟨w3.heap.size, 0, none⟩) 2 [128, 127] (Sl.of (bys_new w3 [128, 127]))
  clear yc ho5 ho6 hb6 hw hb5 ho4 hr hq4 hb4 hq hq6
  go_wp2
  go_ret
  exact ⟨rfl, HB6.out.alloc HB6.out.size _⟩
end Go.Proofs.YtlgfdemggkiojaaDoor
