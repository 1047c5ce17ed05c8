/-
  What the rows' proofs share: the two tables, read as the program lays them, are what the calls' contracts ask; lists of numbers as arguments; the start of the witness; no condition.
-/
import Derived.Test.YtjpanofkikfeoaaGreatDoorW1
import Derived.Test.YtjpanofkikfeoaaGreatDoorP1
import Derived.Test.YtjpanofkikfeoaaGreatDoorFRow
import Derived.Test.YtjpanofkikfeoaaGreatDoorTie
import Derived.ProofKit
import Derived.LaidMore
import Derived.OpenShut
import Derived.Stop.Joined
import Derived.Lib.SmallJoins
import Derived.SevenTiedAt
import Derived.Deep.Slices
import Derived.Deep.Strs
import Derived.Carry
namespace Go.Proofs.YtjpanofkikfeoaaGreatDoor
open Go.ChangeShapes Go.WideShapes Go.ChangeAt Go.WideMaps Go.WideElems Go.RowKit Go.Joins

theorem core_plus (g o j : Nat) : (⟨g, o, Option.none⟩ : Addr).add j = ⟨g, o + j, Option.none⟩ := by unfold Addr.add; split <;> simp_all
/-- Both tables lie as they are laid. -/
def LayH (w : World) : Prop := Lay w ∧ LayM w
theorem own : ownKnob Tryz.prog.godebug = Option.none := by kernel_rfl
theorem laid_out : laidOutB Tryz.prog = true := by kernel_rfl
theorem gLayout : Tryz.prog.globalNamed "ragpicker/words.layout" = some 1 := by kernel_rfl
theorem tLayout : (Tryz.prog.globals[1]?).map (·.type) = some 141 := by kernel_rfl
theorem gRooms : Tryz.prog.globalNamed "ragpicker/mems.rooms" = some 0 := by kernel_rfl
theorem tRooms : (Tryz.prog.globals[0]?).map (·.type) = some 125 := by kernel_rfl
theorem cellsU8 : Tryz.prog.cellsOf 5 = 1 := by kernel_rfl
theorem cellsKD : Tryz.prog.cellsOf 32 = 1 := by kernel_rfl
theorem cellsI : Tryz.prog.cellsOf 3 = 1 := by kernel_rfl
theorem cellsU : Tryz.prog.cellsOf 35 = 1 := by kernel_rfl
theorem cellsAD : Tryz.prog.cellsOf 34 = 3 := by kernel_rfl
theorem cellsST : Tryz.prog.cellsOf 37 = 4 := by kernel_rfl
theorem cellsBI : Tryz.prog.cellsOf 140 = 2 := by kernel_rfl
theorem cellsRO : Tryz.prog.cellsOf 124 = 2 := by kernel_rfl
def laidL : List (String × DataW Unit) := [("ragpicker/mems.rooms", Rows.laid_ragpicker_mems_rooms), ("ragpicker/words.layout", Rows.laid_ragpicker_words_layout)]
theorem door_met (os : Os) (args : Array Value) : laidMetH Tryz.prog laidL ((World.doorLaid Tryz.prog 400 os).forCall (fun _ _ => 0) ⟨#[], args, []⟩).memory :=
  laidMetH_of_parts3 (fuel := 8) (laidMet_of_run' 8 (by kernel_rfl) (by kernel_rfl)) (by kernel_rfl) (by kernel_rfl)
set_option maxRecDepth 100000 in
/-- Two cells that read as a pair of bytes hold them. -/
theorem bits_cells {w : World} {base : Nat} {sp : Nat → Bool} {held : Bool} {fuel : Nat} {cs : List Value} {y : DataW Unit × List MemPlace} {a b : Int}
    (h : DataW.trod (fun _ => ()) Tryz.prog w base sp held fuel 140 cs = some y) (hy : y.1 = .agg [.lit (.int .u8 a), .lit (.int .u8 b)]) : cs = [.int .u8 a, .int .u8 b] := by
  obtain ⟨y0, y1, n, rfl, hl, h0, h1⟩ := trod_struct2 Tryz.underlying140 h
  rw [cellsBI] at hl
  obtain ⟨m0, e0, rfl, _⟩ := DataW.trod_int Tryz.underlying5 h0
  obtain ⟨m1, e1, rfl, _⟩ := DataW.trod_int Tryz.underlying5 h1
  simp only [cellsU8] at e0 e1
  match cs, hl with
  | [c0, c1], _ =>
    simp at e0 e1 hy
    obtain ⟨rfl, rfl⟩ := hy
    rw [e0, e1]
set_option maxRecDepth 100000 in
/-- Two cells that read as a pair of numbers hold them. -/
theorem room_cells {w : World} {base : Nat} {sp : Nat → Bool} {held : Bool} {fuel : Nat} {cs : List Value} {y : DataW Unit × List MemPlace} {a b : Int}
    (h : DataW.trod (fun _ => ()) Tryz.prog w base sp held fuel 124 cs = some y) (hy : y.1 = .agg [.lit (.int .i64 a), .lit (.int .i64 b)]) : cs = [.int .i64 a, .int .i64 b] := by
  obtain ⟨y0, y1, n, rfl, hl, h0, h1⟩ := trod_struct2 Tryz.underlying124 h
  rw [cellsRO] at hl
  obtain ⟨m0, e0, rfl, _⟩ := DataW.trod_int Tryz.underlying3 h0
  obtain ⟨m1, e1, rfl, _⟩ := DataW.trod_int Tryz.underlying3 h1
  simp only [cellsI] at e0 e1
  match cs, hl with
  | [c0, c1], _ =>
    simp at e0 e1 hy
    obtain ⟨rfl, rfl⟩ := hy
    rw [e0, e1]
set_option maxRecDepth 100000 in
theorem lay_of_laid {W : World} (h : laidMetH Tryz.prog laidL W) : LayH W := by
  rw [MakeChecks.laidMetH_plain _ _ _ (by kernel_rfl)] at h
  obtain ⟨ps, ⟨g0, t0, cs0, f0, p0, q0, hg0, ht0, hv0, hd0, ⟨g1, t1, cs1, f1, p1, q1, hg1, ht1, hv1, hd1, _, _⟩, _⟩, _⟩ := h
  obtain rfl := Option.some.inj (gRooms.symm.trans hg0)
  obtain rfl := Option.some.inj (tRooms.symm.trans ht0)
  obtain rfl := Option.some.inj (gLayout.symm.trans hg1)
  obtain rfl := Option.some.inj (tLayout.symm.trans ht1)
  refine ⟨?_, ?_⟩
  · have hc : ∀ k, W.cell? ⟨1, k, Option.none⟩ = cs1[k]? := fun k => World.var?_cell hg1 hv1 k
    obtain ⟨xs, m, rfl, hx, hlen, hn, hel⟩ := DataW.trod_array Tryz.underlying141 hd1
    have hp : ∀ (i : Nat) (a b : Int), ([(0, 16), (16, 32), (63, 1), (0, 16), (16, 48), (0, 3), (3, 32), (0, 3), (3, 3), (6, 3), (16, 48), (0, 32), (32, 1)] : List (Int × Int))[i]? = some (a, b) → cs1[i * 2]? = some (.int .u8 a) ∧ cs1[i * 2 + 1]? = some (.int .u8 b) := fun i a b hi => by
      have hi13 : i < 13 := by
        have := (List.getElem?_eq_some_iff.1 hi).1
        simpa using this
      have he := hel i hi13
      rw [cellsBI] at he
      simp only [Rows.laid_ragpicker_words_layout, Prod.mk.injEq, DataW.agg.injEq] at hx
      have hxi : (xs.map (·.1))[i]? = some (.agg [.lit (.int .u8 a), .lit (.int .u8 b)]) := by
        rw [← hx.1]
        have hm : (([(0, 16), (16, 32), (63, 1), (0, 16), (16, 48), (0, 3), (3, 32), (0, 3), (3, 3), (6, 3), (16, 48), (0, 32), (32, 1)] : List (Int × Int)).map (fun z => (DataW.agg [.lit (.int .u8 z.1), .lit (.int .u8 z.2)] : DataW Unit)))[i]? = some (.agg [.lit (.int .u8 a), .lit (.int .u8 b)]) := by
          rw [List.getElem?_map, hi]
          rfl
        exact hm
      rw [List.getElem?_map] at hxi
      obtain ⟨y, hy1, hy2⟩ := Option.map_eq_some_iff.1 hxi
      rw [hy1] at he
      have hp := bits_cells he hy2
      have k0 : ((cs1.toList.drop (i * 2)).take 2)[0]? = some (.int .u8 a) := by rw [hp]; rfl
      have k1 : ((cs1.toList.drop (i * 2)).take 2)[1]? = some (.int .u8 b) := by rw [hp]; rfl
      simp only [List.getElem?_take, List.getElem?_drop] at k0 k1
      exact ⟨by simpa using k0, by simpa using k1⟩
    have h0 : W.cell? ⟨1, 0, Option.none⟩ = some (.int .u8 0) := (hc 0).trans (hp 0 0 16 rfl).1
    refine ⟨World.block_lt_of_cell? W _ h0, ?_⟩
    intro k hk
    match k, hk with
    | 0, _ => exact (hc 0).trans (hp 0 0 16 rfl).1
    | 1, _ => exact (hc 1).trans (hp 0 0 16 rfl).2
    | 2, _ => exact (hc 2).trans (hp 1 16 32 rfl).1
    | 3, _ => exact (hc 3).trans (hp 1 16 32 rfl).2
    | 4, _ => exact (hc 4).trans (hp 2 63 1 rfl).1
    | 5, _ => exact (hc 5).trans (hp 2 63 1 rfl).2
    | 6, _ => exact (hc 6).trans (hp 3 0 16 rfl).1
    | 7, _ => exact (hc 7).trans (hp 3 0 16 rfl).2
    | 8, _ => exact (hc 8).trans (hp 4 16 48 rfl).1
    | 9, _ => exact (hc 9).trans (hp 4 16 48 rfl).2
    | 10, _ => exact (hc 10).trans (hp 5 0 3 rfl).1
    | 11, _ => exact (hc 11).trans (hp 5 0 3 rfl).2
    | 12, _ => exact (hc 12).trans (hp 6 3 32 rfl).1
    | 13, _ => exact (hc 13).trans (hp 6 3 32 rfl).2
    | 14, _ => exact (hc 14).trans (hp 7 0 3 rfl).1
    | 15, _ => exact (hc 15).trans (hp 7 0 3 rfl).2
    | 16, _ => exact (hc 16).trans (hp 8 3 3 rfl).1
    | 17, _ => exact (hc 17).trans (hp 8 3 3 rfl).2
    | 18, _ => exact (hc 18).trans (hp 9 6 3 rfl).1
    | 19, _ => exact (hc 19).trans (hp 9 6 3 rfl).2
    | 20, _ => exact (hc 20).trans (hp 10 16 48 rfl).1
    | 21, _ => exact (hc 21).trans (hp 10 16 48 rfl).2
    | 22, _ => exact (hc 22).trans (hp 11 0 32 rfl).1
    | 23, _ => exact (hc 23).trans (hp 11 0 32 rfl).2
    | 24, _ => exact (hc 24).trans (hp 12 32 1 rfl).1
    | 25, _ => exact (hc 25).trans (hp 12 32 1 rfl).2
    | n + 26, hn => exact absurd hn (by omega)
  · have hc : ∀ k, W.cell? ⟨0, k, Option.none⟩ = cs0[k]? := fun k => World.var?_cell hg0 hv0 k
    obtain ⟨xs, m, rfl, hx, hlen, hn, hel⟩ := DataW.trod_array Tryz.underlying125 hd0
    have hp : ∀ (i : Nat) (a b : Int), ([(1, 1), (1, 1), (1, 1), (1, 1), (1, 1), (1, 1), (32, 2), (4, 1), (16, 10), (256, 8), (9, 1), (1, 2)] : List (Int × Int))[i]? = some (a, b) → cs0[i * 2]? = some (.int .i64 a) ∧ cs0[i * 2 + 1]? = some (.int .i64 b) := fun i a b hi => by
      have hi13 : i < 12 := by
        have := (List.getElem?_eq_some_iff.1 hi).1
        simpa using this
      have he := hel i hi13
      rw [cellsRO] at he
      simp only [Rows.laid_ragpicker_mems_rooms, Prod.mk.injEq, DataW.agg.injEq] at hx
      have hxi : (xs.map (·.1))[i]? = some (.agg [.lit (.int .i64 a), .lit (.int .i64 b)]) := by
        rw [← hx.1]
        have hm : (([(1, 1), (1, 1), (1, 1), (1, 1), (1, 1), (1, 1), (32, 2), (4, 1), (16, 10), (256, 8), (9, 1), (1, 2)] : List (Int × Int)).map (fun z => (DataW.agg [.lit (.int .i64 z.1), .lit (.int .i64 z.2)] : DataW Unit)))[i]? = some (.agg [.lit (.int .i64 a), .lit (.int .i64 b)]) := by
          rw [List.getElem?_map, hi]
          rfl
        exact hm
      rw [List.getElem?_map] at hxi
      obtain ⟨y, hy1, hy2⟩ := Option.map_eq_some_iff.1 hxi
      rw [hy1] at he
      have hp := room_cells he hy2
      have k0 : ((cs0.toList.drop (i * 2)).take 2)[0]? = some (.int .i64 a) := by rw [hp]; rfl
      have k1 : ((cs0.toList.drop (i * 2)).take 2)[1]? = some (.int .i64 b) := by rw [hp]; rfl
      simp only [List.getElem?_take, List.getElem?_drop] at k0 k1
      exact ⟨by simpa using k0, by simpa using k1⟩
    have h0 : W.cell? ⟨0, 0, Option.none⟩ = some (.int .i64 1) := (hc 0).trans (hp 0 1 1 rfl).1
    refine ⟨World.block_lt_of_cell? W _ h0, ?_⟩
    intro k hk
    match k, hk with
    | 0, _ => exact ⟨(hc 0).trans (hp 0 1 1 rfl).1, (hc 1).trans (hp 0 1 1 rfl).2⟩
    | 1, _ => exact ⟨(hc 2).trans (hp 1 1 1 rfl).1, (hc 3).trans (hp 1 1 1 rfl).2⟩
    | 2, _ => exact ⟨(hc 4).trans (hp 2 1 1 rfl).1, (hc 5).trans (hp 2 1 1 rfl).2⟩
    | 3, _ => exact ⟨(hc 6).trans (hp 3 1 1 rfl).1, (hc 7).trans (hp 3 1 1 rfl).2⟩
    | 4, _ => exact ⟨(hc 8).trans (hp 4 1 1 rfl).1, (hc 9).trans (hp 4 1 1 rfl).2⟩
    | 5, _ => exact ⟨(hc 10).trans (hp 5 1 1 rfl).1, (hc 11).trans (hp 5 1 1 rfl).2⟩
    | 6, _ => exact ⟨(hc 12).trans (hp 6 32 2 rfl).1, (hc 13).trans (hp 6 32 2 rfl).2⟩
    | 7, _ => exact ⟨(hc 14).trans (hp 7 4 1 rfl).1, (hc 15).trans (hp 7 4 1 rfl).2⟩
    | 8, _ => exact ⟨(hc 16).trans (hp 8 16 10 rfl).1, (hc 17).trans (hp 8 16 10 rfl).2⟩
    | 9, _ => exact ⟨(hc 18).trans (hp 9 256 8 rfl).1, (hc 19).trans (hp 9 256 8 rfl).2⟩
    | 10, _ => exact ⟨(hc 20).trans (hp 10 9 1 rfl).1, (hc 21).trans (hp 10 9 1 rfl).2⟩
    | 11, _ => exact ⟨(hc 22).trans (hp 11 1 2 rfl).1, (hc 23).trans (hp 11 1 2 rfl).2⟩
    | n + 12, hn => exact absurd hn (by omega)
theorem u8_of {a : Int} (h : (Lit.int .u8 a).wf = true) : U8 a := by
  simp [Lit.wf, IntKind.min, IntKind.max, IntKind.signed, IntKind.bits] at h
  exact ⟨by omega, by omega⟩
theorem u32_of {a : Int} (h : (Lit.int .u32 a).wf = true) : U32 a := by
  simp [Lit.wf, IntKind.min, IntKind.max, IntKind.signed, IntKind.bits] at h
  exact ⟨by omega, by omega⟩
theorem i64_of' {a : Int} (h : (Lit.int .i64 a).wf = true) : I64 a := by
  simp [Lit.wf, IntKind.min, IntKind.max, IntKind.signed, IntKind.bits] at h
  exact ⟨by omega, by omega⟩
theorem u64_of {a : Int} (h : (Lit.int .u64 a).wf = true) : U64 a := by
  simp [Lit.wf, IntKind.min, IntKind.max, IntKind.signed, IntKind.bits] at h
  exact ⟨by omega, by omega⟩
section
variable {H : Type} {enc : TypeId × Value → H} {W : World} {r : Reach} {b0 base : Nat} {sp : Nat → Bool} {v : Value} {d : DataW H} {p : List MemPlace}
set_option maxRecDepth 100000 in
/-- A list of numbers as an argument. -/
theorem open_nums {k : IntKind} {t e : TypeId} (ht : Tryz.prog.underlying t = some (.slice e)) (he : Tryz.prog.underlying e = some (.int k)) (hc1 : Tryz.prog.cellsOf e = 1) (hv : Value.okWide Tryz.prog W r b0 t v) (h : DataW.Trod enc Tryz.prog W base sp true t v d p) :
    ∃ (A : Option Addr) (l : List Int) (cap : Nat), v = .slice A l.length cap ∧ l.length ≤ cap ∧ cap ≤ 9223372036854775807 ∧ Row W A (l.map fun z => .int k z) ∧ (∀ z ∈ l, (Lit.int k z).wf = true) ∧ (A = Option.none → cap = 0) := by
  obtain ⟨a0, len, cap, rfl⟩ := okWide_slice ht hv
  obtain ⟨fuel, hf⟩ := h
  rcases open_ints ht he hc1 hf with ⟨hcs, _⟩ | ⟨a, len', cap', zs, hcs, _, hl, hm, hz, _, hcell, hwf⟩
  · simp [Value.cells] at hcs
    obtain ⟨rfl, rfl, rfl⟩ := hcs
    exact ⟨Option.none, [], 0, rfl, Nat.le_refl _, by omega, Row.nil _ _, fun z hz => by simp at hz, fun _ => rfl⟩
  · simp [Value.cells] at hcs
    obtain ⟨rfl, rfl, rfl⟩ := hcs
    have hs : a.spot = Option.none := by
      simp only [Value.okWide, ht, Cell.okWide, Cell.ok] at hv
      exact hv.2.2.2.1
    obtain ⟨g, off, spot⟩ := a
    obtain rfl : spot = Option.none := hs
    have hlz : len ≤ zs.length := by rw [hz]; split <;> omega
    have hlen : (zs.take len).length = len := by simp; omega
    refine ⟨some ⟨g, off, Option.none⟩, zs.take len, cap, by rw [hlen], by rw [hlen]; exact hl, by unfold maxLen at hm; exact hm, fun _ => ⟨g, off, rfl, fun i v hi => ?_⟩, fun z hzm => hwf z (List.mem_of_mem_take hzm), fun h => by cases h⟩
    have hlt : i < len := by
      have := (List.getElem?_eq_some_iff.1 hi).1
      rw [List.length_map, hlen] at this
      exact this
    have := hcell i (by omega)
    rw [core_plus] at this
    rw [this, ← hi]
    simp [hlt, List.getElem?_eq_getElem (show i < zs.length by omega)]
end
end Go.Proofs.YtjpanofkikfeoaaGreatDoor
