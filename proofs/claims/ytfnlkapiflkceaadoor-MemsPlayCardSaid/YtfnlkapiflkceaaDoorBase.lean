/-
  What the rows' proofs share: the table of rooms, read as the program lays it, is what the calls' contracts ask; the start of the witness; no condition.
-/
import Derived.Test.YtfnlkapiflkceaaDoorP1
import Derived.Test.YtfnlkapiflkceaaDoorTie
import Derived.ProofKit
import Derived.LaidMore
import Derived.OpenShut
import Derived.Stop.Joined
import Derived.Lib.SmallJoins
import Derived.SevenTiedAt
namespace Go.Proofs.YtfnlkapiflkceaaDoor
open Go.ChangeShapes Go.WideShapes Go.ChangeAt Go.WideMaps Go.WideElems Go.RowKit

theorem own : ownKnob Tryd.prog.godebug = Option.none := by kernel_rfl
theorem gRooms : Tryd.prog.globalNamed "ragpicker/mems.rooms" = some 0 := by kernel_rfl
theorem tRooms : (Tryd.prog.globals[0]?).map (·.type) = some 66 := by kernel_rfl
theorem cells65 : Tryd.prog.cellsOf 65 = 2 := by kernel_rfl

def laidL : List (String × DataW Unit) := [("ragpicker/mems.rooms", Rows.laid_ragpicker_mems_rooms)]

theorem door_met (os : Os) (args : Array Value) : laidMetH Tryd.prog laidL ((World.doorLaid Tryd.prog 400 os).forCall (fun _ _ => 0) ⟨#[], args, []⟩).memory :=
  laidMetH_of_parts3 (fuel := 8) (laidMet_of_run' 8 (by kernel_rfl) (by kernel_rfl)) (by kernel_rfl) (by kernel_rfl)

set_option maxRecDepth 100000 in
/-- Two cells that read as a pair of numbers hold them. -/
theorem pair_cells {w : World} {base : Nat} {sp : Nat → Bool} {held : Bool} {fuel : Nat} {cs : List Value} {y : DataW Unit × List MemPlace} {a b : Int}
    (h : DataW.trod (fun _ => ()) Tryd.prog w base sp held fuel 65 cs = some y) (hy : y.1 = .agg [.lit (.int .i64 a), .lit (.int .i64 b)]) : cs = [.int .i64 a, .int .i64 b] := by
  obtain ⟨y0, y1, n, rfl, hl, h0, h1⟩ := trod_struct2 Tryd.underlying65 h
  rw [cells65] at hl
  obtain ⟨m0, e0, rfl, _⟩ := DataW.trod_int Tryd.underlying3 h0
  obtain ⟨m1, e1, rfl, _⟩ := DataW.trod_int Tryd.underlying3 h1
  simp only [cells3] at e0 e1
  match cs, hl with
  | [c0, c1], _ =>
    simp at e0 e1 hy
    obtain ⟨rfl, rfl⟩ := hy
    rw [e0, e1]

set_option maxRecDepth 100000 in
theorem cells_of_laid {W : World} (h : laidMetH Tryd.prog laidL W) : ∃ cs : Array Value, (∀ k, W.cell? ⟨0, k, Option.none⟩ = cs[k]?) ∧
    ∀ (i : Nat) (a b : Int), ([(1, 1), (1, 1), (1, 1), (1, 1), (1, 1), (1, 1), (32, 2), (4, 1), (16, 10), (256, 8), (9, 1), (1, 2)] : List (Int × Int))[i]? = some (a, b) →
      cs[i * 2]? = some (.int .i64 a) ∧ cs[i * 2 + 1]? = some (.int .i64 b) := by
  rw [MakeChecks.laidMetH_plain _ _ _ (by kernel_rfl)] at h
  obtain ⟨ps, ⟨g0, t0, cs0, f0, p0, q0, hg0, ht0, hv0, hd0, _, _⟩, _, _⟩ := h
  obtain rfl := Option.some.inj (gRooms.symm.trans hg0)
  obtain rfl := Option.some.inj (tRooms.symm.trans ht0)
  refine ⟨cs0, fun k => World.var?_cell hg0 hv0 k, fun i a b hi => ?_⟩
  obtain ⟨xs, m, rfl, hx, hlen, hn, hel⟩ := DataW.trod_array Tryd.underlying66 hd0
  have hi12 : i < 12 := by
    have := (List.getElem?_eq_some_iff.1 hi).1
    simpa using this
  have he := hel i hi12
  rw [cells65] at he
  simp only [Rows.laid_ragpicker_mems_rooms, Prod.mk.injEq, DataW.agg.injEq] at hx
  have hxi : (xs.map (·.1))[i]? = some (.agg [.lit (.int .i64 a), .lit (.int .i64 b)]) := by
    rw [← hx.1]
    have hm : (([(1, 1), (1, 1), (1, 1), (1, 1), (1, 1), (1, 1), (32, 2), (4, 1), (16, 10), (256, 8), (9, 1), (1, 2)] : List (Int × Int)).map (fun z => (DataW.agg [.lit (.int .i64 z.1), .lit (.int .i64 z.2)] : DataW Unit)))[i]? = some (.agg [.lit (.int .i64 a), .lit (.int .i64 b)]) := by
      rw [List.getElem?_map, hi]
      rfl
    exact hm
  rw [List.getElem?_map] at hxi
  obtain ⟨y, hy1, hy2⟩ := Option.map_eq_some_iff.1 hxi
  rw [hy1] at he
  have hp := pair_cells he hy2
  have k0 : ((cs0.toList.drop (i * 2)).take 2)[0]? = some (.int .i64 a) := by rw [hp]; rfl
  have k1 : ((cs0.toList.drop (i * 2)).take 2)[1]? = some (.int .i64 b) := by rw [hp]; rfl
  simp only [List.getElem?_take, List.getElem?_drop] at k0 k1
  exact ⟨by simpa using k0, by simpa using k1⟩

set_option maxRecDepth 100000 in
theorem lay_of_laid {W : World} (h : laidMetH Tryd.prog laidL W) : Lay W := by
  obtain ⟨cs, hc, hp⟩ := cells_of_laid h
  have h0 : W.cell? ⟨0, 0, Option.none⟩ = some (.int .i64 1) := (hc 0).trans (hp 0 1 1 rfl).1
  refine ⟨?_, ?_⟩
  · refine Nat.pos_of_ne_zero fun e => ?_
    have hn : W.heap[0]? = Option.none := by simp [e]
    simp [World.cell?, hn] at h0
  · intro k hk
    match k, hk with
    | 0, _ => exact ⟨(hc 0).trans (hp 0 1 1 rfl).1, (hc 1).trans (hp 0 1 1 rfl).2⟩
    | 1, _ => exact ⟨(hc 2).trans (hp 1 1 1 rfl).1, (hc 3).trans (hp 1 1 1 rfl).2⟩
    | 2, _ => exact ⟨(hc 4).trans (hp 2 1 1 rfl).1, (hc 5).trans (hp 2 1 1 rfl).2⟩
    | 3, _ => exact ⟨(hc 6).trans (hp 3 1 1 rfl).1, (hc 7).trans (hp 3 1 1 rfl).2⟩
    | 4, _ => exact ⟨(hc 8).trans (hp 4 1 1 rfl).1, (hc 9).trans (hp 4 1 1 rfl).2⟩
    | 5, _ => exact ⟨(hc 10).trans (hp 5 1 1 rfl).1, (hc 11).trans (hp 5 1 1 rfl).2⟩
    | 6, _ => exact ⟨(hc 12).trans (hp 6 32 2 rfl).1, (hc 13).trans (hp 6 32 2 rfl).2⟩
    | 7, _ => exact ⟨(hc 14).trans (hp 7 4 1 rfl).1, (hc 15).trans (hp 7 4 1 rfl).2⟩
    | 8, _ => exact ⟨(hc 16).trans (hp 8 16 10 rfl).1, (hc 17).trans (hp 8 16 10 rfl).2⟩
    | 9, _ => exact ⟨(hc 18).trans (hp 9 256 8 rfl).1, (hc 19).trans (hp 9 256 8 rfl).2⟩
    | 10, _ => exact ⟨(hc 20).trans (hp 10 9 1 rfl).1, (hc 21).trans (hp 10 9 1 rfl).2⟩
    | 11, _ => exact ⟨(hc 22).trans (hp 11 1 2 rfl).1, (hc 23).trans (hp 11 1 2 rfl).2⟩
    | n + 12, hn => exact absurd hn (by omega)
end Go.Proofs.YtfnlkapiflkceaaDoor
