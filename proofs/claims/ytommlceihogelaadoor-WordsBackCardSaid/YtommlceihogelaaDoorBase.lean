/-
  What the rows' proofs share: the table of fields, read as the program lays it, is what the calls' contracts ask; the start of the witness; no condition.
-/
import Derived.Test.YtommlceihogelaaDoorW1
import Derived.Test.YtommlceihogelaaDoorTie
import Derived.ProofKit
import Derived.LaidMore
import Derived.OpenShut
import Derived.Stop.Joined
import Derived.Lib.SmallJoins
import Derived.SevenTiedAt
namespace Go.Proofs.YtommlceihogelaaDoor
open Go.ChangeShapes Go.WideShapes Go.ChangeAt Go.WideMaps Go.WideElems Go.RowKit

theorem own : ownKnob Tryd.prog.godebug = Option.none := by kernel_rfl
theorem gLayout : Tryd.prog.globalNamed "ragpicker/words.layout" = some 0 := by kernel_rfl
theorem tLayout : (Tryd.prog.globals[0]?).map (·.type) = some 78 := by kernel_rfl
theorem cells77 : Tryd.prog.cellsOf 77 = 2 := by kernel_rfl
theorem cells5 : Tryd.prog.cellsOf 5 = 1 := by kernel_rfl

def laidL : List (String × DataW Unit) := [("ragpicker/words.layout", Rows.laid_ragpicker_words_layout)]

theorem door_met (os : Os) (args : Array Value) : laidMetH Tryd.prog laidL ((World.doorLaid Tryd.prog 400 os).forCall (fun _ _ => 0) ⟨#[], args, []⟩).memory :=
  laidMetH_of_parts3 (fuel := 8) (laidMet_of_run' 8 (by kernel_rfl) (by kernel_rfl)) (by kernel_rfl) (by kernel_rfl)

/-- Two cells that read as a pair of bytes hold them. -/
theorem pair_cells {w : World} {base : Nat} {sp : Nat → Bool} {held : Bool} {fuel : Nat} {cs : List Value} {y : DataW Unit × List MemPlace} {a b : Int}
    (h : DataW.trod (fun _ => ()) Tryd.prog w base sp held fuel 77 cs = some y) (hy : y.1 = .agg [.lit (.int .u8 a), .lit (.int .u8 b)]) : cs = [.int .u8 a, .int .u8 b] := by
  obtain ⟨y0, y1, n, rfl, hl, h0, h1⟩ := trod_struct2 Tryd.underlying77 h
  rw [cells77] at hl
  obtain ⟨m0, e0, rfl, _⟩ := DataW.trod_int Tryd.underlying5 h0
  obtain ⟨m1, e1, rfl, _⟩ := DataW.trod_int Tryd.underlying5 h1
  simp only [cells5] at e0 e1
  match cs, hl with
  | [c0, c1], _ =>
    simp at e0 e1 hy
    obtain ⟨rfl, rfl⟩ := hy
    rw [e0, e1]

theorem cells_of_laid {W : World} (h : laidMetH Tryd.prog laidL W) : ∃ cs : Array Value, (∀ k, W.cell? ⟨0, k, Option.none⟩ = cs[k]?) ∧
    ∀ (i : Nat) (a b : Int), ([(0, 16), (16, 32), (63, 1), (0, 16), (16, 48), (0, 3), (3, 32), (0, 3), (3, 3), (6, 3), (16, 48), (0, 32), (32, 1)] : List (Int × Int))[i]? = some (a, b) →
      cs[i * 2]? = some (.int .u8 a) ∧ cs[i * 2 + 1]? = some (.int .u8 b) := by
  rw [MakeChecks.laidMetH_plain _ _ _ (by kernel_rfl)] at h
  obtain ⟨ps, ⟨g0, t0, cs0, f0, p0, q0, hg0, ht0, hv0, hd0, _, _⟩, _, _⟩ := h
  obtain rfl := Option.some.inj (gLayout.symm.trans hg0)
  obtain rfl := Option.some.inj (tLayout.symm.trans ht0)
  refine ⟨cs0, fun k => World.var?_cell hg0 hv0 k, fun i a b hi => ?_⟩
  obtain ⟨xs, m, rfl, hx, hlen, hn, hel⟩ := DataW.trod_array Tryd.underlying78 hd0
  have hi13 : i < 13 := by
    have := (List.getElem?_eq_some_iff.1 hi).1
    simpa using this
  have he := hel i hi13
  rw [cells77] at he
  simp only [Rows.laid_ragpicker_words_layout, Prod.mk.injEq, DataW.agg.injEq] at hx
  have hxi : (xs.map (·.1))[i]? = some (.agg [.lit (.int .u8 a), .lit (.int .u8 b)]) := by
    rw [← hx.1]
    have hm : (([(0, 16), (16, 32), (63, 1), (0, 16), (16, 48), (0, 3), (3, 32), (0, 3), (3, 3), (6, 3), (16, 48), (0, 32), (32, 1)] : List (Int × Int)).map (fun z => (DataW.agg [.lit (.int .u8 z.1), .lit (.int .u8 z.2)] : DataW Unit)))[i]? = some (.agg [.lit (.int .u8 a), .lit (.int .u8 b)]) := by
      rw [List.getElem?_map, hi]
      rfl
    exact hm
  rw [List.getElem?_map] at hxi
  obtain ⟨y, hy1, hy2⟩ := Option.map_eq_some_iff.1 hxi
  rw [hy1] at he
  have hp := pair_cells he hy2
  have k0 : ((cs0.toList.drop (i * 2)).take 2)[0]? = some (.int .u8 a) := by rw [hp]; rfl
  have k1 : ((cs0.toList.drop (i * 2)).take 2)[1]? = some (.int .u8 b) := by rw [hp]; rfl
  simp only [List.getElem?_take, List.getElem?_drop] at k0 k1
  exact ⟨by simpa using k0, by simpa using k1⟩

theorem lay_of_laid {W : World} (h : laidMetH Tryd.prog laidL W) : Lay W := by
  obtain ⟨cs, hc, hp⟩ := cells_of_laid h
  have h0 : W.cell? ⟨0, 0, Option.none⟩ = some (.int .u8 0) := (hc 0).trans (hp 0 0 16 rfl).1
  refine ⟨?_, ?_⟩
  · refine Nat.pos_of_ne_zero fun e => ?_
    have hn : W.heap[0]? = Option.none := by simp [e]
    simp [World.cell?, hn] at h0
  · intro k hk
    match k, hk with
    | 0, _ => exact (hc 0).trans (hp 0 0 16 rfl).1
    | 1, _ => exact (hc 1).trans (hp 0 0 16 rfl).2
    | 2, _ => exact (hc 2).trans (hp 1 16 32 rfl).1
    | 3, _ => exact (hc 3).trans (hp 1 16 32 rfl).2
    | 4, _ => exact (hc 4).trans (hp 2 63 1 rfl).1
    | 5, _ => exact (hc 5).trans (hp 2 63 1 rfl).2
    | 6, _ => exact (hc 6).trans (hp 3 0 16 rfl).1
    | 7, _ => exact (hc 7).trans (hp 3 0 16 rfl).2
    | 8, _ => exact (hc 8).trans (hp 4 16 48 rfl).1
    | 9, _ => exact (hc 9).trans (hp 4 16 48 rfl).2
    | 10, _ => exact (hc 10).trans (hp 5 0 3 rfl).1
    | 11, _ => exact (hc 11).trans (hp 5 0 3 rfl).2
    | 12, _ => exact (hc 12).trans (hp 6 3 32 rfl).1
    | 13, _ => exact (hc 13).trans (hp 6 3 32 rfl).2
    | 14, _ => exact (hc 14).trans (hp 7 0 3 rfl).1
    | 15, _ => exact (hc 15).trans (hp 7 0 3 rfl).2
    | 16, _ => exact (hc 16).trans (hp 8 3 3 rfl).1
    | 17, _ => exact (hc 17).trans (hp 8 3 3 rfl).2
    | 18, _ => exact (hc 18).trans (hp 9 6 3 rfl).1
    | 19, _ => exact (hc 19).trans (hp 9 6 3 rfl).2
    | 20, _ => exact (hc 20).trans (hp 10 16 48 rfl).1
    | 21, _ => exact (hc 21).trans (hp 10 16 48 rfl).2
    | 22, _ => exact (hc 22).trans (hp 11 0 32 rfl).1
    | 23, _ => exact (hc 23).trans (hp 11 0 32 rfl).2
    | 24, _ => exact (hc 24).trans (hp 12 32 1 rfl).1
    | 25, _ => exact (hc 25).trans (hp 12 32 1 rfl).2
    | n + 26, hn => exact absurd hn (by omega)
end Go.Proofs.YtommlceihogelaaDoor
