/-
  What the rows' proofs share: the table of sizes, read as the program lays it, is what the calls' contracts ask; lists of commands and of bytes as arguments; the start of the witness; no condition.
-/
import Derived.Test.YtlgfdemggkiojaaDoorL0
import Derived.Test.YtlgfdemggkiojaaDoorTie
import Derived.Test.YtlgfdemggkiojaaDoorCards
import Derived.ProofKit
import Derived.LaidMore
import Derived.OpenShut
import Derived.Stop.Joined
import Derived.Lib.SmallJoins
import Derived.SevenTiedAt
import Derived.Deep.Slices
import Derived.Carry
namespace Go.Proofs.YtlgfdemggkiojaaDoor
open Go.ChangeShapes Go.WideShapes Go.ChangeAt Go.WideMaps Go.WideElems Go.RowKit Go.Joins

theorem own : ownKnob Tryd.prog.godebug = Option.none := by kernel_rfl
theorem laid_out : laidOutB Tryd.prog = true := by kernel_rfl
theorem gSizes : Tryd.prog.globalNamed "ragpicker/scripts.sizes" = some 0 := by kernel_rfl
theorem tSizes : (Tryd.prog.globals[0]?).map (·.type) = some 65 := by kernel_rfl
theorem cells3' : Tryd.prog.cellsOf 3 = 1 := by kernel_rfl
theorem cells5' : Tryd.prog.cellsOf 5 = 1 := by kernel_rfl
theorem cells29' : Tryd.prog.cellsOf 29 = 1 := by kernel_rfl
theorem cells30' : Tryd.prog.cellsOf 30 = 1 := by kernel_rfl
theorem cells31' : Tryd.prog.cellsOf 31 = 1 := by kernel_rfl
theorem cells32' : Tryd.prog.cellsOf 32 = 1 := by kernel_rfl
theorem cells34' : Tryd.prog.cellsOf 34 = 9 := by kernel_rfl
def laidL : List (String × DataW Unit) := [("ragpicker/scripts.sizes", Rows.laid_ragpicker_scripts_sizes)]
theorem door_met (os : Os) (args : Array Value) : laidMetH Tryd.prog laidL ((World.doorLaid Tryd.prog 400 os).forCall (fun _ _ => 0) ⟨#[], args, []⟩).memory :=
  laidMetH_of_parts3 (fuel := 8) (laidMet_of_run' 8 (by kernel_rfl) (by kernel_rfl)) (by kernel_rfl) (by kernel_rfl)
set_option maxRecDepth 100000 in
theorem cells_of_laid {W : World} (h : laidMetH Tryd.prog laidL W) : ∃ cs : Array Value, (∀ k, W.cell? ⟨0, k, Option.none⟩ = cs[k]?) ∧
    ∀ (i : Nat) (a : Int), ([1, 1, 1, 2, 2, 2, 2, 1, 1, 5] : List Int)[i]? = some a → cs[i]? = some (.int .i64 a) := by
  rw [MakeChecks.laidMetH_plain _ _ _ (by kernel_rfl)] at h
  obtain ⟨ps, ⟨g0, t0, cs0, f0, p0, q0, hg0, ht0, hv0, hd0, _, _⟩, _, _⟩ := h
  obtain rfl := Option.some.inj (gSizes.symm.trans hg0)
  obtain rfl := Option.some.inj (tSizes.symm.trans ht0)
  refine ⟨cs0, fun k => World.var?_cell hg0 hv0 k, fun i a hi => ?_⟩
  obtain ⟨xs, m, rfl, hx, hlen, hn, hel⟩ := DataW.trod_array Tryd.underlying65 hd0
  have hi10 : i < 10 := by
    have := (List.getElem?_eq_some_iff.1 hi).1
    simpa using this
  have he := hel i hi10
  rw [cells3'] at he
  simp only [Rows.laid_ragpicker_scripts_sizes, Prod.mk.injEq, DataW.agg.injEq] at hx
  have hxi : (xs.map (·.1))[i]? = some (.lit (.int .i64 a)) := by
    rw [← hx.1]
    have hm : (([1, 1, 1, 2, 2, 2, 2, 1, 1, 5] : List Int).map (fun z => (DataW.lit (.int .i64 z) : DataW Unit)))[i]? = some (.lit (.int .i64 a)) := by
      rw [List.getElem?_map, hi]
      rfl
    exact hm
  rw [List.getElem?_map] at hxi
  obtain ⟨y, hy1, hy2⟩ := Option.map_eq_some_iff.1 hxi
  rw [hy1] at he
  obtain ⟨b, e0, rfl, _⟩ := DataW.trod_int Tryd.underlying3 he
  simp at hy2
  subst hy2
  have k0 : ((cs0.toList.drop (i * 1)).take 1)[0]? = some (.int .i64 b) := by rw [e0]; rfl
  simp only [List.getElem?_take, List.getElem?_drop] at k0
  simpa using k0
set_option maxRecDepth 100000 in
theorem lay_of_laid {W : World} (h : laidMetH Tryd.prog laidL W) : Lay W := by
  obtain ⟨cs, hc, hp⟩ := cells_of_laid h
  have h0 : W.cell? ⟨0, 0, Option.none⟩ = some (.int .i64 1) := (hc 0).trans (hp 0 1 rfl)
  refine ⟨?_, ?_⟩
  · refine Nat.pos_of_ne_zero fun e => ?_
    have hn : W.heap[0]? = Option.none := by simp [e]
    simp [World.cell?, hn] at h0
  · intro k hk
    match k, hk with
    | 0, _ => exact (hc 0).trans (hp 0 1 rfl)
    | 1, _ => exact (hc 1).trans (hp 1 1 rfl)
    | 2, _ => exact (hc 2).trans (hp 2 1 rfl)
    | 3, _ => exact (hc 3).trans (hp 3 2 rfl)
    | 4, _ => exact (hc 4).trans (hp 4 2 rfl)
    | 5, _ => exact (hc 5).trans (hp 5 2 rfl)
    | 6, _ => exact (hc 6).trans (hp 6 2 rfl)
    | 7, _ => exact (hc 7).trans (hp 7 1 rfl)
    | 8, _ => exact (hc 8).trans (hp 8 1 rfl)
    | 9, _ => exact (hc 9).trans (hp 9 5 rfl)
    | n + 10, hn => exact absurd hn (by omega)
theorem byte_of {a : Int} (h : (Lit.int .u8 a).wf = true) : 0 ≤ a ∧ a ≤ 255 := by
  simp [Lit.wf, IntKind.min, IntKind.max, IntKind.signed, IntKind.bits] at h
  omega
theorem addr_plus (g o i : Nat) : (⟨g, o, Option.none⟩ : Addr).add i = ⟨g, o + i, Option.none⟩ := by
  unfold Addr.add
  split <;> simp_all
instance : Inhabited Cm := ⟨⟨0, 0, 0, 0, 0, 0, 0, 0, 0⟩⟩
section
variable {H : Type} {enc : TypeId × Value → H} {W : World} {r : Reach} {b0 base : Nat} {sp : Nat → Bool} {v : Value} {d : DataW H} {p : List MemPlace}
set_option maxRecDepth 100000 in
/-- One command, out of its nine cells. -/
theorem open_cmd {fuel : Nat} {cs : List Value} {y : DataW H × List MemPlace} (h : DataW.trod enc Tryd.prog W base sp true fuel 34 cs = some y) : ∃ c : Cm, cs = vC c ∧ c.Fit := by
  obtain ⟨xs, n, rfl, _, hl, hxl, hf⟩ := DataW.trod_struct Tryd.underlying34 h
  rw [cells34'] at hl
  match xs, hxl, cs, hl with
  | [y0, y1, y2, y3, y4, y5, y6, y7, y8], _, [v0, v1, v2, v3, v4, v5, v6, v7, v8], _ =>
    have g0 : DataW.trod enc Tryd.prog W base sp true n 29 (([v0, v1, v2, v3, v4, v5, v6, v7, v8].drop 0).take (Tryd.prog.cellsOf 29)) = [y0, y1, y2, y3, y4, y5, y6, y7, y8][0]? := hf 0 _ rfl
    have g1 : DataW.trod enc Tryd.prog W base sp true n 3 (([v0, v1, v2, v3, v4, v5, v6, v7, v8].drop 1).take (Tryd.prog.cellsOf 3)) = [y0, y1, y2, y3, y4, y5, y6, y7, y8][1]? := hf 1 _ rfl
    have g2 : DataW.trod enc Tryd.prog W base sp true n 3 (([v0, v1, v2, v3, v4, v5, v6, v7, v8].drop 2).take (Tryd.prog.cellsOf 3)) = [y0, y1, y2, y3, y4, y5, y6, y7, y8][2]? := hf 2 _ rfl
    have g3 : DataW.trod enc Tryd.prog W base sp true n 3 (([v0, v1, v2, v3, v4, v5, v6, v7, v8].drop 3).take (Tryd.prog.cellsOf 3)) = [y0, y1, y2, y3, y4, y5, y6, y7, y8][3]? := hf 3 _ rfl
    have g4 : DataW.trod enc Tryd.prog W base sp true n 3 (([v0, v1, v2, v3, v4, v5, v6, v7, v8].drop 4).take (Tryd.prog.cellsOf 3)) = [y0, y1, y2, y3, y4, y5, y6, y7, y8][4]? := hf 4 _ rfl
    have g5 : DataW.trod enc Tryd.prog W base sp true n 30 (([v0, v1, v2, v3, v4, v5, v6, v7, v8].drop 5).take (Tryd.prog.cellsOf 30)) = [y0, y1, y2, y3, y4, y5, y6, y7, y8][5]? := hf 5 _ rfl
    have g6 : DataW.trod enc Tryd.prog W base sp true n 31 (([v0, v1, v2, v3, v4, v5, v6, v7, v8].drop 6).take (Tryd.prog.cellsOf 31)) = [y0, y1, y2, y3, y4, y5, y6, y7, y8][6]? := hf 6 _ rfl
    have g7 : DataW.trod enc Tryd.prog W base sp true n 32 (([v0, v1, v2, v3, v4, v5, v6, v7, v8].drop 7).take (Tryd.prog.cellsOf 32)) = [y0, y1, y2, y3, y4, y5, y6, y7, y8][7]? := hf 7 _ rfl
    have g8 : DataW.trod enc Tryd.prog W base sp true n 32 (([v0, v1, v2, v3, v4, v5, v6, v7, v8].drop 8).take (Tryd.prog.cellsOf 32)) = [y0, y1, y2, y3, y4, y5, y6, y7, y8][8]? := hf 8 _ rfl
    simp only [cells3', cells29', cells30', cells31', cells32', List.drop_zero, List.drop_succ_cons, List.take_succ_cons, List.take_zero, List.getElem?_cons_zero, List.getElem?_cons_succ] at g0 g1 g2 g3 g4 g5 g6 g7 g8
    obtain ⟨k, e0, _, w0⟩ := DataW.trod_int Tryd.underlying29 g0
    obtain ⟨fr, e1, _, _⟩ := DataW.trod_int Tryd.underlying3 g1
    obtain ⟨u, e2, _, _⟩ := DataW.trod_int Tryd.underlying3 g2
    obtain ⟨a, e3, _, _⟩ := DataW.trod_int Tryd.underlying3 g3
    obtain ⟨t, e4, _, _⟩ := DataW.trod_int Tryd.underlying3 g4
    obtain ⟨s, e5, _, w5⟩ := DataW.trod_int Tryd.underlying30 g5
    obtain ⟨o, e6, _, w6⟩ := DataW.trod_int Tryd.underlying31 g6
    obtain ⟨ky, e7, _, _⟩ := DataW.trod_int Tryd.underlying32 g7
    obtain ⟨vl, e8, _, _⟩ := DataW.trod_int Tryd.underlying32 g8
    simp only [List.cons.injEq, and_true] at e0 e1 e2 e3 e4 e5 e6 e7 e8
    subst e0 e1 e2 e3 e4 e5 e6 e7 e8
    exact ⟨⟨k, fr, u, a, t, s, o, ky, vl⟩, rfl, ⟨(byte_of w0).1, (byte_of w0).2, (byte_of w5).1, (byte_of w5).2, (byte_of w6).1, (byte_of w6).2⟩⟩
set_option maxRecDepth 100000 in
/-- A list of commands as an argument. -/
theorem open_cmds (hv : Value.okWide Tryd.prog W r b0 25 v) (h : DataW.Trod enc Tryd.prog W base sp true 25 v d p) :
    ∃ (A : Option Addr) (l : List Cm) (cap : Nat), v = .slice A l.length cap ∧ Slc W A l ∧ ∀ c ∈ l, c.Fit := by
  obtain ⟨a0, len, cap, rfl⟩ := okWide_slice Tryd.underlying25 hv
  obtain ⟨fuel, hf⟩ := h
  rcases Go.Deep.open_slice Tryd.underlying25 hf with ⟨hcs, _⟩ | ⟨a, len', cap', m, n, D, Pl, hcs, _, hl, _, hm, _, hall⟩
  · simp [Value.cells] at hcs
    obtain ⟨rfl, rfl, rfl⟩ := hcs
    exact ⟨Option.none, [], 0, rfl, fun h => absurd rfl h, fun c hc => by simp at hc⟩
  · simp [Value.cells] at hcs
    obtain ⟨rfl, rfl, rfl⟩ := hcs
    have hs : a.spot = Option.none := by
      simp only [Value.okWide, Tryd.underlying25, Cell.okWide, Cell.ok] at hv
      exact hv.2.2.2.1
    obtain ⟨g, off, spot⟩ := a
    obtain rfl : spot = Option.none := hs
    have hlm : len ≤ m := by rw [hm]; split <;> omega
    obtain ⟨c, hc⟩ := Go.Deep.choose_lt (α := Cm) (p := fun i c => c.Fit ∧ ∀ j u, (vC c)[j]? = some u → W.cell? ⟨g, off + i * 9 + j, Option.none⟩ = some u) (n := len) (fun i hi => by
      obtain ⟨cs', h1, h2⟩ := hall i (by omega)
      rw [cells34'] at h1
      obtain ⟨_, hlen, hcell⟩ := World.cells?_some h1
      obtain ⟨c, rfl, hfit⟩ := open_cmd h2
      refine ⟨c, hfit, fun j u hu => ?_⟩
      have hj : j < 9 := by have := (List.getElem?_eq_some_iff.1 hu).1; simpa [vC] using this
      have := hcell j hj
      rw [addr_plus, addr_plus] at this
      rw [this, hu])
    refine ⟨_, (List.range len).map c, cap, by simp, fun _ => ⟨g, off, rfl, fun i x hx => ?_⟩, fun x hx => ?_⟩
    · have hi : i < len := by
        have := (List.getElem?_eq_some_iff.1 hx).1
        simpa using this
      have hxi : x = c i := by
        rw [List.getElem?_map, List.getElem?_range hi] at hx
        exact (Option.some.inj hx).symm
      subst hxi
      have k := (hc i hi).2
      exact ⟨k 0 _ rfl, k 1 _ rfl, k 2 _ rfl, k 3 _ rfl, k 4 _ rfl, k 5 _ rfl, k 6 _ rfl, k 7 _ rfl, k 8 _ rfl⟩
    · obtain ⟨i, hi, rfl⟩ := List.mem_map.1 hx
      exact (hc i (List.mem_range.1 hi)).1
set_option maxRecDepth 100000 in
/-- A list of bytes as an argument. -/
theorem open_byts (hv : Value.okWide Tryd.prog W r b0 22 v) (h : DataW.Trod enc Tryd.prog W base sp true 22 v d p) :
    ∃ (A : Option Addr) (l : List UInt8) (cap : Nat), v = .slice A l.length cap ∧ l.length ≤ cap ∧ cap ≤ 9223372036854775807 ∧ Sl W A l ∧ (A = Option.none → cap = 0) := by
  obtain ⟨a0, len, cap, rfl⟩ := okWide_slice Tryd.underlying22 hv
  obtain ⟨fuel, hf⟩ := h
  rcases open_ints Tryd.underlying22 Tryd.underlying5 cells5' hf with ⟨hcs, _⟩ | ⟨a, len', cap', zs, hcs, _, hl, hm, hz, _, hcell, hwz⟩
  · simp [Value.cells] at hcs
    obtain ⟨rfl, rfl, rfl⟩ := hcs
    exact ⟨Option.none, [], 0, rfl, Nat.le_refl _, by omega, Sl.nil _ _, fun _ => rfl⟩
  · simp [Value.cells] at hcs
    obtain ⟨rfl, rfl, rfl⟩ := hcs
    have hs : a.spot = Option.none := by
      simp only [Value.okWide, Tryd.underlying22, Cell.okWide, Cell.ok] at hv
      exact hv.2.2.2.1
    obtain ⟨g, off, spot⟩ := a
    obtain rfl : spot = Option.none := hs
    have hlz : len ≤ zs.length := by rw [hz]; split <;> omega
    have hlen : ((zs.take len).map fun n => UInt8.ofNat n.toNat).length = len := by simp; omega
    refine ⟨some ⟨g, off, Option.none⟩, (zs.take len).map fun n => UInt8.ofNat n.toNat, cap, by rw [hlen], by rw [hlen]; exact hl, hm, Sl.of (fun j hj => ?_), fun h => by cases h⟩
    rw [hlen] at hj
    have hcj := hcell j (by omega)
    rw [addr_plus] at hcj
    rw [hcj]
    have hb := range_u8 hwz j
    have e : zs.getD j 0 = zs[j]'(by omega) := by simp [List.getD, List.getElem?_eq_getElem (show j < zs.length by omega)]
    have e2 : byt ((zs.take len).map fun n => UInt8.ofNat n.toNat) j = zs[j]'(by omega) := by
      rw [List.getD_eq_getElem?_getD] at e
      rw [e] at hb
      simp only [byt, List.getD_eq_getElem?_getD, List.getElem?_map, List.getElem?_take, if_pos hj, List.getElem?_eq_getElem (show j < zs.length by omega), Option.map_some, Option.getD_some, UInt8.toNat_ofNat']
      omega
    rw [e2, e]
end
end Go.Proofs.YtlgfdemggkiojaaDoor
