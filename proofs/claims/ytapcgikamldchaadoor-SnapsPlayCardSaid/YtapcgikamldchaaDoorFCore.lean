/-
  What the rows' proofs share: the two tables, read as the program lays them, are what the calls' contracts ask; lists of numbers as arguments; the start of the witness; no condition.
-/
import Derived.Test.YtapcgikamldchaaDoorW1
import Derived.Test.YtapcgikamldchaaDoorP1
import Derived.Test.YtapcgikamldchaaDoorFRow
import Derived.Test.YtapcgikamldchaaDoorTie
import Derived.ProofKit
import Derived.LaidMore
import Derived.OpenShut
import Derived.Stop.Joined
import Derived.Lib.SmallJoins
import Derived.SevenTiedAt
import Derived.Deep.Slices
import Derived.Deep.Strs
import Derived.Carry
namespace Go.Proofs.YtapcgikamldchaaDoor
open Go.ChangeShapes Go.WideShapes Go.ChangeAt Go.WideMaps Go.WideElems Go.RowKit Go.Joins

theorem core_plus (g o j : Nat) : (⟨g, o, Option.none⟩ : Addr).add j = ⟨g, o + j, Option.none⟩ := by unfold Addr.add; split <;> simp_all
/-- Both tables lie as they are laid. -/
def LayH (w : World) : Prop := Lay w ∧ LayM w
theorem own : ownKnob Tryd.prog.godebug = Option.none := by kernel_rfl
theorem laid_out : laidOutB Tryd.prog = true := by kernel_rfl
theorem gRooms : Tryd.prog.globalNamed "ragpicker/mems.rooms" = some 0 := by kernel_rfl
theorem tRooms : (Tryd.prog.globals[0]?).map (·.type) = some 105 := by kernel_rfl
theorem cellsU8 : Tryd.prog.cellsOf 5 = 1 := by kernel_rfl
theorem cellsKD : Tryd.prog.cellsOf 40 = 1 := by kernel_rfl
theorem cellsI : Tryd.prog.cellsOf 3 = 1 := by kernel_rfl
theorem cellsU : Tryd.prog.cellsOf 34 = 1 := by kernel_rfl
theorem cellsAD : Tryd.prog.cellsOf 42 = 3 := by kernel_rfl
theorem cellsST : Tryd.prog.cellsOf 44 = 4 := by kernel_rfl
theorem cellsRO : Tryd.prog.cellsOf 104 = 2 := by kernel_rfl
def laidL : List (String × DataW Unit) := [("ragpicker/mems.rooms", Rows.laid_ragpicker_mems_rooms)]
theorem door_met (os : Os) (args : Array Value) : laidMetH Tryd.prog laidL ((World.doorLaid Tryd.prog 400 os).forCall (fun _ _ => 0) ⟨#[], args, []⟩).memory :=
  laidMetH_of_parts3 (fuel := 8) (laidMet_of_run' 8 (by kernel_rfl) (by kernel_rfl)) (by kernel_rfl) (by kernel_rfl)
set_option maxRecDepth 100000 in
/-- Two cells that read as a pair of numbers hold them. -/
theorem room_cells {w : World} {base : Nat} {sp : Nat → Bool} {held : Bool} {fuel : Nat} {cs : List Value} {y : DataW Unit × List MemPlace} {a b : Int}
    (h : DataW.trod (fun _ => ()) Tryd.prog w base sp held fuel 104 cs = some y) (hy : y.1 = .agg [.lit (.int .i64 a), .lit (.int .i64 b)]) : cs = [.int .i64 a, .int .i64 b] := by
  obtain ⟨y0, y1, n, rfl, hl, h0, h1⟩ := trod_struct2 Tryd.underlying104 h
  rw [cellsRO] at hl
  obtain ⟨m0, e0, rfl, _⟩ := DataW.trod_int Tryd.underlying3 h0
  obtain ⟨m1, e1, rfl, _⟩ := DataW.trod_int Tryd.underlying3 h1
  simp only [cellsI] at e0 e1
  match cs, hl with
  | [c0, c1], _ =>
    simp at e0 e1 hy
    obtain ⟨rfl, rfl⟩ := hy
    rw [e0, e1]
set_option maxRecDepth 100000 in
theorem lay_of_laid {W : World} (h : laidMetH Tryd.prog laidL W) : LayH W := by
  rw [MakeChecks.laidMetH_plain _ _ _ (by kernel_rfl)] at h
  obtain ⟨ps, ⟨g0, t0, cs0, f0, p0, q0, hg0, ht0, hv0, hd0, _, _⟩, _⟩ := h
  obtain rfl := Option.some.inj (gRooms.symm.trans hg0)
  obtain rfl := Option.some.inj (tRooms.symm.trans ht0)
  refine ⟨Lay.all W, ?_⟩
  · have hc : ∀ k, W.cell? ⟨0, k, Option.none⟩ = cs0[k]? := fun k => World.var?_cell hg0 hv0 k
    obtain ⟨xs, m, rfl, hx, hlen, hn, hel⟩ := DataW.trod_array Tryd.underlying105 hd0
    have hp : ∀ (i : Nat) (a b : Int), ([(1, 1), (1, 1), (1, 1), (1, 1), (1, 1), (1, 1), (32, 2), (4, 1), (16, 10), (256, 8), (9, 1), (1, 2)] : List (Int × Int))[i]? = some (a, b) → cs0[i * 2]? = some (.int .i64 a) ∧ cs0[i * 2 + 1]? = some (.int .i64 b) := fun i a b hi => by
      have hi13 : i < 12 := by
        have := (List.getElem?_eq_some_iff.1 hi).1
        simpa using this
      have he := hel i hi13
      rw [cellsRO] at he
      simp only [Rows.laid_ragpicker_mems_rooms, Prod.mk.injEq, DataW.agg.injEq] at hx
      have hxi : (xs.map (·.1))[i]? = some (.agg [.lit (.int .i64 a), .lit (.int .i64 b)]) := by
        rw [← hx.1]
        have hm : (([(1, 1), (1, 1), (1, 1), (1, 1), (1, 1), (1, 1), (32, 2), (4, 1), (16, 10), (256, 8), (9, 1), (1, 2)] : List (Int × Int)).map (fun z => (DataW.agg [.lit (.int .i64 z.1), .lit (.int .i64 z.2)] : DataW Unit)))[i]? = some (.agg [.lit (.int .i64 a), .lit (.int .i64 b)]) := by
          rw [List.getElem?_map, hi]
          rfl
        exact hm
      rw [List.getElem?_map] at hxi
      obtain ⟨y, hy1, hy2⟩ := Option.map_eq_some_iff.1 hxi
      rw [hy1] at he
      have hp := room_cells he hy2
      have k0 : ((cs0.toList.drop (i * 2)).take 2)[0]? = some (.int .i64 a) := by rw [hp]; rfl
      have k1 : ((cs0.toList.drop (i * 2)).take 2)[1]? = some (.int .i64 b) := by rw [hp]; rfl
      simp only [List.getElem?_take, List.getElem?_drop] at k0 k1
      exact ⟨by simpa using k0, by simpa using k1⟩
    have h0 : W.cell? ⟨0, 0, Option.none⟩ = some (.int .i64 1) := (hc 0).trans (hp 0 1 1 rfl).1
    refine ⟨World.block_lt_of_cell? W _ h0, ?_⟩
    intro k hk
    match k, hk with
    | 0, _ => exact ⟨(hc 0).trans (hp 0 1 1 rfl).1, (hc 1).trans (hp 0 1 1 rfl).2⟩
    | 1, _ => exact ⟨(hc 2).trans (hp 1 1 1 rfl).1, (hc 3).trans (hp 1 1 1 rfl).2⟩
    | 2, _ => exact ⟨(hc 4).trans (hp 2 1 1 rfl).1, (hc 5).trans (hp 2 1 1 rfl).2⟩
    | 3, _ => exact ⟨(hc 6).trans (hp 3 1 1 rfl).1, (hc 7).trans (hp 3 1 1 rfl).2⟩
    | 4, _ => exact ⟨(hc 8).trans (hp 4 1 1 rfl).1, (hc 9).trans (hp 4 1 1 rfl).2⟩
    | 5, _ => exact ⟨(hc 10).trans (hp 5 1 1 rfl).1, (hc 11).trans (hp 5 1 1 rfl).2⟩
    | 6, _ => exact ⟨(hc 12).trans (hp 6 32 2 rfl).1, (hc 13).trans (hp 6 32 2 rfl).2⟩
    | 7, _ => exact ⟨(hc 14).trans (hp 7 4 1 rfl).1, (hc 15).trans (hp 7 4 1 rfl).2⟩
    | 8, _ => exact ⟨(hc 16).trans (hp 8 16 10 rfl).1, (hc 17).trans (hp 8 16 10 rfl).2⟩
    | 9, _ => exact ⟨(hc 18).trans (hp 9 256 8 rfl).1, (hc 19).trans (hp 9 256 8 rfl).2⟩
    | 10, _ => exact ⟨(hc 20).trans (hp 10 9 1 rfl).1, (hc 21).trans (hp 10 9 1 rfl).2⟩
    | 11, _ => exact ⟨(hc 22).trans (hp 11 1 2 rfl).1, (hc 23).trans (hp 11 1 2 rfl).2⟩
    | n + 12, hn => exact absurd hn (by omega)

theorem u8_of {a : Int} (h : (Lit.int .u8 a).wf = true) : U8 a := by
  simp [Lit.wf, IntKind.min, IntKind.max, IntKind.signed, IntKind.bits] at h
  exact ⟨by omega, by omega⟩
theorem u32_of {a : Int} (h : (Lit.int .u32 a).wf = true) : U32 a := by
  simp [Lit.wf, IntKind.min, IntKind.max, IntKind.signed, IntKind.bits] at h
  exact ⟨by omega, by omega⟩
theorem i64_of' {a : Int} (h : (Lit.int .i64 a).wf = true) : I64 a := by
  simp [Lit.wf, IntKind.min, IntKind.max, IntKind.signed, IntKind.bits] at h
  exact ⟨by omega, by omega⟩
theorem u64_of {a : Int} (h : (Lit.int .u64 a).wf = true) : U64 a := by
  simp [Lit.wf, IntKind.min, IntKind.max, IntKind.signed, IntKind.bits] at h
  exact ⟨by omega, by omega⟩
section
variable {H : Type} {enc : TypeId × Value → H} {W : World} {r : Reach} {b0 base : Nat} {sp : Nat → Bool} {v : Value} {d : DataW H} {p : List MemPlace}
set_option maxRecDepth 100000 in
/-- A list of numbers as an argument. -/
theorem open_nums {k : IntKind} {t e : TypeId} (ht : Tryd.prog.underlying t = some (.slice e)) (he : Tryd.prog.underlying e = some (.int k)) (hc1 : Tryd.prog.cellsOf e = 1) (hv : Value.okWide Tryd.prog W r b0 t v) (h : DataW.Trod enc Tryd.prog W base sp true t v d p) :
    ∃ (A : Option Addr) (l : List Int) (cap : Nat), v = .slice A l.length cap ∧ l.length ≤ cap ∧ cap ≤ 9223372036854775807 ∧ Row W A (l.map fun z => .int k z) ∧ (∀ z ∈ l, (Lit.int k z).wf = true) ∧ (A = Option.none → cap = 0) := by
  obtain ⟨a0, len, cap, rfl⟩ := okWide_slice ht hv
  obtain ⟨fuel, hf⟩ := h
  rcases open_ints ht he hc1 hf with ⟨hcs, _⟩ | ⟨a, len', cap', zs, hcs, _, hl, hm, hz, _, hcell, hwf⟩
  · simp [Value.cells] at hcs
    obtain ⟨rfl, rfl, rfl⟩ := hcs
    exact ⟨Option.none, [], 0, rfl, Nat.le_refl _, by omega, Row.nil _ _, fun z hz => by simp at hz, fun _ => rfl⟩
  · simp [Value.cells] at hcs
    obtain ⟨rfl, rfl, rfl⟩ := hcs
    have hs : a.spot = Option.none := by
      simp only [Value.okWide, ht, Cell.okWide, Cell.ok] at hv
      exact hv.2.2.2.1
    obtain ⟨g, off, spot⟩ := a
    obtain rfl : spot = Option.none := hs
    have hlz : len ≤ zs.length := by rw [hz]; split <;> omega
    have hlen : (zs.take len).length = len := by simp; omega
    refine ⟨some ⟨g, off, Option.none⟩, zs.take len, cap, by rw [hlen], by rw [hlen]; exact hl, by unfold maxLen at hm; exact hm, fun _ => ⟨g, off, rfl, fun i v hi => ?_⟩, fun z hzm => hwf z (List.mem_of_mem_take hzm), fun h => by cases h⟩
    have hlt : i < len := by
      have := (List.getElem?_eq_some_iff.1 hi).1
      rw [List.length_map, hlen] at this
      exact this
    have := hcell i (by omega)
    rw [core_plus] at this
    rw [this, ← hi]
    simp [hlt, List.getElem?_eq_getElem (show i < zs.length by omega)]
end
end Go.Proofs.YtapcgikamldchaaDoor
