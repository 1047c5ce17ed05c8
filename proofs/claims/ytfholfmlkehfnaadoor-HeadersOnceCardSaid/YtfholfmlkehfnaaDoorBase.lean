/-
  What the rows' proofs share: the two tables, read as the program lays them, are what the calls' contracts ask; the program's five calls do as the plain side says; lists of words and of bytes as arguments; the start of the witness; no condition.
-/
import Derived.Test.YtfholfmlkehfnaaDoorP2
import Derived.Test.YtfholfmlkehfnaaDoorP3
import Derived.Test.YtfholfmlkehfnaaDoorP4
import Derived.Test.YtfholfmlkehfnaaDoorTie
import Derived.ProofKit
import Derived.LaidMore
import Derived.OpenShut
import Derived.Stop.Joined
import Derived.Lib.SmallJoins
import Derived.SevenTiedAt
import Derived.Deep.Slices
import Derived.Carry
namespace Go.Proofs.YtfholfmlkehfnaaDoor
open Go.ChangeShapes Go.WideShapes Go.ChangeAt Go.WideMaps Go.WideElems Go.RowKit Go.Joins

/-- Both tables lie as they are laid. -/
def LayH (w : World) : Prop := LayL w ∧ Lay w
theorem prg : HPrg LayH where
  lay := fun _ h => h.2
  low := fun _ _ h hb => ⟨h.1.below h.1.lt hb, h.2.below hb⟩
  may := fun x most w h hx hm' => may_any x most w h.2 hx hm'
  of := fun x to most w h hx ht hm' => of_any' x to most w h.2 h.1 hx ht hm'
  done := fun x c most w h hx _ hm' => done_any x c most w h.2 h.1 hx hm'
  all := fun x most w h hx hm' => (all_any x most w h.2 h.1 hx hm').mono fun _ _ ⟨A, h1, h2, h3⟩ => ⟨A, _, h1, Nat.le_refl _, h2, h3⟩
  past := fun A cap l most w h hs hu hm' hn _ hl => past_any A cap l most w h.2 h.1 hs hu hm' hn hl
theorem own : ownKnob Tryd.prog.godebug = Option.none := by kernel_rfl
theorem laid_out : laidOutB Tryd.prog = true := by kernel_rfl
theorem gLayout : Tryd.prog.globalNamed "ragpicker/words.layout" = some 1 := by kernel_rfl
theorem tLayout : (Tryd.prog.globals[1]?).map (·.type) = some 73 := by kernel_rfl
theorem gLines : Tryd.prog.globalNamed "ragpicker/headers.lines" = some 0 := by kernel_rfl
theorem tLines : (Tryd.prog.globals[0]?).map (·.type) = some 66 := by kernel_rfl
theorem cells5' : Tryd.prog.cellsOf 5 = 1 := by kernel_rfl
theorem cells22' : Tryd.prog.cellsOf 22 = 1 := by kernel_rfl
theorem cells23' : Tryd.prog.cellsOf 23 = 2 := by kernel_rfl
theorem cells26' : Tryd.prog.cellsOf 26 = 1 := by kernel_rfl
theorem cells41' : Tryd.prog.cellsOf 41 = 1 := by kernel_rfl
theorem cells48' : Tryd.prog.cellsOf 48 = 2 := by kernel_rfl
theorem cells65' : Tryd.prog.cellsOf 65 = 5 := by kernel_rfl
theorem cells66' : Tryd.prog.cellsOf 66 = 40 := by kernel_rfl
theorem cells72' : Tryd.prog.cellsOf 72 = 2 := by kernel_rfl
def laidL : List (String × DataW Unit) := [("ragpicker/words.layout", Rows.laid_ragpicker_words_layout), ("ragpicker/headers.lines", Rows.laid_ragpicker_headers_lines)]
theorem door_met (os : Os) (args : Array Value) : laidMetH Tryd.prog laidL ((World.doorLaid Tryd.prog 400 os).forCall (fun _ _ => 0) ⟨#[], args, []⟩).memory :=
  laidMetH_of_parts3 (fuel := 8) (laidMet_of_run' 8 (by kernel_rfl) (by kernel_rfl)) (by kernel_rfl) (by kernel_rfl)
/-- Two cells that read as a pair of bytes hold them. -/
theorem pair_cells {w : World} {base : Nat} {sp : Nat → Bool} {held : Bool} {fuel : Nat} {cs : List Value} {y : DataW Unit × List MemPlace} {a b : Int}
    (h : DataW.trod (fun _ => ()) Tryd.prog w base sp held fuel 72 cs = some y) (hy : y.1 = .agg [.lit (.int .u8 a), .lit (.int .u8 b)]) : cs = [.int .u8 a, .int .u8 b] := by
  obtain ⟨y0, y1, n, rfl, hl, h0, h1⟩ := trod_struct2 Tryd.underlying72 h
  rw [cells72'] at hl
  obtain ⟨m0, e0, rfl, _⟩ := DataW.trod_int Tryd.underlying5 h0
  obtain ⟨m1, e1, rfl, _⟩ := DataW.trod_int Tryd.underlying5 h1
  simp only [cells5'] at e0 e1
  match cs, hl with
  | [c0, c1], _ =>
    simp at e0 e1 hy
    obtain ⟨rfl, rfl⟩ := hy
    rw [e0, e1]
/-- Two cells that read as a header hold it. -/
theorem head_cells {w : World} {base : Nat} {sp : Nat → Bool} {held : Bool} {fuel : Nat} {cs : List Value} {y : DataW Unit × List MemPlace} {a b : Int}
    (h : DataW.trod (fun _ => ()) Tryd.prog w base sp held fuel 48 cs = some y) (hy : y.1 = .agg [.lit (.int .u8 a), .lit (.int .u64 b)]) : cs = [.int .u8 a, .int .u64 b] := by
  obtain ⟨y0, y1, n, rfl, hl, h0, h1⟩ := trod_struct2 Tryd.underlying48 h
  rw [cells48'] at hl
  obtain ⟨m0, e0, rfl, _⟩ := DataW.trod_int Tryd.underlying41 h0
  obtain ⟨m1, e1, rfl, _⟩ := DataW.trod_int Tryd.underlying22 h1
  simp only [cells41', cells22'] at e0 e1
  match cs, hl with
  | [c0, c1], _ =>
    simp at e0 e1 hy
    obtain ⟨rfl, rfl⟩ := hy
    rw [e0, e1]
/-- Five cells that read as a line of the table hold it. -/
theorem line_cells {w : World} {base : Nat} {sp : Nat → Bool} {held : Bool} {fuel : Nat} {cs : List Value} {y : DataW Unit × List MemPlace} {c fs fg ts tg : Int}
    (h : DataW.trod (fun _ => ()) Tryd.prog w base sp held fuel 65 cs = some y) (hy : y.1 = .agg [.lit (.int .u8 c), .agg [.lit (.int .u8 fs), .lit (.int .u64 fg)], .agg [.lit (.int .u8 ts), .lit (.int .u64 tg)]]) : cs = [.int .u8 c, .int .u8 fs, .int .u64 fg, .int .u8 ts, .int .u64 tg] := by
  obtain ⟨xs, n, rfl, hx, hl, hxl, hf⟩ := DataW.trod_struct Tryd.underlying65 h
  rw [cells65'] at hl
  match xs, hxl, cs, hl with
  | [y0, y1, y2], _, [v0, v1, v2, v3, v4], _ =>
    have g0 : DataW.trod (fun _ => ()) Tryd.prog w base sp held n 26 (([v0, v1, v2, v3, v4].drop 0).take (Tryd.prog.cellsOf 26)) = [y0, y1, y2][0]? := hf 0 _ rfl
    have g1 : DataW.trod (fun _ => ()) Tryd.prog w base sp held n 48 (([v0, v1, v2, v3, v4].drop 1).take (Tryd.prog.cellsOf 48)) = [y0, y1, y2][1]? := hf 1 _ rfl
    have g2 : DataW.trod (fun _ => ()) Tryd.prog w base sp held n 48 (([v0, v1, v2, v3, v4].drop 3).take (Tryd.prog.cellsOf 48)) = [y0, y1, y2][2]? := hf 2 _ rfl
    simp only [cells26', cells48', List.drop_zero, List.drop_succ_cons, List.take_succ_cons, List.take_zero, List.getElem?_cons_zero, List.getElem?_cons_succ] at g0 g1 g2
    rw [hx] at hy
    simp only [List.map_cons, List.map_nil, DataW.agg.injEq, List.cons.injEq, and_true] at hy
    obtain ⟨m0, e0, rfl, _⟩ := DataW.trod_int Tryd.underlying26 g0
    have e1 := head_cells g1 hy.2.1
    have e2 := head_cells g2 hy.2.2
    have e3 := hy.1
    simp at e0 e1 e2 e3
    subst e3
    obtain ⟨rfl, rfl⟩ := e1
    obtain ⟨rfl, rfl⟩ := e2
    rw [e0]
/-- Forty cells that read as the lines, one behind the other, are the table. -/
theorem lines_eq {L : List Value} (hl : L.length = 40) (h : ∀ i, i < 8 → (L.drop (i * 5)).take 5 = (lnC.getD i default).v) : L = linesC.toList := by
  have s : ∀ k k', k' = k + 5 → L.drop k = (L.drop k).take 5 ++ L.drop k' := fun k k' e => by
    rw [e, ← List.drop_drop]
    exact (List.take_append_drop 5 (L.drop k)).symm
  have h0 := h 0 (by decide)
  have h1 := h 1 (by decide)
  have h2 := h 2 (by decide)
  have h3 := h 3 (by decide)
  have h4 := h 4 (by decide)
  have h5 := h 5 (by decide)
  have h6 := h 6 (by decide)
  have h7 := h 7 (by decide)
  simp only [Nat.reduceMul] at h0 h1 h2 h3 h4 h5 h6 h7
  have e : L.drop 0 = linesC.toList := by
    rw [s 0 5 rfl, s 5 10 rfl, s 10 15 rfl, s 15 20 rfl, s 20 25 rfl, s 25 30 rfl, s 30 35 rfl, s 35 40 rfl, h0, h1, h2, h3, h4, h5, h6, h7, List.drop_eq_nil_of_le (by omega)]
    rfl
  exact e
set_option maxRecDepth 100000 in
theorem lay_of_laid {W : World} (h : laidMetH Tryd.prog laidL W) : LayH W := by
  rw [MakeChecks.laidMetH_plain _ _ _ (by kernel_rfl)] at h
  obtain ⟨ps, ⟨g0, t0, cs0, f0, p0, q0, hg0, ht0, hv0, hd0, ⟨g1, t1, cs1, f1, p1, q1, hg1, ht1, hv1, hd1, _, _⟩, _⟩, _⟩ := h
  obtain rfl := Option.some.inj (gLayout.symm.trans hg0)
  obtain rfl := Option.some.inj (tLayout.symm.trans ht0)
  obtain rfl := Option.some.inj (gLines.symm.trans hg1)
  obtain rfl := Option.some.inj (tLines.symm.trans ht1)
  refine ⟨?_, ?_⟩
  · obtain ⟨xs, m, rfl, hx, hlen, hn, hel⟩ := DataW.trod_array Tryd.underlying66 hd1
    rw [cells66'] at hlen
    have hcs : cs1.toList = linesC.toList := lines_eq hlen fun i hi => by
      have he := hel i hi
      rw [cells65'] at he
      simp only [Rows.laid_ragpicker_headers_lines, Prod.mk.injEq, DataW.agg.injEq] at hx
      have hxi : (xs.map (·.1))[i]? = some (.agg [.lit (.int .u8 (lnC.getD i default).c), .agg [.lit (.int .u8 (lnC.getD i default).fs), .lit (.int .u64 0)], .agg [.lit (.int .u8 (lnC.getD i default).ts), .lit (.int .u64 (lnC.getD i default).tg)]]) := by
        rw [← hx.1]
        match i, hi with
        | 0, _ => rfl
        | 1, _ => rfl
        | 2, _ => rfl
        | 3, _ => rfl
        | 4, _ => rfl
        | 5, _ => rfl
        | 6, _ => rfl
        | 7, _ => rfl
        | k + 8, hk => exact absurd hk (by omega)
      rw [List.getElem?_map] at hxi
      obtain ⟨y, hy1, hy2⟩ := Option.map_eq_some_iff.1 hxi
      rw [hy1] at he
      exact line_cells he hy2
    have hcs2 : cs1 = linesC := by
      cases cs1
      exact congrArg List.toArray hcs
    subst hcs2
    simp only [World.var?, hg1, Option.bind_some] at hv1
    split at hv1
    · rename_i cs t fr he
      cases hv1
      exact ⟨t, fr, he⟩
    · cases hv1
  · have hc : ∀ k, W.cell? ⟨1, k, Option.none⟩ = cs0[k]? := fun k => World.var?_cell hg0 hv0 k
    obtain ⟨xs, m, rfl, hx, hlen, hn, hel⟩ := DataW.trod_array Tryd.underlying73 hd0
    have hp : ∀ (i : Nat) (a b : Int), ([(0, 16), (16, 32), (63, 1), (0, 16), (16, 48), (0, 3), (3, 32), (0, 3), (3, 3), (6, 3), (16, 48), (0, 32), (32, 1)] : List (Int × Int))[i]? = some (a, b) → cs0[i * 2]? = some (.int .u8 a) ∧ cs0[i * 2 + 1]? = some (.int .u8 b) := fun i a b hi => by
      have hi13 : i < 13 := by
        have := (List.getElem?_eq_some_iff.1 hi).1
        simpa using this
      have he := hel i hi13
      rw [cells72'] at he
      simp only [Rows.laid_ragpicker_words_layout, Prod.mk.injEq, DataW.agg.injEq] at hx
      have hxi : (xs.map (·.1))[i]? = some (.agg [.lit (.int .u8 a), .lit (.int .u8 b)]) := by
        rw [← hx.1]
        have hm : (([(0, 16), (16, 32), (63, 1), (0, 16), (16, 48), (0, 3), (3, 32), (0, 3), (3, 3), (6, 3), (16, 48), (0, 32), (32, 1)] : List (Int × Int)).map (fun z => (DataW.agg [.lit (.int .u8 z.1), .lit (.int .u8 z.2)] : DataW Unit)))[i]? = some (.agg [.lit (.int .u8 a), .lit (.int .u8 b)]) := by
          rw [List.getElem?_map, hi]
          rfl
        exact hm
      rw [List.getElem?_map] at hxi
      obtain ⟨y, hy1, hy2⟩ := Option.map_eq_some_iff.1 hxi
      rw [hy1] at he
      have hp := pair_cells he hy2
      have k0 : ((cs0.toList.drop (i * 2)).take 2)[0]? = some (.int .u8 a) := by rw [hp]; rfl
      have k1 : ((cs0.toList.drop (i * 2)).take 2)[1]? = some (.int .u8 b) := by rw [hp]; rfl
      simp only [List.getElem?_take, List.getElem?_drop] at k0 k1
      exact ⟨by simpa using k0, by simpa using k1⟩
    have h0 : W.cell? ⟨1, 0, Option.none⟩ = some (.int .u8 0) := (hc 0).trans (hp 0 0 16 rfl).1
    refine ⟨World.block_lt_of_cell? W _ h0, ?_⟩
    intro k hk
    match k, hk with
    | 0, _ => exact (hc 0).trans (hp 0 0 16 rfl).1
    | 1, _ => exact (hc 1).trans (hp 0 0 16 rfl).2
    | 2, _ => exact (hc 2).trans (hp 1 16 32 rfl).1
    | 3, _ => exact (hc 3).trans (hp 1 16 32 rfl).2
    | 4, _ => exact (hc 4).trans (hp 2 63 1 rfl).1
    | 5, _ => exact (hc 5).trans (hp 2 63 1 rfl).2
    | 6, _ => exact (hc 6).trans (hp 3 0 16 rfl).1
    | 7, _ => exact (hc 7).trans (hp 3 0 16 rfl).2
    | 8, _ => exact (hc 8).trans (hp 4 16 48 rfl).1
    | 9, _ => exact (hc 9).trans (hp 4 16 48 rfl).2
    | 10, _ => exact (hc 10).trans (hp 5 0 3 rfl).1
    | 11, _ => exact (hc 11).trans (hp 5 0 3 rfl).2
    | 12, _ => exact (hc 12).trans (hp 6 3 32 rfl).1
    | 13, _ => exact (hc 13).trans (hp 6 3 32 rfl).2
    | 14, _ => exact (hc 14).trans (hp 7 0 3 rfl).1
    | 15, _ => exact (hc 15).trans (hp 7 0 3 rfl).2
    | 16, _ => exact (hc 16).trans (hp 8 3 3 rfl).1
    | 17, _ => exact (hc 17).trans (hp 8 3 3 rfl).2
    | 18, _ => exact (hc 18).trans (hp 9 6 3 rfl).1
    | 19, _ => exact (hc 19).trans (hp 9 6 3 rfl).2
    | 20, _ => exact (hc 20).trans (hp 10 16 48 rfl).1
    | 21, _ => exact (hc 21).trans (hp 10 16 48 rfl).2
    | 22, _ => exact (hc 22).trans (hp 11 0 32 rfl).1
    | 23, _ => exact (hc 23).trans (hp 11 0 32 rfl).2
    | 24, _ => exact (hc 24).trans (hp 12 32 1 rfl).1
    | 25, _ => exact (hc 25).trans (hp 12 32 1 rfl).2
    | n + 26, hn => exact absurd hn (by omega)
theorem u8_of {a : Int} (h : (Lit.int .u8 a).wf = true) : U8 a := by
  simp [Lit.wf, IntKind.min, IntKind.max, IntKind.signed, IntKind.bits] at h
  exact ⟨by omega, by omega⟩
theorem u32_of {a : Int} (h : (Lit.int .u32 a).wf = true) : U32 a := by
  simp [Lit.wf, IntKind.min, IntKind.max, IntKind.signed, IntKind.bits] at h
  exact ⟨by omega, by omega⟩
theorem u64_of {a : Int} (h : (Lit.int .u64 a).wf = true) : U64 a := by
  simp [Lit.wf, IntKind.min, IntKind.max, IntKind.signed, IntKind.bits] at h
  exact ⟨by omega, by omega⟩
section
variable {H : Type} {enc : TypeId × Value → H} {W : World} {r : Reach} {b0 base : Nat} {sp : Nat → Bool} {v : Value} {d : DataW H} {p : List MemPlace}
/-- A list of numbers as an argument. -/
theorem open_nums {k : IntKind} {t e : TypeId} (ht : Tryd.prog.underlying t = some (.slice e)) (he : Tryd.prog.underlying e = some (.int k)) (hc1 : Tryd.prog.cellsOf e = 1) (hv : Value.okWide Tryd.prog W r b0 t v) (h : DataW.Trod enc Tryd.prog W base sp true t v d p) :
    ∃ (A : Option Addr) (l : List Int) (cap : Nat), v = .slice A l.length cap ∧ l.length ≤ cap ∧ cap ≤ 9223372036854775807 ∧ Row W A (l.map fun z => .int k z) ∧ (∀ z ∈ l, (Lit.int k z).wf = true) ∧ (A = Option.none → cap = 0) := by
  obtain ⟨a0, len, cap, rfl⟩ := okWide_slice ht hv
  obtain ⟨fuel, hf⟩ := h
  rcases open_ints ht he hc1 hf with ⟨hcs, _⟩ | ⟨a, len', cap', zs, hcs, _, hl, hm, hz, _, hcell, hwf⟩
  · simp [Value.cells] at hcs
    obtain ⟨rfl, rfl, rfl⟩ := hcs
    exact ⟨Option.none, [], 0, rfl, Nat.le_refl _, by omega, Row.nil _ _, fun z hz => by simp at hz, fun _ => rfl⟩
  · simp [Value.cells] at hcs
    obtain ⟨rfl, rfl, rfl⟩ := hcs
    have hs : a.spot = Option.none := by
      simp only [Value.okWide, ht, Cell.okWide, Cell.ok] at hv
      exact hv.2.2.2.1
    obtain ⟨g, off, spot⟩ := a
    obtain rfl : spot = Option.none := hs
    have hlz : len ≤ zs.length := by rw [hz]; split <;> omega
    have hlen : (zs.take len).length = len := by simp; omega
    refine ⟨some ⟨g, off, Option.none⟩, zs.take len, cap, by rw [hlen], by rw [hlen]; exact hl, by unfold maxLen at hm; exact hm, fun _ => ⟨g, off, rfl, fun i v hi => ?_⟩, fun z hzm => hwf z (List.mem_of_mem_take hzm), fun h => by cases h⟩
    have hlt : i < len := by
      have := (List.getElem?_eq_some_iff.1 hi).1
      rw [List.length_map, hlen] at this
      exact this
    have := hcell i (by omega)
    rw [add_plus] at this
    rw [this, ← hi]
    simp [hlt, List.getElem?_eq_getElem (show i < zs.length by omega)]
/-- A pair of words as an argument. -/
theorem open_pair (hv : Value.okWide Tryd.prog W r b0 23 v) (h : DataW.Trod enc Tryd.prog W base sp true 23 v d p) :
    ∃ (a b : Int), v = .agg #[.int .u64 a, .int .u64 b] ∧ (Lit.int .u64 a).wf = true ∧ (Lit.int .u64 b).wf = true := by
  simp only [Value.okWide, Tryd.underlying23] at hv
  obtain ⟨cs, rfl, hsz, _⟩ := hv
  obtain ⟨c0, c1, rfl⟩ := array2 (hsz.trans cells23')
  obtain ⟨fuel, hf⟩ := h
  obtain ⟨xs, m, rfl, hx, _, hn, hel⟩ := DataW.trod_array Tryd.underlying23 hf
  have k0 := hel 0 (by decide)
  have k1 := hel 1 (by decide)
  rw [cells22'] at k0 k1
  match xs, hn with
  | [x0, x1], _ =>
    obtain ⟨a, e0, _, wa⟩ := DataW.trod_int Tryd.underlying22 k0
    obtain ⟨b, e1, _, wb⟩ := DataW.trod_int Tryd.underlying22 k1
    simp [Value.cells] at e0 e1
    subst e0 e1
    exact ⟨a, b, rfl, wa, wb⟩
end
end Go.Proofs.YtfholfmlkehfnaaDoor
