/-
  What the rows' proofs share: the two tables, read as the program lays them, are what the calls' contracts ask; the program's eight calls do as the plain side says; lists, counts and a pair of bytes as arguments; the start of the witness; no condition.
-/
import Derived.Test.YtelehpegnjbcaaaDoorGE5
import Derived.Test.YtelehpegnjbcaaaDoorP3
import Derived.Test.YtelehpegnjbcaaaDoorTie
import Derived.ProofKit
import Derived.LaidMore
import Derived.OpenShut
import Derived.Stop.Joined
import Derived.Lib.SmallJoins
import Derived.SevenTiedAt
import Derived.Deep.Slices
import Derived.Carry
namespace Go.Proofs.YtelehpegnjbcaaaDoor
open Go.ChangeShapes Go.WideShapes Go.ChangeAt Go.WideMaps Go.WideElems Go.RowKit Go.Joins

/-- Both tables lie as they are laid. -/
def LayH (w : World) : Prop := LayT w ∧ Lay w
theorem prg : SPrg LayH where
  lay := fun _ h => h.2
  low := fun _ _ h hb => ⟨h.1.below h.1.lt hb, h.2.below hb⟩
  of := fun n w _ _ => pof_any n w
  slots := fun n w _ _ => pslots_any n w
  word := fun n f w _ _ _ => pword_any n f w
  slot := fun n f w _ _ _ => pslot_any n f w
  may := fun s p w _ _ _ => (pmay_any s p w).mono fun _ _ ⟨h1, h2⟩ => ⟨h1, h2 ▸ Below.refl _ _⟩
  turns := fun s p t w h _ _ _ => pturns_any s p t w h.1
  count := fun A cap l w h hs hu _ _ hl => pcount_any A cap l w h.2 hs hu hl
  aside := fun a b c p g w _ h0 h1 h2 h3 => paside_any a b c p g w h0 h1 h2 h3
theorem own : ownKnob Tryd.prog.godebug = Option.none := by kernel_rfl
theorem laid_out : laidOutB Tryd.prog = true := by kernel_rfl
theorem gLayout : Tryd.prog.globalNamed "ragpicker/words.layout" = some 1 := by kernel_rfl
theorem tLayout : (Tryd.prog.globals[1]?).map (·.type) = some 66 := by kernel_rfl
theorem gTurns : Tryd.prog.globalNamed "ragpicker/segs.turns" = some 0 := by kernel_rfl
theorem tTurns : (Tryd.prog.globals[0]?).map (·.type) = some 51 := by kernel_rfl
theorem cells50' : Tryd.prog.cellsOf 50 = 2 := by kernel_rfl
theorem cells51' : Tryd.prog.cellsOf 51 = 8 := by kernel_rfl
theorem cells5' : Tryd.prog.cellsOf 5 = 1 := by kernel_rfl
theorem cells31' : Tryd.prog.cellsOf 31 = 1 := by kernel_rfl
theorem cells42' : Tryd.prog.cellsOf 42 = 2 := by kernel_rfl
theorem cells3' : Tryd.prog.cellsOf 3 = 1 := by kernel_rfl
theorem cells36' : Tryd.prog.cellsOf 36 = 5 := by kernel_rfl
theorem cellsBI : Tryd.prog.cellsOf 65 = 2 := by kernel_rfl
def laidL : List (String × DataW Unit) := [("ragpicker/words.layout", Rows.laid_ragpicker_words_layout), ("ragpicker/segs.turns", Rows.laid_ragpicker_segs_turns)]
theorem door_met (os : Os) (args : Array Value) : laidMetH Tryd.prog laidL ((World.doorLaid Tryd.prog 400 os).forCall (fun _ _ => 0) ⟨#[], args, []⟩).memory :=
  laidMetH_of_parts3 (fuel := 8) (laidMet_of_run' 8 (by kernel_rfl) (by kernel_rfl)) (by kernel_rfl) (by kernel_rfl)
/-- Two cells that read as a pair of bytes hold them. -/
theorem pair_cells {w : World} {base : Nat} {sp : Nat → Bool} {held : Bool} {fuel : Nat} {cs : List Value} {y : DataW Unit × List MemPlace} {a b : Int}
    (h : DataW.trod (fun _ => ()) Tryd.prog w base sp held fuel 65 cs = some y) (hy : y.1 = .agg [.lit (.int .u8 a), .lit (.int .u8 b)]) : cs = [.int .u8 a, .int .u8 b] := by
  obtain ⟨y0, y1, n, rfl, hl, h0, h1⟩ := trod_struct2 Tryd.underlying65 h
  rw [cellsBI] at hl
  obtain ⟨m0, e0, rfl, _⟩ := DataW.trod_int Tryd.underlying5 h0
  obtain ⟨m1, e1, rfl, _⟩ := DataW.trod_int Tryd.underlying5 h1
  simp only [cells5'] at e0 e1
  match cs, hl with
  | [c0, c1], _ =>
    simp at e0 e1 hy
    obtain ⟨rfl, rfl⟩ := hy
    rw [e0, e1]
/-- Two cells that read as a turn hold it. -/
theorem turn_cells {w : World} {base : Nat} {sp : Nat → Bool} {held : Bool} {fuel : Nat} {cs : List Value} {y : DataW Unit × List MemPlace} {a b : Int}
    (h : DataW.trod (fun _ => ()) Tryd.prog w base sp held fuel 50 cs = some y) (hy : y.1 = .agg [.lit (.int .u64 a), .lit (.int .u64 b)]) : cs = [.int .u64 a, .int .u64 b] := by
  obtain ⟨y0, y1, n, rfl, hl, h0, h1⟩ := trod_struct2 Tryd.underlying50 h
  rw [cells50'] at hl
  obtain ⟨m0, e0, rfl, _⟩ := DataW.trod_int Tryd.underlying31 h0
  obtain ⟨m1, e1, rfl, _⟩ := DataW.trod_int Tryd.underlying31 h1
  simp only [cells31'] at e0 e1
  match cs, hl with
  | [c0, c1], _ =>
    simp at e0 e1 hy
    obtain ⟨rfl, rfl⟩ := hy
    rw [e0, e1]
/-- Eight cells that read as the turns, one behind the other, are the table. -/
theorem turns_eq {L : List Value} (hl : L.length = 8) (h : ∀ i, i < 4 → (L.drop (i * 2)).take 2 = [.int .u64 (tnC.getD i default).1, .int .u64 (tnC.getD i default).2]) : L = turnsC.toList := by
  have s : ∀ k k', k' = k + 2 → L.drop k = (L.drop k).take 2 ++ L.drop k' := fun k k' e => by
    rw [e, ← List.drop_drop]
    exact (List.take_append_drop 2 (L.drop k)).symm
  have h0 := h 0 (by decide)
  have h1 := h 1 (by decide)
  have h2 := h 2 (by decide)
  have h3 := h 3 (by decide)
  simp only [Nat.reduceMul] at h0 h1 h2 h3
  have e : L.drop 0 = turnsC.toList := by
    rw [s 0 2 rfl, s 2 4 rfl, s 4 6 rfl, s 6 8 rfl, h0, h1, h2, h3, List.drop_eq_nil_of_le (by omega)]
    rfl
  exact e
set_option maxRecDepth 100000 in
theorem lay_of_laid {W : World} (h : laidMetH Tryd.prog laidL W) : LayH W := by
  rw [MakeChecks.laidMetH_plain _ _ _ (by kernel_rfl)] at h
  obtain ⟨ps, ⟨g0, t0, cs0, f0, p0, q0, hg0, ht0, hv0, hd0, ⟨g1, t1, cs1, f1, p1, q1, hg1, ht1, hv1, hd1, _, _⟩, _⟩, _⟩ := h
  obtain rfl := Option.some.inj (gLayout.symm.trans hg0)
  obtain rfl := Option.some.inj (tLayout.symm.trans ht0)
  obtain rfl := Option.some.inj (gTurns.symm.trans hg1)
  obtain rfl := Option.some.inj (tTurns.symm.trans ht1)
  refine ⟨?_, ?_⟩
  · obtain ⟨xs, m, rfl, hx, hlen, hn, hel⟩ := DataW.trod_array Tryd.underlying51 hd1
    rw [cells51'] at hlen
    have hcs : cs1.toList = turnsC.toList := turns_eq hlen fun i hi => by
      have he := hel i hi
      rw [cells50'] at he
      simp only [Rows.laid_ragpicker_segs_turns, Prod.mk.injEq, DataW.agg.injEq] at hx
      have hxi : (xs.map (·.1))[i]? = some (.agg [.lit (.int .u64 (tnC.getD i default).1), .lit (.int .u64 (tnC.getD i default).2)]) := by
        rw [← hx.1]
        match i, hi with
        | 0, _ => rfl
        | 1, _ => rfl
        | 2, _ => rfl
        | 3, _ => rfl
        | k + 4, hk => exact absurd hk (by omega)
      rw [List.getElem?_map] at hxi
      obtain ⟨y, hy1, hy2⟩ := Option.map_eq_some_iff.1 hxi
      rw [hy1] at he
      exact turn_cells he hy2
    have hcs2 : cs1 = turnsC := by
      cases cs1
      exact congrArg List.toArray hcs
    subst hcs2
    simp only [World.var?, hg1, Option.bind_some] at hv1
    split at hv1
    · rename_i cs t fr he
      cases hv1
      exact ⟨t, fr, he⟩
    · cases hv1
  · have hc : ∀ k, W.cell? ⟨1, k, Option.none⟩ = cs0[k]? := fun k => World.var?_cell hg0 hv0 k
    obtain ⟨xs, m, rfl, hx, hlen, hn, hel⟩ := DataW.trod_array Tryd.underlying66 hd0
    have hp : ∀ (i : Nat) (a b : Int), ([(0, 16), (16, 32), (63, 1), (0, 16), (16, 48), (0, 3), (3, 32), (0, 3), (3, 3), (6, 3), (16, 48), (0, 32), (32, 1)] : List (Int × Int))[i]? = some (a, b) → cs0[i * 2]? = some (.int .u8 a) ∧ cs0[i * 2 + 1]? = some (.int .u8 b) := fun i a b hi => by
      have hi13 : i < 13 := by
        have := (List.getElem?_eq_some_iff.1 hi).1
        simpa using this
      have he := hel i hi13
      rw [cellsBI] at he
      simp only [Rows.laid_ragpicker_words_layout, Prod.mk.injEq, DataW.agg.injEq] at hx
      have hxi : (xs.map (·.1))[i]? = some (.agg [.lit (.int .u8 a), .lit (.int .u8 b)]) := by
        rw [← hx.1]
        have hm : (([(0, 16), (16, 32), (63, 1), (0, 16), (16, 48), (0, 3), (3, 32), (0, 3), (3, 3), (6, 3), (16, 48), (0, 32), (32, 1)] : List (Int × Int)).map (fun z => (DataW.agg [.lit (.int .u8 z.1), .lit (.int .u8 z.2)] : DataW Unit)))[i]? = some (.agg [.lit (.int .u8 a), .lit (.int .u8 b)]) := by
          rw [List.getElem?_map, hi]
          rfl
        exact hm
      rw [List.getElem?_map] at hxi
      obtain ⟨y, hy1, hy2⟩ := Option.map_eq_some_iff.1 hxi
      rw [hy1] at he
      have hp := pair_cells he hy2
      have k0 : ((cs0.toList.drop (i * 2)).take 2)[0]? = some (.int .u8 a) := by rw [hp]; rfl
      have k1 : ((cs0.toList.drop (i * 2)).take 2)[1]? = some (.int .u8 b) := by rw [hp]; rfl
      simp only [List.getElem?_take, List.getElem?_drop] at k0 k1
      exact ⟨by simpa using k0, by simpa using k1⟩
    have h0 : W.cell? ⟨1, 0, Option.none⟩ = some (.int .u8 0) := (hc 0).trans (hp 0 0 16 rfl).1
    refine ⟨World.block_lt_of_cell? W _ h0, ?_⟩
    intro k hk
    match k, hk with
    | 0, _ => exact (hc 0).trans (hp 0 0 16 rfl).1
    | 1, _ => exact (hc 1).trans (hp 0 0 16 rfl).2
    | 2, _ => exact (hc 2).trans (hp 1 16 32 rfl).1
    | 3, _ => exact (hc 3).trans (hp 1 16 32 rfl).2
    | 4, _ => exact (hc 4).trans (hp 2 63 1 rfl).1
    | 5, _ => exact (hc 5).trans (hp 2 63 1 rfl).2
    | 6, _ => exact (hc 6).trans (hp 3 0 16 rfl).1
    | 7, _ => exact (hc 7).trans (hp 3 0 16 rfl).2
    | 8, _ => exact (hc 8).trans (hp 4 16 48 rfl).1
    | 9, _ => exact (hc 9).trans (hp 4 16 48 rfl).2
    | 10, _ => exact (hc 10).trans (hp 5 0 3 rfl).1
    | 11, _ => exact (hc 11).trans (hp 5 0 3 rfl).2
    | 12, _ => exact (hc 12).trans (hp 6 3 32 rfl).1
    | 13, _ => exact (hc 13).trans (hp 6 3 32 rfl).2
    | 14, _ => exact (hc 14).trans (hp 7 0 3 rfl).1
    | 15, _ => exact (hc 15).trans (hp 7 0 3 rfl).2
    | 16, _ => exact (hc 16).trans (hp 8 3 3 rfl).1
    | 17, _ => exact (hc 17).trans (hp 8 3 3 rfl).2
    | 18, _ => exact (hc 18).trans (hp 9 6 3 rfl).1
    | 19, _ => exact (hc 19).trans (hp 9 6 3 rfl).2
    | 20, _ => exact (hc 20).trans (hp 10 16 48 rfl).1
    | 21, _ => exact (hc 21).trans (hp 10 16 48 rfl).2
    | 22, _ => exact (hc 22).trans (hp 11 0 32 rfl).1
    | 23, _ => exact (hc 23).trans (hp 11 0 32 rfl).2
    | 24, _ => exact (hc 24).trans (hp 12 32 1 rfl).1
    | 25, _ => exact (hc 25).trans (hp 12 32 1 rfl).2
    | n + 26, hn => exact absurd hn (by omega)
theorem u8_of {a : Int} (h : (Lit.int .u8 a).wf = true) : U8 a := by
  simp [Lit.wf, IntKind.min, IntKind.max, IntKind.signed, IntKind.bits] at h
  exact ⟨by omega, by omega⟩
theorem u32_of {a : Int} (h : (Lit.int .u32 a).wf = true) : U32 a := by
  simp [Lit.wf, IntKind.min, IntKind.max, IntKind.signed, IntKind.bits] at h
  exact ⟨by omega, by omega⟩
theorem i64_of' {a : Int} (h : (Lit.int .i64 a).wf = true) : I64 a := by
  simp [Lit.wf, IntKind.min, IntKind.max, IntKind.signed, IntKind.bits] at h
  exact ⟨by omega, by omega⟩
theorem u64_of {a : Int} (h : (Lit.int .u64 a).wf = true) : U64 a := by
  simp [Lit.wf, IntKind.min, IntKind.max, IntKind.signed, IntKind.bits] at h
  exact ⟨by omega, by omega⟩
section
variable {H : Type} {enc : TypeId × Value → H} {W : World} {r : Reach} {b0 base : Nat} {sp : Nat → Bool} {v : Value} {d : DataW H} {p : List MemPlace}
/-- A list of numbers as an argument. -/
theorem open_nums {k : IntKind} {t e : TypeId} (ht : Tryd.prog.underlying t = some (.slice e)) (he : Tryd.prog.underlying e = some (.int k)) (hc1 : Tryd.prog.cellsOf e = 1) (hv : Value.okWide Tryd.prog W r b0 t v) (h : DataW.Trod enc Tryd.prog W base sp true t v d p) :
    ∃ (A : Option Addr) (l : List Int) (cap : Nat), v = .slice A l.length cap ∧ l.length ≤ cap ∧ cap ≤ 9223372036854775807 ∧ Row W A (l.map fun z => .int k z) ∧ (∀ z ∈ l, (Lit.int k z).wf = true) ∧ (A = Option.none → cap = 0) := by
  obtain ⟨a0, len, cap, rfl⟩ := okWide_slice ht hv
  obtain ⟨fuel, hf⟩ := h
  rcases open_ints ht he hc1 hf with ⟨hcs, _⟩ | ⟨a, len', cap', zs, hcs, _, hl, hm, hz, _, hcell, hwf⟩
  · simp [Value.cells] at hcs
    obtain ⟨rfl, rfl, rfl⟩ := hcs
    exact ⟨Option.none, [], 0, rfl, Nat.le_refl _, by omega, Row.nil _ _, fun z hz => by simp at hz, fun _ => rfl⟩
  · simp [Value.cells] at hcs
    obtain ⟨rfl, rfl, rfl⟩ := hcs
    have hs : a.spot = Option.none := by
      simp only [Value.okWide, ht, Cell.okWide, Cell.ok] at hv
      exact hv.2.2.2.1
    obtain ⟨g, off, spot⟩ := a
    obtain rfl : spot = Option.none := hs
    have hlz : len ≤ zs.length := by rw [hz]; split <;> omega
    have hlen : (zs.take len).length = len := by simp; omega
    refine ⟨some ⟨g, off, Option.none⟩, zs.take len, cap, by rw [hlen], by rw [hlen]; exact hl, by unfold maxLen at hm; exact hm, fun _ => ⟨g, off, rfl, fun i v hi => ?_⟩, fun z hzm => hwf z (List.mem_of_mem_take hzm), fun h => by cases h⟩
    have hlt : i < len := by
      have := (List.getElem?_eq_some_iff.1 hi).1
      rw [List.length_map, hlen] at this
      exact this
    have := hcell i (by omega)
    rw [add_plus] at this
    rw [this, ← hi]
    simp [hlt, List.getElem?_eq_getElem (show i < zs.length by omega)]
/-- A pair of bytes as an argument. -/
theorem open_pair (hv : Value.okWide Tryd.prog W r b0 42 v) (h : DataW.Trod enc Tryd.prog W base sp true 42 v d p) :
    ∃ (a b : Int), v = .agg #[.int .u8 a, .int .u8 b] ∧ (Lit.int .u8 a).wf = true ∧ (Lit.int .u8 b).wf = true := by
  simp only [Value.okWide, Tryd.underlying42] at hv
  obtain ⟨cs, rfl, hsz, _⟩ := hv
  obtain ⟨c0, c1, rfl⟩ := array2 (hsz.trans cells42')
  obtain ⟨fuel, hf⟩ := h
  obtain ⟨xs, m, rfl, hx, _, hn, hel⟩ := DataW.trod_array Tryd.underlying42 hf
  have k0 := hel 0 (by decide)
  have k1 := hel 1 (by decide)
  rw [cells5'] at k0 k1
  match xs, hn with
  | [x0, x1], _ =>
    obtain ⟨a, e0, _, wa⟩ := DataW.trod_int Tryd.underlying5 k0
    obtain ⟨b, e1, _, wb⟩ := DataW.trod_int Tryd.underlying5 k1
    simp [Value.cells] at e0 e1
    subst e0 e1
    exact ⟨a, b, rfl, wa, wb⟩
/-- Counts as an argument. -/
theorem open_counts (hv : Value.okWide Tryd.prog W r b0 36 v) (h : DataW.Trod enc Tryd.prog W base sp true 36 v d p) :
    ∃ (a b c e f : Int), v = .agg #[.int .i64 a, .int .i64 b, .int .i64 c, .int .i64 e, .int .i64 f] := by
  simp only [Value.okWide, Tryd.underlying36] at hv
  obtain ⟨cs, rfl, hsz, _⟩ := hv
  rw [cells36'] at hsz
  obtain ⟨l⟩ := cs
  match l, hsz with
  | [v0, v1, v2, v3, v4], _ =>
    obtain ⟨fuel, hf⟩ := h
    obtain ⟨xs, n, rfl, hx, hl, hxl, hel⟩ := DataW.trod_struct Tryd.underlying36 hf
    match xs, hxl with
    | [y0, y1, y2, y3, y4], _ =>
      simp only [Value.cells] at hel
      have g0 : DataW.trod enc Tryd.prog W base sp true n 3 (([v0, v1, v2, v3, v4].drop 0).take (Tryd.prog.cellsOf 3)) = [y0, y1, y2, y3, y4][0]? := hel 0 _ rfl
      have g1 : DataW.trod enc Tryd.prog W base sp true n 3 (([v0, v1, v2, v3, v4].drop 1).take (Tryd.prog.cellsOf 3)) = [y0, y1, y2, y3, y4][1]? := hel 1 _ rfl
      have g2 : DataW.trod enc Tryd.prog W base sp true n 3 (([v0, v1, v2, v3, v4].drop 2).take (Tryd.prog.cellsOf 3)) = [y0, y1, y2, y3, y4][2]? := hel 2 _ rfl
      have g3 : DataW.trod enc Tryd.prog W base sp true n 3 (([v0, v1, v2, v3, v4].drop 3).take (Tryd.prog.cellsOf 3)) = [y0, y1, y2, y3, y4][3]? := hel 3 _ rfl
      have g4 : DataW.trod enc Tryd.prog W base sp true n 3 (([v0, v1, v2, v3, v4].drop 4).take (Tryd.prog.cellsOf 3)) = [y0, y1, y2, y3, y4][4]? := hel 4 _ rfl
      rw [cells3'] at g0 g1 g2 g3 g4
      obtain ⟨a, e0, _, _⟩ := DataW.trod_int Tryd.underlying3 g0
      obtain ⟨b, e1, _, _⟩ := DataW.trod_int Tryd.underlying3 g1
      obtain ⟨c, e2, _, _⟩ := DataW.trod_int Tryd.underlying3 g2
      obtain ⟨e, e3, _, _⟩ := DataW.trod_int Tryd.underlying3 g3
      obtain ⟨f, e4, _, _⟩ := DataW.trod_int Tryd.underlying3 g4
      simp at e0 e1 e2 e3 e4
      subst e0 e1 e2 e3 e4
      exact ⟨a, b, c, e, f, rfl⟩
end
end Go.Proofs.YtelehpegnjbcaaaDoor
