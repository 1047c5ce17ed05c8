/-
  The law's acts as an argument; no condition.
-/
import Derived.Test.YtffkjdmpeeagoaaDoorFSto
namespace Go.Proofs.YtffkjdmpeeagoaaDoor
open Go.ChangeShapes Go.WideShapes Go.ChangeAt Go.WideMaps Go.WideElems Go.RowKit Go.Joins

/-- An act. -/
structure AcP where
  kd : Int
  wh : Int
  s : Sto
  hk : 0 ≤ kd ∧ kd ≤ 255
  hw : (Lit.int .u64 wh).wf = true
instance : Inhabited AcP := ⟨⟨0, 0, default, by decide, by decide⟩⟩
def ActCells (W : World) (g off : Nat) (c : Nat → AcP) (n : Nat) : Prop := ∀ i, i < n →
  W.cell? ⟨g, off + i * 6, none⟩ = some (.int .u8 (c i).kd) ∧ W.cell? ⟨g, off + i * 6 + 1, none⟩ = some (.int .u64 (c i).wh) ∧ W.cell? ⟨g, off + i * 6 + 2, none⟩ = some (.int .u8 (c i).s.x.k) ∧ W.cell? ⟨g, off + i * 6 + 3, none⟩ = some (.int .i64 (c i).s.x.a) ∧ W.cell? ⟨g, off + i * 6 + 4, none⟩ = some (.int .i64 (c i).s.x.f) ∧ W.cell? ⟨g, off + i * 6 + 5, none⟩ = some (.int .u64 (c i).s.v)
theorem ActCells.below {W W' : World} {g off : Nat} {c : Nat → AcP} {n : Nat} (h : ActCells W g off c n) (hb : Below W.heap.size W W') : ActCells W' g off c n := fun i hi => by
  have k : ∀ {q j : Nat} {v : Value}, W.cell? ⟨q, j, none⟩ = some v → W'.cell? ⟨q, j, none⟩ = some v := fun {q j v} hc => (hb.cell (p := ⟨q, j, none⟩) (World.block_lt_of_cell? W _ hc)).trans hc
  obtain ⟨h0, h1, h2, h3, h4, h5⟩ := h i hi
  exact ⟨k h0, k h1, k h2, k h3, k h4, k h5⟩
theorem cellsAC : Tryd.prog.cellsOf 39 = 6 := by kernel_rfl
theorem cellsUI : Tryd.prog.cellsOf 31 = 1 := by kernel_rfl
theorem byte_of {a : Int} (h : (Lit.int .u8 a).wf = true) : 0 ≤ a ∧ a ≤ 255 := by
  simp [Lit.wf, IntKind.min, IntKind.max, IntKind.signed, IntKind.bits] at h
  omega
section
variable {H : Type} {enc : TypeId × Value → H} {W : World} {r : Reach} {b0 base : Nat} {sp : Nat → Bool} {v : Value} {d : DataW H} {p : List MemPlace}
set_option maxRecDepth 100000 in
/-- One act, out of its six cells. -/
theorem open_act {fuel : Nat} {cs : List Value} {y : DataW H × List MemPlace} (h : DataW.trod enc Tryd.prog W base sp true fuel 39 cs = some y) :
    ∃ c : AcP, cs = [.int .u8 c.kd, .int .u64 c.wh, .int .u8 c.s.x.k, .int .i64 c.s.x.a, .int .i64 c.s.x.f, .int .u64 c.s.v] := by
  obtain ⟨xs, n, rfl, _, hl, hxl, hf⟩ := DataW.trod_struct Tryd.underlying39 h
  rw [cellsAC] at hl
  match xs, hxl, cs, hl with
  | [y0, y1, y2], _, [v0, v1, v2, v3, v4, v5], _ =>
    have g0 : DataW.trod enc Tryd.prog W base sp true n 5 (([v0, v1, v2, v3, v4, v5].drop 0).take (Tryd.prog.cellsOf 5)) = [y0, y1, y2][0]? := hf 0 _ rfl
    have g1 : DataW.trod enc Tryd.prog W base sp true n 31 (([v0, v1, v2, v3, v4, v5].drop 1).take (Tryd.prog.cellsOf 31)) = [y0, y1, y2][1]? := hf 1 _ rfl
    have g2 : DataW.trod enc Tryd.prog W base sp true n 37 (([v0, v1, v2, v3, v4, v5].drop 2).take (Tryd.prog.cellsOf 37)) = [y0, y1, y2][2]? := hf 2 _ rfl
    simp only [cellsU8, cellsUI, cellsST, List.drop_zero, List.drop_succ_cons, List.take_succ_cons, List.take_zero, List.getElem?_cons_zero, List.getElem?_cons_succ] at g0 g1 g2
    obtain ⟨kd, e0, _, wk⟩ := DataW.trod_int Tryd.underlying5 g0
    obtain ⟨wh, e1, _, ww⟩ := DataW.trod_int Tryd.underlying31 g1
    obtain ⟨s, e2⟩ := open_sto g2
    simp only [List.cons.injEq, and_true] at e0 e1 e2
    obtain ⟨a2, a3, a4, a5⟩ := e2
    subst e0 e1 a2 a3 a4 a5
    exact ⟨⟨kd, wh, s, byte_of wk, ww⟩, rfl⟩
set_option maxRecDepth 100000 in
/-- A list of the law's acts as an argument. -/
theorem open_acts (hv : Value.okWide Tryd.prog W r b0 22 v) (h : DataW.Trod enc Tryd.prog W base sp true 22 v d p) :
    v = .slice Option.none 0 0 ∨ ∃ g off len cap c, v = .slice (some ⟨g, off, Option.none⟩) len cap ∧ ActCells W g off c len := by
  obtain ⟨a0, len, cap, rfl⟩ := okWide_slice Tryd.underlying22 hv
  obtain ⟨fuel, hf⟩ := h
  rcases Go.Deep.open_slice Tryd.underlying22 hf with ⟨hcs, _⟩ | ⟨a, len', cap', m, n, D, Pl, hcs, _, hl, _, hm, _, hall⟩
  · simp [Value.cells] at hcs
    obtain ⟨rfl, rfl, rfl⟩ := hcs
    exact .inl rfl
  · simp [Value.cells] at hcs
    obtain ⟨rfl, rfl, rfl⟩ := hcs
    right
    have hs : a.spot = Option.none := by
      simp only [Value.okWide, Tryd.underlying22, Cell.okWide, Cell.ok] at hv
      exact hv.2.2.2.1
    obtain ⟨g, off, spot⟩ := a
    obtain rfl : spot = Option.none := hs
    have hlm : len ≤ m := by rw [hm]; split <;> omega
    obtain ⟨c, hc⟩ := Go.Deep.choose_lt (α := AcP) (p := fun i c => ∀ j u, [.int .u8 c.kd, .int .u64 c.wh, .int .u8 c.s.x.k, .int .i64 c.s.x.a, .int .i64 c.s.x.f, .int .u64 c.s.v][j]? = some u → W.cell? ⟨g, off + i * 6 + j, Option.none⟩ = some u) (n := len) (fun i hi => by
      obtain ⟨cs', h1, h2⟩ := hall i (by omega)
      rw [cellsAC] at h1
      obtain ⟨_, hlen, hcell⟩ := World.cells?_some h1
      obtain ⟨c, rfl⟩ := open_act h2
      refine ⟨c, fun j u hu => ?_⟩
      have hj : j < 6 := by have := (List.getElem?_eq_some_iff.1 hu).1; simpa using this
      have := hcell j hj
      rw [core_plus, core_plus] at this
      rw [this, hu])
    exact ⟨g, off, len, cap, c, rfl, fun i hi => ⟨by simpa using hc i hi 0 _ rfl, hc i hi 1 _ rfl, hc i hi 2 _ rfl, hc i hi 3 _ rfl, hc i hi 4 _ rfl, hc i hi 5 _ rfl⟩⟩
end
end Go.Proofs.YtffkjdmpeeagoaaDoor
