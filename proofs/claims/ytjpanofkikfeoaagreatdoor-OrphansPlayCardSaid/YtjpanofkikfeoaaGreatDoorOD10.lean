/-
  Lists of entries that a cell says; the law's acts as an argument; no condition.
-/
import Derived.Test.YtjpanofkikfeoaaGreatDoorFSto
import Derived.Test.YtjpanofkikfeoaaGreatDoorOFE
import Derived.Test.YtjpanofkikfeoaaGreatDoorOD7
namespace Go.Proofs.YtjpanofkikfeoaaGreatDoor
open Go.ChangeShapes Go.WideShapes Go.ChangeAt Go.WideMaps Go.WideElems Go.RowKit Go.Joins

/-- An act. -/
structure AcP where
  kd : Int
  wh : Int
  A : Option Addr
  n : Nat
  c : Nat
  es : List EP
  s : Sto
  hk : 0 ≤ kd ∧ kd ≤ 255
  hw : (Lit.int .i64 wh).wf = true
instance : Inhabited AcP := ⟨⟨0, 0, Option.none, 0, 0, [], default, by decide, by decide⟩⟩
def AcP.cells (a : AcP) : List Value := [.int .u8 a.kd, .int .i64 a.wh, .slice a.A a.n a.c, .int .u8 a.s.x.k, .int .i64 a.s.x.a, .int .i64 a.s.x.f, .int .u64 a.s.v]
def ActCells (W : World) (g off : Nat) (c : Nat → AcP) (n : Nat) : Prop := ∀ i, i < n →
  (W.cell? ⟨g, off + i * 7, none⟩ = some (.int .u8 (c i).kd) ∧ W.cell? ⟨g, off + i * 7 + 1, none⟩ = some (.int .i64 (c i).wh) ∧ W.cell? ⟨g, off + i * 7 + 2, none⟩ = some (.slice (c i).A (c i).n (c i).c) ∧ W.cell? ⟨g, off + i * 7 + 3, none⟩ = some (.int .u8 (c i).s.x.k) ∧ W.cell? ⟨g, off + i * 7 + 4, none⟩ = some (.int .i64 (c i).s.x.a) ∧ W.cell? ⟨g, off + i * 7 + 5, none⟩ = some (.int .i64 (c i).s.x.f) ∧ W.cell? ⟨g, off + i * 7 + 6, none⟩ = some (.int .u64 (c i).s.v)) ∧
  EntV W (.slice (c i).A (c i).n (c i).c) (c i).es ∧ ∀ e ∈ (c i).es, e.ok
theorem ActCells.below {W W' : World} {g off : Nat} {c : Nat → AcP} {n : Nat} (h : ActCells W g off c n) (hb : Below W.heap.size W W') : ActCells W' g off c n := fun i hi => by
  have k : ∀ {q j : Nat} {v : Value}, W.cell? ⟨q, j, none⟩ = some v → W'.cell? ⟨q, j, none⟩ = some v := fun {q j v} hc => (hb.cell (p := ⟨q, j, none⟩) (World.block_lt_of_cell? W _ hc)).trans hc
  obtain ⟨⟨h0, h1, h2, h3, h4, h5, h6⟩, h7, h8⟩ := h i hi
  exact ⟨⟨k h0, k h1, k h2, k h3, k h4, k h5, k h6⟩, h7.below hb, h8⟩
theorem cellsAC : Tryz.prog.cellsOf 39 = 7 := by kernel_rfl
theorem cellsSE : Tryz.prog.cellsOf 31 = 1 := by kernel_rfl
theorem cellsIN : Tryz.prog.cellsOf 3 = 1 := by kernel_rfl
theorem byte_of {a : Int} (h : (Lit.int .u8 a).wf = true) : 0 ≤ a ∧ a ≤ 255 := by
  simp [Lit.wf, IntKind.min, IntKind.max, IntKind.signed, IntKind.bits] at h
  omega
section
variable {H : Type} {enc : TypeId × Value → H} {W : World} {r : Reach} {b0 base : Nat} {sp : Nat → Bool} {v : Value} {d : DataW H} {p : List MemPlace}
theorem cells_spot {a : Addr} {k : Nat} {cs : List Value} (h : W.cells? base a (k + 1) = some cs) : a.spot = Option.none := by
  obtain ⟨_, hlen, hcell⟩ := World.cells?_some h
  have h0 := hcell 0 (by omega)
  have h1 : cs[0]? = some (cs[0]'(by omega)) := List.getElem?_eq_getElem _
  rw [h1] at h0
  unfold World.cell? at h0
  split at h0
  · split at h0
    · cases h0
    · rename_i hs
      have h2 : (a.add 0).spot = Option.none := by simpa using hs
      simpa [Addr.add] using h2
  · cases h0
set_option maxRecDepth 100000 in
/-- A list of entries in a cell. -/
theorem ents_of {fuel : Nat} {cs : List Value} {y : DataW H × List MemPlace} (h : DataW.trod enc Tryz.prog W base sp true fuel 31 cs = some y) :
    ∃ A n c es, cs = [.slice A n c] ∧ EntV W (.slice A n c) es ∧ ∀ e ∈ es, EP.ok e := by
  rcases Go.Deep.open_slice Tryz.underlying31 h with ⟨hcs, _⟩ | ⟨a, len, cap, m, n, D, Pl, hcs, _, hl, hmx, hm, _, hall⟩
  · exact ⟨Option.none, 0, 0, [], hcs, .inl (.inl ⟨rfl, rfl⟩), by simp⟩
  · by_cases h0 : len = 0
    · subst h0
      exact ⟨some a, 0, cap, [], hcs, .inr ⟨a, cap, rfl, rfl⟩, by simp⟩
    · have hlm : len ≤ m := by rw [hm]; split <;> omega
      obtain ⟨cs', h1, _⟩ := hall 0 (by omega)
      rw [cellsEN] at h1
      have hsp : a.spot = Option.none := by
        have := cells_spot h1
        simpa [Addr.add] using this
      obtain ⟨xs, _, h2, h3⟩ := see_ents h hcs fun a' ha => by
        injection ha with ha
        subst ha
        exact ⟨hsp, hl, by unfold maxLen at hmx; exact hmx⟩
      exact ⟨some a, len, cap, xs, hcs, .inl h2, h3⟩
set_option maxRecDepth 100000 in
/-- One act, out of its seven cells. -/
theorem open_act {fuel : Nat} {cs : List Value} {y : DataW H × List MemPlace} (h : DataW.trod enc Tryz.prog W base sp true fuel 39 cs = some y) :
    ∃ c : AcP, cs = c.cells ∧ EntV W (.slice c.A c.n c.c) c.es ∧ ∀ e ∈ c.es, EP.ok e := by
  obtain ⟨xs, n, rfl, _, hl, hxl, hf⟩ := DataW.trod_struct Tryz.underlying39 h
  rw [cellsAC] at hl
  match xs, hxl, cs, hl with
  | [y0, y1, y2, y3], _, [v0, v1, v2, v3, v4, v5, v6], _ =>
    have g0 : DataW.trod enc Tryz.prog W base sp true n 5 (([v0, v1, v2, v3, v4, v5, v6].drop 0).take (Tryz.prog.cellsOf 5)) = [y0, y1, y2, y3][0]? := hf 0 _ rfl
    have g1 : DataW.trod enc Tryz.prog W base sp true n 3 (([v0, v1, v2, v3, v4, v5, v6].drop 1).take (Tryz.prog.cellsOf 3)) = [y0, y1, y2, y3][1]? := hf 1 _ rfl
    have g2 : DataW.trod enc Tryz.prog W base sp true n 31 (([v0, v1, v2, v3, v4, v5, v6].drop 2).take (Tryz.prog.cellsOf 31)) = [y0, y1, y2, y3][2]? := hf 2 _ rfl
    have g3 : DataW.trod enc Tryz.prog W base sp true n 37 (([v0, v1, v2, v3, v4, v5, v6].drop 3).take (Tryz.prog.cellsOf 37)) = [y0, y1, y2, y3][3]? := hf 3 _ rfl
    simp only [cellsU8, cellsIN, cellsSE, cellsST, List.drop_zero, List.drop_succ_cons, List.take_succ_cons, List.take_zero, List.getElem?_cons_zero, List.getElem?_cons_succ] at g0 g1 g2 g3
    obtain ⟨kd, e0, _, wk⟩ := DataW.trod_int Tryz.underlying5 g0
    obtain ⟨wh, e1, _, ww⟩ := DataW.trod_int Tryz.underlying3 g1
    obtain ⟨A, ln, cc, es, e2, hE, hok⟩ := ents_of g2
    obtain ⟨s, e3⟩ := open_sto g3
    simp only [List.cons.injEq, and_true] at e0 e1 e2 e3
    obtain ⟨a3, a4, a5, a6⟩ := e3
    subst e0 e1 e2 a3 a4 a5 a6
    exact ⟨⟨kd, wh, A, ln, cc, es, s, byte_of wk, ww⟩, rfl, hE, hok⟩
set_option maxRecDepth 100000 in
/-- A list of the law's acts as an argument. -/
theorem open_acts (hv : Value.okWide Tryz.prog W r b0 22 v) (h : DataW.Trod enc Tryz.prog W base sp true 22 v d p) :
    v = .slice Option.none 0 0 ∨ ∃ g off len cap c, v = .slice (some ⟨g, off, Option.none⟩) len cap ∧ ActCells W g off c len := by
  obtain ⟨a0, len, cap, rfl⟩ := okWide_slice Tryz.underlying22 hv
  obtain ⟨fuel, hf⟩ := h
  rcases Go.Deep.open_slice Tryz.underlying22 hf with ⟨hcs, _⟩ | ⟨a, len', cap', m, n, D, Pl, hcs, _, hl, _, hm, _, hall⟩
  · simp [Value.cells] at hcs
    obtain ⟨rfl, rfl, rfl⟩ := hcs
    exact .inl rfl
  · simp [Value.cells] at hcs
    obtain ⟨rfl, rfl, rfl⟩ := hcs
    right
    have hs : a.spot = Option.none := by
      simp only [Value.okWide, Tryz.underlying22, Cell.okWide, Cell.ok] at hv
      exact hv.2.2.2.1
    obtain ⟨g, off, spot⟩ := a
    obtain rfl : spot = Option.none := hs
    have hlm : len ≤ m := by rw [hm]; split <;> omega
    obtain ⟨c, hc⟩ := Go.Deep.choose_lt (α := AcP) (p := fun i c => (∀ j u, c.cells[j]? = some u → W.cell? ⟨g, off + i * 7 + j, Option.none⟩ = some u) ∧ EntV W (.slice c.A c.n c.c) c.es ∧ ∀ e ∈ c.es, EP.ok e) (n := len) (fun i hi => by
      obtain ⟨cs', h1, h2⟩ := hall i (by omega)
      rw [cellsAC] at h1
      obtain ⟨_, hlen, hcell⟩ := World.cells?_some h1
      obtain ⟨c, rfl, hE⟩ := open_act h2
      refine ⟨c, fun j u hu => ?_, hE⟩
      have hj : j < 7 := by have := (List.getElem?_eq_some_iff.1 hu).1; simpa [AcP.cells] using this
      have := hcell j hj
      rw [core_plus, core_plus] at this
      rw [this, hu])
    exact ⟨g, off, len, cap, c, rfl, fun i hi => ⟨⟨by simpa [AcP.cells] using (hc i hi).1 0 _ rfl, (hc i hi).1 1 _ rfl, (hc i hi).1 2 _ rfl, (hc i hi).1 3 _ rfl, (hc i hi).1 4 _ rfl, (hc i hi).1 5 _ rfl, (hc i hi).1 6 _ rfl⟩, (hc i hi).2⟩⟩
end
end Go.Proofs.YtjpanofkikfeoaaGreatDoor
