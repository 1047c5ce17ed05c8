/-
  The law's stores as an argument, and its Begin over whatever list; condition: the table of rooms as laid.
-/
import Derived.Test.YtapcgikamldchaaDoorFCore
import Derived.Test.YtapcgikamldchaaDoorD6
namespace Go.Proofs.YtapcgikamldchaaDoor
open Go.ChangeShapes Go.WideShapes Go.ChangeAt Go.WideMaps Go.WideElems Go.RowKit Go.Joins

section
variable {H : Type} {enc : TypeId × Value → H} {W : World} {r : Reach} {b0 base : Nat} {sp : Nat → Bool} {v : Value} {d : DataW H} {p : List MemPlace}
set_option maxRecDepth 100000 in
/-- One of the law's stores, out of its four cells. -/
theorem open_sto {fuel : Nat} {cs : List Value} {y : DataW H × List MemPlace} (h : DataW.trod enc Tryd.prog W base sp true fuel 44 cs = some y) :
    ∃ c : Sto, cs = [.int .u8 c.x.k, .int .i64 c.x.a, .int .i64 c.x.f, .int .u64 c.v] := by
  obtain ⟨xs, n, rfl, _, hl, hxl, hf⟩ := DataW.trod_struct Tryd.underlying44 h
  rw [cellsST] at hl
  match xs, hxl, cs, hl with
  | [y0, y1], _, [v0, v1, v2, v3], _ =>
    have g0 : DataW.trod enc Tryd.prog W base sp true n 42 (([v0, v1, v2, v3].drop 0).take (Tryd.prog.cellsOf 42)) = [y0, y1][0]? := hf 0 _ rfl
    have g1 : DataW.trod enc Tryd.prog W base sp true n 34 (([v0, v1, v2, v3].drop 3).take (Tryd.prog.cellsOf 34)) = [y0, y1][1]? := hf 1 _ rfl
    simp only [cellsAD, cellsU, List.drop_zero, List.drop_succ_cons, List.take_succ_cons, List.take_zero, List.getElem?_cons_zero, List.getElem?_cons_succ] at g0 g1
    obtain ⟨zs, n1, rfl, _, hl1, hzl, hf1⟩ := DataW.trod_struct Tryd.underlying42 g0
    match zs, hzl with
    | [z0, z1, z2], _ =>
      have i0 : DataW.trod enc Tryd.prog W base sp true n1 40 (([v0, v1, v2].drop 0).take (Tryd.prog.cellsOf 40)) = [z0, z1, z2][0]? := hf1 0 _ rfl
      have i1 : DataW.trod enc Tryd.prog W base sp true n1 3 (([v0, v1, v2].drop 1).take (Tryd.prog.cellsOf 3)) = [z0, z1, z2][1]? := hf1 1 _ rfl
      have i2 : DataW.trod enc Tryd.prog W base sp true n1 3 (([v0, v1, v2].drop 2).take (Tryd.prog.cellsOf 3)) = [z0, z1, z2][2]? := hf1 2 _ rfl
      simp only [cellsKD, cellsI, List.drop_zero, List.drop_succ_cons, List.take_succ_cons, List.take_zero, List.getElem?_cons_zero, List.getElem?_cons_succ] at i0 i1 i2
      obtain ⟨k, e1, _, wkk⟩ := DataW.trod_int Tryd.underlying40 i0
      obtain ⟨a, e2, _, waa⟩ := DataW.trod_int Tryd.underlying3 i1
      obtain ⟨f, e3, _, wff⟩ := DataW.trod_int Tryd.underlying3 i2
      obtain ⟨was, e4, _, ww⟩ := DataW.trod_int Tryd.underlying34 g1
      simp only [List.cons.injEq, and_true] at e1 e2 e3 e4
      subst e1 e2 e3 e4
      exact ⟨⟨⟨k, a, f, wkk, waa, wff⟩, was, ww⟩, rfl⟩
set_option maxRecDepth 100000 in
/-- A list of the law's stores as an argument. -/
theorem open_stos (hv : Value.okWide Tryd.prog W r b0 22 v) (h : DataW.Trod enc Tryd.prog W base sp true 22 v d p) :
    v = .slice Option.none 0 0 ∨ ∃ g off len cap c, v = .slice (some ⟨g, off, Option.none⟩) len cap ∧ StoCells W g off c len := by
  obtain ⟨a0, len, cap, rfl⟩ := okWide_slice Tryd.underlying22 hv
  obtain ⟨fuel, hf⟩ := h
  rcases Go.Deep.open_slice Tryd.underlying22 hf with ⟨hcs, _⟩ | ⟨a, len', cap', m, n, D, Pl, hcs, _, hl, _, hm, _, hall⟩
  · simp [Value.cells] at hcs
    obtain ⟨rfl, rfl, rfl⟩ := hcs
    exact .inl rfl
  · simp [Value.cells] at hcs
    obtain ⟨rfl, rfl, rfl⟩ := hcs
    right
    have hs : a.spot = Option.none := by
      simp only [Value.okWide, Tryd.underlying22, Cell.okWide, Cell.ok] at hv
      exact hv.2.2.2.1
    obtain ⟨g, off, spot⟩ := a
    obtain rfl : spot = Option.none := hs
    have hlm : len ≤ m := by rw [hm]; split <;> omega
    obtain ⟨c, hc⟩ := Go.Deep.choose_lt (α := Sto) (p := fun i c => ∀ j u, [.int .u8 c.x.k, .int .i64 c.x.a, .int .i64 c.x.f, .int .u64 c.v][j]? = some u → W.cell? ⟨g, off + i * 4 + j, Option.none⟩ = some u) (n := len) (fun i hi => by
      obtain ⟨cs', h1, h2⟩ := hall i (by omega)
      rw [cellsST] at h1
      obtain ⟨_, hlen, hcell⟩ := World.cells?_some h1
      obtain ⟨c, rfl⟩ := open_sto h2
      refine ⟨c, fun j u hu => ?_⟩
      have hj : j < 4 := by have := (List.getElem?_eq_some_iff.1 hu).1; simpa using this
      have := hcell j hj
      rw [core_plus, core_plus] at this
      rw [this, hu])
    exact ⟨g, off, len, cap, c, rfl, fun i hi => ⟨by simpa using hc i hi 0 _ rfl, hc i hi 1 _ rfl, hc i hi 2 _ rfl, hc i hi 3 _ rfl⟩⟩
set_option maxRecDepth 100000 in
/-- The law's Begin over whatever list. -/
theorem begin_all (hv : Value.okWide Tryd.prog W r b0 22 v) (h : DataW.Trod enc Tryd.prog W base sp true 22 v d p) (hl : LayM W) :
    ∃ ao nn cap, v = .slice ao nn cap ∧ (nn ≤ 300 → Calls Tryd.prog 8 #[.slice ao nn cap] W fun e W' => ∃ p m b, e = .returned (.agg #[.pointer (some ⟨p, 0, Option.none⟩), .pointer (some ⟨b, 0, Option.none⟩)]) ∧ Both p m b nn W' ∧ W.heap.size ≤ m ∧ m < p ∧ p < b ∧ Below W.heap.size W W') := by
  rcases open_stos hv h with rfl | ⟨g, off, len, cap, c, rfl, hc⟩
  · exact ⟨_, _, _, rfl, fun _ => begin_none W hl⟩
  · refine ⟨_, _, _, rfl, fun hn => (begin_any g off cap len c W hl hc hn).mono ?_⟩
    rintro e W' ⟨p, m, b, he, h1, h2, h3⟩
    exact ⟨p, m, b, he, h1, Nat.le_of_lt h2, h3⟩
end
end Go.Proofs.YtapcgikamldchaaDoor
