/-
  A list of entries as an argument; no condition.
-/
import Derived.Test.YtjpanofkikfeoaaGreatDoorFCore
import Derived.Test.YtjpanofkikfeoaaGreatDoorOE1
namespace Go.Proofs.YtjpanofkikfeoaaGreatDoor
open Go.ChangeShapes Go.WideShapes Go.ChangeAt Go.WideMaps Go.WideElems Go.RowKit Go.Joins

theorem cellsEN : Tryz.prog.cellsOf 62 = 6 := by kernel_rfl
theorem cellsRF : Tryz.prog.cellsOf 60 = 3 := by kernel_rfl
theorem cellsU3 : Tryz.prog.cellsOf 58 = 1 := by kernel_rfl
theorem cellsBL : Tryz.prog.cellsOf 4 = 1 := by kernel_rfl
theorem u32_ofE {a : Int} (h : (Lit.int .u32 a).wf = true) : U32 a := by
  simp [Lit.wf, IntKind.min, IntKind.max, IntKind.signed, IntKind.bits] at h
  exact ⟨by omega, by omega⟩
theorem u64_ofE {a : Int} (h : (Lit.int .u64 a).wf = true) : U64 a := by
  simp [Lit.wf, IntKind.min, IntKind.max, IntKind.signed, IntKind.bits] at h
  exact ⟨by omega, by omega⟩
instance : Inhabited EP := ⟨EP.zero⟩
section
variable {H : Type} {enc : TypeId × Value → H} {W : World} {r : Reach} {b0 base : Nat} {sp : Nat → Bool} {v : Value} {d : DataW H} {p : List MemPlace}
set_option maxRecDepth 100000 in
/-- One entry, out of its six cells. -/
theorem open_ent {fuel : Nat} {cs : List Value} {y : DataW H × List MemPlace} (h : DataW.trod enc Tryz.prog W base sp true fuel 62 cs = some y) :
    ∃ c : EP, cs = c.cells ∧ c.ok := by
  obtain ⟨xs, n, rfl, _, hl, hxl, hf⟩ := DataW.trod_struct Tryz.underlying62 h
  rw [cellsEN] at hl
  match xs, hxl, cs, hl with
  | [y0, y1, y2, y3], _, [v0, v1, v2, v3, v4, v5], _ =>
    have g0 : DataW.trod enc Tryz.prog W base sp true n 60 (([v0, v1, v2, v3, v4, v5].drop 0).take (Tryz.prog.cellsOf 60)) = [y0, y1, y2, y3][0]? := hf 0 _ rfl
    have g1 : DataW.trod enc Tryz.prog W base sp true n 35 (([v0, v1, v2, v3, v4, v5].drop 3).take (Tryz.prog.cellsOf 35)) = [y0, y1, y2, y3][1]? := hf 1 _ rfl
    have g2 : DataW.trod enc Tryz.prog W base sp true n 35 (([v0, v1, v2, v3, v4, v5].drop 4).take (Tryz.prog.cellsOf 35)) = [y0, y1, y2, y3][2]? := hf 2 _ rfl
    have g3 : DataW.trod enc Tryz.prog W base sp true n 35 (([v0, v1, v2, v3, v4, v5].drop 5).take (Tryz.prog.cellsOf 35)) = [y0, y1, y2, y3][3]? := hf 3 _ rfl
    simp only [cellsRF, cellsU, List.drop_zero, List.drop_succ_cons, List.take_succ_cons, List.take_zero, List.getElem?_cons_zero, List.getElem?_cons_succ] at g0 g1 g2 g3
    obtain ⟨zs, n1, rfl, _, hl1, hzl, hf1⟩ := DataW.trod_struct Tryz.underlying60 g0
    match zs, hzl with
    | [z0, z1, z2], _ =>
      have i0 : DataW.trod enc Tryz.prog W base sp true n1 3 (([v0, v1, v2].drop 0).take (Tryz.prog.cellsOf 3)) = [z0, z1, z2][0]? := hf1 0 _ rfl
      have i1 : DataW.trod enc Tryz.prog W base sp true n1 58 (([v0, v1, v2].drop 1).take (Tryz.prog.cellsOf 58)) = [z0, z1, z2][1]? := hf1 1 _ rfl
      have i2 : DataW.trod enc Tryz.prog W base sp true n1 4 (([v0, v1, v2].drop 2).take (Tryz.prog.cellsOf 4)) = [z0, z1, z2][2]? := hf1 2 _ rfl
      simp only [cellsI, cellsU3, cellsBL, List.drop_zero, List.drop_succ_cons, List.take_succ_cons, List.take_zero, List.getElem?_cons_zero, List.getElem?_cons_succ] at i0 i1 i2
      obtain ⟨s, e1, _, ws⟩ := DataW.trod_int Tryz.underlying3 i0
      obtain ⟨g, e2, _, wg⟩ := DataW.trod_int Tryz.underlying58 i1
      obtain ⟨k, e3, _⟩ := DataW.trod_bool Tryz.underlying4 i2
      obtain ⟨b, e4, _, wb⟩ := DataW.trod_int Tryz.underlying35 g1
      obtain ⟨c, e5, _, wc⟩ := DataW.trod_int Tryz.underlying35 g2
      obtain ⟨d, e6, _, wd⟩ := DataW.trod_int Tryz.underlying35 g3
      simp only [List.cons.injEq, and_true] at e1 e2 e3 e4 e5 e6
      subst e1 e2 e3 e4 e5 e6
      exact ⟨⟨s, g, k, b, c, d⟩, rfl, ws, u32_ofE wg, u64_ofE wb, u64_ofE wc, u64_ofE wd⟩
set_option maxRecDepth 100000 in
/-- A list of entries, out of its three cells. -/
theorem see_ents {fuel : Nat} {cs : List Value} {y : DataW H × List MemPlace} (h : DataW.trod enc Tryz.prog W base sp true fuel 31 cs = some y) {a0 : Option Addr} {len cap : Nat} (hc : cs = [.slice a0 len cap]) (hs : ∀ a, a0 = some a → a.spot = Option.none ∧ len ≤ cap ∧ cap ≤ 9223372036854775807) :
    ∃ xs : List EP, xs.length = len ∧ SeeE W (.slice a0 len cap) xs ∧ ∀ e ∈ xs, e.ok := by
  subst hc
  rcases Go.Deep.open_slice Tryz.underlying31 h with ⟨hcs, _⟩ | ⟨a, len', cap', m, n, D, Pl, hcs, _, hl, _, hm, _, hall⟩
  · simp at hcs
    obtain ⟨rfl, rfl, rfl⟩ := hcs
    exact ⟨[], rfl, .inl ⟨rfl, rfl⟩, by simp⟩
  · simp at hcs
    obtain ⟨rfl, rfl, rfl⟩ := hcs
    obtain ⟨g, off, spot⟩ := a
    obtain ⟨hs0, hcap⟩ := hs _ rfl
    obtain rfl : spot = Option.none := hs0
    have hlm : len ≤ m := by rw [hm]; split <;> omega
    obtain ⟨c, hc⟩ := Go.Deep.choose_lt (α := EP) (p := fun i c => c.ok ∧ ∀ j u, c.cells[j]? = some u → W.cell? ⟨g, off + i * 6 + j, Option.none⟩ = some u) (n := len) (fun i hi => by
      obtain ⟨cs', h1, h2⟩ := hall i (by omega)
      rw [cellsEN] at h1
      obtain ⟨_, hlen, hcell⟩ := World.cells?_some h1
      obtain ⟨c, rfl, hok⟩ := open_ent h2
      refine ⟨c, hok, fun j u hu => ?_⟩
      have hj : j < 6 := by have := (List.getElem?_eq_some_iff.1 hu).1; simpa [EP.cells] using this
      have := hcell j hj
      rw [core_plus, core_plus] at this
      rw [this, hu])
    have hlen : ((List.range len).map c).length = len := by simp
    refine ⟨(List.range len).map c, hlen, .inr ⟨g, off, cap, by rw [hlen], by rw [hlen]; exact hcap.1, hcap.2, fun j u hu => ?_⟩, fun e he => ?_⟩
    · have hj : j < len * 6 := by have := (List.getElem?_eq_some_iff.1 hu).1; rwa [flatE_len, hlen] at this
      have hq : j / 6 < len := by omega
      have hd : j = j / 6 * 6 + j % 6 := by omega
      have hr : j % 6 < 6 := Nat.mod_lt _ (by decide)
      rw [hd, flatE_at _ _ _ (by rw [hlen]; exact hq) hr] at hu
      have hget : ((List.range len).map c).getD (j / 6) EP.zero = c (j / 6) := by
        rw [List.getD_eq_getElem?_getD, List.getElem?_map, List.getElem?_range hq]; rfl
      rw [hget] at hu
      have := (hc _ hq).2 _ u hu
      rw [show off + j = off + j / 6 * 6 + j % 6 by omega]
      exact this
    · obtain ⟨i, hi, rfl⟩ := List.mem_map.1 he
      exact (hc i (List.mem_range.1 hi)).1
set_option maxRecDepth 100000 in
/-- A list of entries as an argument. -/
theorem open_ents (hv : Value.okWide Tryz.prog W r b0 31 v) (h : DataW.Trod enc Tryz.prog W base sp true 31 v d p) :
    ∃ A len cap xs, v = .slice A len cap ∧ xs.length = len ∧ SeeE W (.slice A len cap) xs ∧ ∀ e ∈ xs, EP.ok e := by
  obtain ⟨a0, len, cap, rfl⟩ := okWide_slice Tryz.underlying31 hv
  obtain ⟨fuel, hf⟩ := h
  have hk : ∀ a, a0 = some a → a.spot = Option.none ∧ len ≤ cap ∧ cap ≤ 9223372036854775807 := fun a ha => by
    subst ha
    simp only [Value.okWide, Tryz.underlying31, Cell.okWide, Cell.ok] at hv
    have h1 := hv.2.1
    have h2 : IntKind.i64.max = 9223372036854775807 := by decide
    exact ⟨hv.2.2.2.1, hv.1, by omega⟩
  obtain ⟨xs, h1, h2, h3⟩ := see_ents hf (a0 := a0) (len := len) (cap := cap) (by simp [Value.cells]) hk
  exact ⟨a0, len, cap, xs, rfl, h1, h2, h3⟩
end
end Go.Proofs.YtjpanofkikfeoaaGreatDoor
