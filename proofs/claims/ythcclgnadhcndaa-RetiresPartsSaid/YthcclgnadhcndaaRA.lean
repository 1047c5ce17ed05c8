/-
  What the rows' proofs share: lists of entries, of bools, the law's acts as arguments; no condition.
-/
import Derived.Test.YthcclgnadhcndaaRB
import Derived.ProofKit
import Derived.OpenShut
import Derived.Deep.Slices
import Derived.Deep.Grids
namespace Go.Proofs.Ythcclgnadhcndaa
open Go.ChangeShapes Go.WideShapes Go.ChangeAt Go.WideMaps Go.WideElems Go.RowKit

theorem own : ownKnob Try.prog.godebug = Option.none := by kernel_rfl
theorem laid_out : laidOutB Try.prog = true := by kernel_rfl
theorem core_plus (g o j : Nat) : (⟨g, o, Option.none⟩ : Addr).add j = ⟨g, o + j, Option.none⟩ := by unfold Addr.add; split <;> simp_all
theorem cellsI : Try.prog.cellsOf 3 = 1 := by kernel_rfl
theorem cellsU : Try.prog.cellsOf 32 = 1 := by kernel_rfl
theorem cellsEN : Try.prog.cellsOf 34 = 6 := by kernel_rfl
theorem cellsRF : Try.prog.cellsOf 31 = 3 := by kernel_rfl
theorem cellsU3 : Try.prog.cellsOf 29 = 1 := by kernel_rfl
theorem cellsBL : Try.prog.cellsOf 4 = 1 := by kernel_rfl
theorem cellsSB : Try.prog.cellsOf 35 = 1 := by kernel_rfl
theorem cellsAC : Try.prog.cellsOf 37 = 9 := by kernel_rfl
/-- An act. -/
structure AcR where
  sw : Bool
  e : EP
  A : Option Addr
  n : Nat
  c : Nat
  bs : List Bool
  b : Int
instance : Inhabited AcR := ⟨⟨false, EP.zero, Option.none, 0, 0, [], 0⟩⟩
def AcR.cells (a : AcR) : List Value := [.bool a.sw, .int .i64 a.e.s, .int .u32 a.e.g, .bool a.e.k, .int .u64 a.e.b, .int .u64 a.e.c, .int .u64 a.e.d, .slice a.A a.n a.c, .int .u64 a.b]
def ActR (W : World) (g off : Nat) (f : Nat → AcR) (n : Nat) : Prop := ∀ i, i < n → (∀ j u, (f i).cells[j]? = some u → W.cell? ⟨g, off + i * 9 + j, Option.none⟩ = some u) ∧ BoolV W (.slice (f i).A (f i).n (f i).c) (f i).bs ∧ (f i).e.ok
theorem u32_ofE {a : Int} (h : (Lit.int .u32 a).wf = true) : U32 a := by
  simp [Lit.wf, IntKind.min, IntKind.max, IntKind.signed, IntKind.bits] at h
  exact ⟨by omega, by omega⟩
theorem u64_ofE {a : Int} (h : (Lit.int .u64 a).wf = true) : U64 a := by
  simp [Lit.wf, IntKind.min, IntKind.max, IntKind.signed, IntKind.bits] at h
  exact ⟨by omega, by omega⟩
instance : Inhabited EP := ⟨EP.zero⟩
section
variable {H : Type} {enc : TypeId × Value → H} {W : World} {r : Reach} {b0 base : Nat} {sp : Nat → Bool} {v : Value} {d : DataW H} {p : List MemPlace}
set_option maxRecDepth 100000 in
/-- One entry, out of its six cells. -/
theorem open_ent {fuel : Nat} {cs : List Value} {y : DataW H × List MemPlace} (h : DataW.trod enc Try.prog W base sp true fuel 34 cs = some y) :
    ∃ c : EP, cs = c.cells ∧ c.ok := by
  obtain ⟨xs, n, rfl, _, hl, hxl, hf⟩ := DataW.trod_struct Try.underlying34 h
  rw [cellsEN] at hl
  match xs, hxl, cs, hl with
  | [y0, y1, y2, y3], _, [v0, v1, v2, v3, v4, v5], _ =>
    have g0 : DataW.trod enc Try.prog W base sp true n 31 (([v0, v1, v2, v3, v4, v5].drop 0).take (Try.prog.cellsOf 31)) = [y0, y1, y2, y3][0]? := hf 0 _ rfl
    have g1 : DataW.trod enc Try.prog W base sp true n 32 (([v0, v1, v2, v3, v4, v5].drop 3).take (Try.prog.cellsOf 32)) = [y0, y1, y2, y3][1]? := hf 1 _ rfl
    have g2 : DataW.trod enc Try.prog W base sp true n 32 (([v0, v1, v2, v3, v4, v5].drop 4).take (Try.prog.cellsOf 32)) = [y0, y1, y2, y3][2]? := hf 2 _ rfl
    have g3 : DataW.trod enc Try.prog W base sp true n 32 (([v0, v1, v2, v3, v4, v5].drop 5).take (Try.prog.cellsOf 32)) = [y0, y1, y2, y3][3]? := hf 3 _ rfl
    simp only [cellsRF, cellsU, List.drop_zero, List.drop_succ_cons, List.take_succ_cons, List.take_zero, List.getElem?_cons_zero, List.getElem?_cons_succ] at g0 g1 g2 g3
    obtain ⟨zs, n1, rfl, _, hl1, hzl, hf1⟩ := DataW.trod_struct Try.underlying31 g0
    match zs, hzl with
    | [z0, z1, z2], _ =>
      have i0 : DataW.trod enc Try.prog W base sp true n1 3 (([v0, v1, v2].drop 0).take (Try.prog.cellsOf 3)) = [z0, z1, z2][0]? := hf1 0 _ rfl
      have i1 : DataW.trod enc Try.prog W base sp true n1 29 (([v0, v1, v2].drop 1).take (Try.prog.cellsOf 29)) = [z0, z1, z2][1]? := hf1 1 _ rfl
      have i2 : DataW.trod enc Try.prog W base sp true n1 4 (([v0, v1, v2].drop 2).take (Try.prog.cellsOf 4)) = [z0, z1, z2][2]? := hf1 2 _ rfl
      simp only [cellsI, cellsU3, cellsBL, List.drop_zero, List.drop_succ_cons, List.take_succ_cons, List.take_zero, List.getElem?_cons_zero, List.getElem?_cons_succ] at i0 i1 i2
      obtain ⟨s, e1, _, ws⟩ := DataW.trod_int Try.underlying3 i0
      obtain ⟨g, e2, _, wg⟩ := DataW.trod_int Try.underlying29 i1
      obtain ⟨k, e3, _⟩ := DataW.trod_bool Try.underlying4 i2
      obtain ⟨b, e4, _, wb⟩ := DataW.trod_int Try.underlying32 g1
      obtain ⟨c, e5, _, wc⟩ := DataW.trod_int Try.underlying32 g2
      obtain ⟨d, e6, _, wd⟩ := DataW.trod_int Try.underlying32 g3
      simp only [List.cons.injEq, and_true] at e1 e2 e3 e4 e5 e6
      subst e1 e2 e3 e4 e5 e6
      exact ⟨⟨s, g, k, b, c, d⟩, rfl, ws, u32_ofE wg, u64_ofE wb, u64_ofE wc, u64_ofE wd⟩
set_option maxRecDepth 100000 in
/-- A list of entries, out of its three cells. -/
theorem see_ents {fuel : Nat} {cs : List Value} {y : DataW H × List MemPlace} (h : DataW.trod enc Try.prog W base sp true fuel 26 cs = some y) {a0 : Option Addr} {len cap : Nat} (hc : cs = [.slice a0 len cap]) (hs : ∀ a, a0 = some a → a.spot = Option.none ∧ len ≤ cap ∧ cap ≤ 9223372036854775807) :
    ∃ xs : List EP, xs.length = len ∧ SeeE W (.slice a0 len cap) xs ∧ ∀ e ∈ xs, e.ok := by
  subst hc
  rcases Go.Deep.open_slice Try.underlying26 h with ⟨hcs, _⟩ | ⟨a, len', cap', m, n, D, Pl, hcs, _, hl, _, hm, _, hall⟩
  · simp at hcs
    obtain ⟨rfl, rfl, rfl⟩ := hcs
    exact ⟨[], rfl, .inl ⟨rfl, rfl⟩, by simp⟩
  · simp at hcs
    obtain ⟨rfl, rfl, rfl⟩ := hcs
    obtain ⟨g, off, spot⟩ := a
    obtain ⟨hs0, hcap⟩ := hs _ rfl
    obtain rfl : spot = Option.none := hs0
    have hlm : len ≤ m := by rw [hm]; split <;> omega
    obtain ⟨c, hc⟩ := Go.Deep.choose_lt (α := EP) (p := fun i c => c.ok ∧ ∀ j u, c.cells[j]? = some u → W.cell? ⟨g, off + i * 6 + j, Option.none⟩ = some u) (n := len) (fun i hi => by
      obtain ⟨cs', h1, h2⟩ := hall i (by omega)
      rw [cellsEN] at h1
      obtain ⟨_, hlen, hcell⟩ := World.cells?_some h1
      obtain ⟨c, rfl, hok⟩ := open_ent h2
      refine ⟨c, hok, fun j u hu => ?_⟩
      have hj : j < 6 := by have := (List.getElem?_eq_some_iff.1 hu).1; simpa [EP.cells] using this
      have := hcell j hj
      rw [core_plus, core_plus] at this
      rw [this, hu])
    have hlen : ((List.range len).map c).length = len := by simp
    refine ⟨(List.range len).map c, hlen, .inr ⟨g, off, cap, by rw [hlen], by rw [hlen]; exact hcap.1, hcap.2, fun j u hu => ?_⟩, fun e he => ?_⟩
    · have hj : j < len * 6 := by have := (List.getElem?_eq_some_iff.1 hu).1; rwa [flatE_len, hlen] at this
      have hq : j / 6 < len := by omega
      have hd : j = j / 6 * 6 + j % 6 := by omega
      have hr : j % 6 < 6 := Nat.mod_lt _ (by decide)
      rw [hd, flatE_at _ _ _ (by rw [hlen]; exact hq) hr] at hu
      have hget : ((List.range len).map c).getD (j / 6) EP.zero = c (j / 6) := by
        rw [List.getD_eq_getElem?_getD, List.getElem?_map, List.getElem?_range hq]; rfl
      rw [hget] at hu
      have := (hc _ hq).2 _ u hu
      rw [show off + j = off + j / 6 * 6 + j % 6 by omega]
      exact this
    · obtain ⟨i, hi, rfl⟩ := List.mem_map.1 he
      exact (hc i (List.mem_range.1 hi)).1
set_option maxRecDepth 100000 in
/-- A list of entries as an argument. -/
theorem open_ents (hv : Value.okWide Try.prog W r b0 26 v) (h : DataW.Trod enc Try.prog W base sp true 26 v d p) :
    ∃ A len cap xs, v = .slice A len cap ∧ xs.length = len ∧ SeeE W (.slice A len cap) xs ∧ ∀ e ∈ xs, EP.ok e := by
  obtain ⟨a0, len, cap, rfl⟩ := okWide_slice Try.underlying26 hv
  obtain ⟨fuel, hf⟩ := h
  have hk : ∀ a, a0 = some a → a.spot = Option.none ∧ len ≤ cap ∧ cap ≤ 9223372036854775807 := fun a ha => by
    subst ha
    simp only [Value.okWide, Try.underlying26, Cell.okWide, Cell.ok] at hv
    have h1 := hv.2.1
    have h2 : IntKind.i64.max = 9223372036854775807 := by decide
    exact ⟨hv.2.2.2.1, hv.1, by omega⟩
  obtain ⟨xs, h1, h2, h3⟩ := see_ents hf (a0 := a0) (len := len) (cap := cap) (by simp [Value.cells]) hk
  exact ⟨a0, len, cap, xs, rfl, h1, h2, h3⟩
set_option maxRecDepth 100000 in
/-- An entry as an argument. -/
theorem open_ent_arg (hv : Value.okWide Try.prog W r b0 34 v) (h : DataW.Trod enc Try.prog W base sp true 34 v d p) :
    ∃ s g b c e k, v = .agg #[.int .i64 s, .int .u32 g, .bool k, .int .u64 b, .int .u64 c, .int .u64 e] ∧ EP.ok ⟨s, g, k, b, c, e⟩ := by
  obtain ⟨cs, rfl, _⟩ := okWide_struct Try.underlying34 hv
  obtain ⟨fuel, hf⟩ := h
  obtain ⟨⟨s, g, k, b, c, e⟩, hcs, hok⟩ := open_ent hf
  refine ⟨s, g, b, c, e, k, ?_, hok⟩
  simp only [Value.cells, EP.cells] at hcs
  have : cs = #[.int .i64 s, .int .u32 g, .bool k, .int .u64 b, .int .u64 c, .int .u64 e] := by
    apply Array.toList_inj.1
    simpa using hcs
  rw [this]
set_option maxRecDepth 100000 in
/-- A list of bools in a cell. -/
theorem bools_of {fuel : Nat} {cs : List Value} {y : DataW H × List MemPlace} (h : DataW.trod enc Try.prog W base (fun _ => true) true fuel 35 cs = some y) :
    ∃ A n c bs, cs = [.slice A n c] ∧ BoolV W (.slice A n c) bs := by
  rcases Go.Deep.open_bools Try.underlying35 Try.underlying4 cellsBL h with ⟨hcs, _⟩ | ⟨a, len, cap, B, hcs, _, hl, hm, _, hcell⟩
  · exact ⟨Option.none, 0, 0, [], hcs, .inl (.inl ⟨rfl, rfl⟩)⟩
  · by_cases h0 : len = 0
    · subst h0
      exact ⟨some a, 0, cap, [], hcs, .inr ⟨a, cap, rfl, rfl⟩⟩
    · have hsp : a.spot = Option.none := by
        have h0 := hcell 0 (by omega)
        unfold World.cell? at h0
        split at h0
        · split at h0
          · cases h0
          · rename_i hs
            have h2 : (a.add 0).spot = Option.none := by simpa using hs
            simpa [Addr.add] using h2
        · cases h0
      obtain ⟨g, off, spot⟩ := a
      obtain rfl : spot = Option.none := hsp
      have hlen : ((List.range len).map B).length = len := by simp
      refine ⟨some ⟨g, off, Option.none⟩, len, cap, (List.range len).map B, hcs, .inl (.inr ⟨g, off, cap, by rw [hlen], by rw [hlen]; exact hl, by unfold maxLen at hm; exact hm, fun j u hj => ?_⟩)⟩
      have hlt : j < len := by
        have := (List.getElem?_eq_some_iff.1 hj).1
        rwa [bls_len, hlen] at this
      have := hcell j (by omega)
      rw [core_plus] at this
      rw [this, ← hj]
      simp [bls, hlt]
set_option maxRecDepth 100000 in
/-- A list of bools as an argument. -/
theorem open_boolV (hv : Value.okWide Try.prog W r b0 35 v) (h : DataW.Trod enc Try.prog W base (fun _ => true) true 35 v d p) :
    ∃ A n c bs, v = .slice A n c ∧ BoolV W (.slice A n c) bs := by
  obtain ⟨a0, len, cap, rfl⟩ := okWide_slice Try.underlying35 hv
  obtain ⟨fuel, hf⟩ := h
  obtain ⟨A, n, c, bs, hcs, hb⟩ := bools_of hf
  simp [Value.cells] at hcs
  obtain ⟨rfl, rfl, rfl⟩ := hcs
  exact ⟨_, _, _, _, rfl, hb⟩
set_option maxRecDepth 100000 in
/-- One act, out of its nine cells. -/
theorem open_act {fuel : Nat} {cs : List Value} {y : DataW H × List MemPlace} (h : DataW.trod enc Try.prog W base (fun _ => true) true fuel 37 cs = some y) :
    ∃ c : AcR, cs = c.cells ∧ BoolV W (.slice c.A c.n c.c) c.bs ∧ c.e.ok := by
  obtain ⟨xs, n, rfl, _, hl, hxl, hf⟩ := DataW.trod_struct Try.underlying37 h
  rw [cellsAC] at hl
  match xs, hxl, cs, hl with
  | [y0, y1, y2, y3], _, [v0, v1, v2, v3, v4, v5, v6, v7, v8], _ =>
    have g0 : DataW.trod enc Try.prog W base (fun _ => true) true n 4 (([v0, v1, v2, v3, v4, v5, v6, v7, v8].drop 0).take (Try.prog.cellsOf 4)) = [y0, y1, y2, y3][0]? := hf 0 _ rfl
    have g1 : DataW.trod enc Try.prog W base (fun _ => true) true n 34 (([v0, v1, v2, v3, v4, v5, v6, v7, v8].drop 1).take (Try.prog.cellsOf 34)) = [y0, y1, y2, y3][1]? := hf 1 _ rfl
    have g2 : DataW.trod enc Try.prog W base (fun _ => true) true n 35 (([v0, v1, v2, v3, v4, v5, v6, v7, v8].drop 7).take (Try.prog.cellsOf 35)) = [y0, y1, y2, y3][2]? := hf 2 _ rfl
    have g3 : DataW.trod enc Try.prog W base (fun _ => true) true n 32 (([v0, v1, v2, v3, v4, v5, v6, v7, v8].drop 8).take (Try.prog.cellsOf 32)) = [y0, y1, y2, y3][3]? := hf 3 _ rfl
    simp only [cellsBL, cellsEN, cellsSB, cellsU, List.drop_zero, List.drop_succ_cons, List.take_succ_cons, List.take_zero, List.getElem?_cons_zero, List.getElem?_cons_succ] at g0 g1 g2 g3
    obtain ⟨sw, e0, _⟩ := DataW.trod_bool Try.underlying4 g0
    obtain ⟨e, e1, hek⟩ := open_ent g1
    obtain ⟨A, ln, cc, bs, e2, hB⟩ := bools_of g2
    obtain ⟨b, e3, _, _⟩ := DataW.trod_int Try.underlying32 g3
    simp only [EP.cells, List.cons.injEq, and_true] at e0 e1 e2 e3
    obtain ⟨a1, a2, a3, a4, a5, a6⟩ := e1
    subst e0 a1 a2 a3 a4 a5 a6 e2 e3
    exact ⟨⟨sw, e, A, ln, cc, bs, b⟩, rfl, hB, hek⟩
set_option maxRecDepth 100000 in
/-- A list of the law's acts as an argument. -/
theorem open_acts (hv : Value.okWide Try.prog W r b0 22 v) (h : DataW.Trod enc Try.prog W base (fun _ => true) true 22 v d p) :
    ∃ (A : Option Addr) (n c : Nat) (f : Nat → AcR), v = .slice A n c ∧ (0 < n → ∃ g off, A = some ⟨g, off, Option.none⟩ ∧ n ≤ c ∧ c ≤ 9223372036854775807 ∧ ActR W g off f n) := by
  obtain ⟨a0, len, cap, rfl⟩ := okWide_slice Try.underlying22 hv
  obtain ⟨fuel, hf⟩ := h
  rcases Go.Deep.open_slice Try.underlying22 hf with ⟨hcs, _⟩ | ⟨a, len', cap', m, n, D, Pl, hcs, _, hl, hmx, hm, _, hall⟩
  · simp [Value.cells] at hcs
    obtain ⟨rfl, rfl, rfl⟩ := hcs
    exact ⟨_, 0, 0, fun _ => ⟨false, EP.zero, Option.none, 0, 0, [], 0⟩, rfl, fun h => absurd h (by decide)⟩
  · simp [Value.cells] at hcs
    obtain ⟨rfl, rfl, rfl⟩ := hcs
    have hs : a.spot = Option.none := by
      simp only [Value.okWide, Try.underlying22, Cell.okWide, Cell.ok] at hv
      exact hv.2.2.2.1
    obtain ⟨g, off, spot⟩ := a
    obtain rfl : spot = Option.none := hs
    have hlm : len ≤ m := by rw [hm]; split <;> omega
    obtain ⟨c, hc⟩ := Go.Deep.choose_lt (α := AcR) (p := fun i c => (∀ j u, c.cells[j]? = some u → W.cell? ⟨g, off + i * 9 + j, Option.none⟩ = some u) ∧ BoolV W (.slice c.A c.n c.c) c.bs ∧ c.e.ok) (n := len) (fun i hi => by
      obtain ⟨cs', h1, h2⟩ := hall i (by omega)
      rw [cellsAC] at h1
      obtain ⟨_, hlen, hcell⟩ := World.cells?_some h1
      obtain ⟨c, rfl, hE⟩ := open_act h2
      refine ⟨c, fun j u hu => ?_, hE⟩
      have hj : j < 9 := by have := (List.getElem?_eq_some_iff.1 hu).1; simpa [AcR.cells] using this
      have := hcell j hj
      rw [core_plus, core_plus] at this
      rw [this, hu])
    exact ⟨_, len, cap, c, rfl, fun _ => ⟨g, off, rfl, hl, by unfold maxLen at hmx; exact hmx, fun i hi => hc i hi⟩⟩
end
end Go.Proofs.Ythcclgnadhcndaa
