/-
  Lists of threads, and what moves, as arguments; no condition.
-/
import Derived.Test.YtapcgikamldchaaDoorFCore
import Derived.Test.YtapcgikamldchaaDoorSE1
namespace Go.Proofs.YtapcgikamldchaaDoor
open Go.ChangeShapes Go.WideShapes Go.ChangeAt Go.WideMaps Go.WideElems Go.RowKit Go.Joins

theorem cellsTHR : Tryd.prog.cellsOf 52 = 10 := by kernel_rfl
theorem cellsHZ : Tryd.prog.cellsOf 50 = 3 := by kernel_rfl
theorem u64_ofH {a : Int} (h : (Lit.int .u64 a).wf = true) : U64 a := by
  simp [Lit.wf, IntKind.min, IntKind.max, IntKind.signed, IntKind.bits] at h
  exact ⟨by omega, by omega⟩
theorem u8_ofH {a : Int} (h : (Lit.int .u8 a).wf = true) : 0 ≤ a ∧ a < 256 := by
  simp [Lit.wf, IntKind.min, IntKind.max, IntKind.signed, IntKind.bits] at h
  exact ⟨by omega, by omega⟩
instance : Inhabited TH := ⟨TH.zero⟩
section
variable {H : Type} {enc : TypeId × Value → H} {W : World} {r : Reach} {b0 base : Nat} {sp : Nat → Bool} {v : Value} {d : DataW H} {p : List MemPlace}
set_option maxRecDepth 100000 in
/-- Three words in a row. -/
theorem open_haz {fuel : Nat} {u v w : Value} {y : DataW H × List MemPlace} (h : DataW.trod enc Tryd.prog W base sp true fuel 50 [u, v, w] = some y) :
    ∃ a b c : Int, u = .int .u64 a ∧ v = .int .u64 b ∧ w = .int .u64 c ∧ U64 a ∧ U64 b ∧ U64 c := by
  obtain ⟨xs, m, rfl, hx, _, hn, hel⟩ := DataW.trod_array Tryd.underlying50 h
  have k0 := hel 0 (by decide)
  have k1 := hel 1 (by decide)
  have k2 := hel 2 (by decide)
  rw [cellsU] at k0 k1 k2
  match xs, hn with
  | [x0, x1, x2], _ =>
    obtain ⟨a, e0, _, wa⟩ := DataW.trod_int Tryd.underlying34 k0
    obtain ⟨b, e1, _, wb⟩ := DataW.trod_int Tryd.underlying34 k1
    obtain ⟨c, e2, _, wc⟩ := DataW.trod_int Tryd.underlying34 k2
    simp at e0 e1 e2
    exact ⟨a, b, c, e0, e1, e2, u64_ofH wa, u64_ofH wb, u64_ofH wc⟩
set_option maxRecDepth 100000 in
/-- One thread, out of its ten cells. -/
theorem open_thr {fuel : Nat} {cs : List Value} {y : DataW H × List MemPlace} (h : DataW.trod enc Tryd.prog W base sp true fuel 52 cs = some y) :
    ∃ c : TH, cs = c.cells ∧ c.ok := by
  obtain ⟨xs, n, rfl, _, hl, hxl, hf⟩ := DataW.trod_struct Tryd.underlying52 h
  rw [cellsTHR] at hl
  match xs, hxl, cs, hl with
  | [y0, y1, y2, y3, y4, y5, y6, y7], _, [v0, v1, v2, v3, v4, v5, v6, v7, v8, v9], _ =>
    have g0 : DataW.trod enc Tryd.prog W base sp true n 34 (([v0, v1, v2, v3, v4, v5, v6, v7, v8, v9].drop 0).take (Tryd.prog.cellsOf 34)) = [y0, y1, y2, y3, y4, y5, y6, y7][0]? := hf 0 _ rfl
    have g1 : DataW.trod enc Tryd.prog W base sp true n 34 (([v0, v1, v2, v3, v4, v5, v6, v7, v8, v9].drop 1).take (Tryd.prog.cellsOf 34)) = [y0, y1, y2, y3, y4, y5, y6, y7][1]? := hf 1 _ rfl
    have g2 : DataW.trod enc Tryd.prog W base sp true n 34 (([v0, v1, v2, v3, v4, v5, v6, v7, v8, v9].drop 2).take (Tryd.prog.cellsOf 34)) = [y0, y1, y2, y3, y4, y5, y6, y7][2]? := hf 2 _ rfl
    have g3 : DataW.trod enc Tryd.prog W base sp true n 34 (([v0, v1, v2, v3, v4, v5, v6, v7, v8, v9].drop 3).take (Tryd.prog.cellsOf 34)) = [y0, y1, y2, y3, y4, y5, y6, y7][3]? := hf 3 _ rfl
    have g4 : DataW.trod enc Tryd.prog W base sp true n 34 (([v0, v1, v2, v3, v4, v5, v6, v7, v8, v9].drop 4).take (Tryd.prog.cellsOf 34)) = [y0, y1, y2, y3, y4, y5, y6, y7][4]? := hf 4 _ rfl
    have g5 : DataW.trod enc Tryd.prog W base sp true n 34 (([v0, v1, v2, v3, v4, v5, v6, v7, v8, v9].drop 5).take (Tryd.prog.cellsOf 34)) = [y0, y1, y2, y3, y4, y5, y6, y7][5]? := hf 5 _ rfl
    have g6 : DataW.trod enc Tryd.prog W base sp true n 34 (([v0, v1, v2, v3, v4, v5, v6, v7, v8, v9].drop 6).take (Tryd.prog.cellsOf 34)) = [y0, y1, y2, y3, y4, y5, y6, y7][6]? := hf 6 _ rfl
    have g7 : DataW.trod enc Tryd.prog W base sp true n 50 (([v0, v1, v2, v3, v4, v5, v6, v7, v8, v9].drop 7).take (Tryd.prog.cellsOf 50)) = [y0, y1, y2, y3, y4, y5, y6, y7][7]? := hf 7 _ rfl
    simp only [cellsU, cellsHZ, List.drop_zero, List.drop_succ_cons, List.take_succ_cons, List.take_zero, List.getElem?_cons_zero, List.getElem?_cons_succ] at g0 g1 g2 g3 g4 g5 g6 g7
    obtain ⟨a0, e0, _, w0⟩ := DataW.trod_int Tryd.underlying34 g0
    obtain ⟨a1, e1, _, w1⟩ := DataW.trod_int Tryd.underlying34 g1
    obtain ⟨a2, e2, _, w2⟩ := DataW.trod_int Tryd.underlying34 g2
    obtain ⟨a3, e3, _, w3⟩ := DataW.trod_int Tryd.underlying34 g3
    obtain ⟨a4, e4, _, w4⟩ := DataW.trod_int Tryd.underlying34 g4
    obtain ⟨a5, e5, _, w5⟩ := DataW.trod_int Tryd.underlying34 g5
    obtain ⟨a6, e6, _, w6⟩ := DataW.trod_int Tryd.underlying34 g6
    obtain ⟨a7, a8, a9, rfl, rfl, rfl, w7, w8, w9⟩ := open_haz g7
    simp only [List.cons.injEq, and_true] at e0 e1 e2 e3 e4 e5 e6
    subst e0 e1 e2 e3 e4 e5 e6
    refine ⟨⟨a0, a1, a2, a3, a4, a5, a6, a7, a8, a9⟩, rfl, fun f hf => ?_⟩
    rcases lt_ten hf with rfl | rfl | rfl | rfl | rfl | rfl | rfl | rfl | rfl | rfl
    · exact u64_ofH w0
    · exact u64_ofH w1
    · exact u64_ofH w2
    · exact u64_ofH w3
    · exact u64_ofH w4
    · exact u64_ofH w5
    · exact u64_ofH w6
    · exact w7
    · exact w8
    · exact w9
set_option maxRecDepth 100000 in
/-- A list of threads, out of its three cells. -/
theorem see_ths {fuel : Nat} {cs : List Value} {y : DataW H × List MemPlace} (h : DataW.trod enc Tryd.prog W base sp true fuel 33 cs = some y) {a0 : Option Addr} {len cap : Nat} (hc : cs = [.slice a0 len cap]) (hs : ∀ a, a0 = some a → a.spot = Option.none ∧ len ≤ cap ∧ cap ≤ 9223372036854775807) :
    ∃ xs : List TH, xs.length = len ∧ SeeH W (.slice a0 len cap) xs ∧ ∀ e ∈ xs, e.ok := by
  subst hc
  rcases Go.Deep.open_slice Tryd.underlying33 h with ⟨hcs, _⟩ | ⟨a, len', cap', m, n, D, Pl, hcs, _, hl, _, hm, _, hall⟩
  · simp at hcs
    obtain ⟨rfl, rfl, rfl⟩ := hcs
    exact ⟨[], rfl, .inl ⟨rfl, rfl⟩, by simp⟩
  · simp at hcs
    obtain ⟨rfl, rfl, rfl⟩ := hcs
    obtain ⟨g, off, spot⟩ := a
    obtain ⟨hs0, hcap⟩ := hs _ rfl
    obtain rfl : spot = Option.none := hs0
    have hlm : len ≤ m := by rw [hm]; split <;> omega
    obtain ⟨c, hc⟩ := Go.Deep.choose_lt (α := TH) (p := fun i c => c.ok ∧ ∀ j u, c.cells[j]? = some u → W.cell? ⟨g, off + i * 10 + j, Option.none⟩ = some u) (n := len) (fun i hi => by
      obtain ⟨cs', h1, h2⟩ := hall i (by omega)
      rw [cellsTHR] at h1
      obtain ⟨_, hlen, hcell⟩ := World.cells?_some h1
      obtain ⟨c, rfl, hok⟩ := open_thr h2
      refine ⟨c, hok, fun j u hu => ?_⟩
      have hj : j < 10 := by have := (List.getElem?_eq_some_iff.1 hu).1; rwa [TH.cells_len] at this
      have := hcell j hj
      rw [core_plus, core_plus] at this
      rw [this, hu])
    have hlen : ((List.range len).map c).length = len := by simp
    refine ⟨(List.range len).map c, hlen, .inr ⟨g, off, cap, by rw [hlen], by rw [hlen]; exact hcap.1, hcap.2, fun j u hu => ?_⟩, fun e he => ?_⟩
    · have hj : j < len * 10 := by have := (List.getElem?_eq_some_iff.1 hu).1; rwa [flatH_len, hlen] at this
      have hq : j / 10 < len := by omega
      have hd : j = j / 10 * 10 + j % 10 := by omega
      have hr : j % 10 < 10 := Nat.mod_lt _ (by decide)
      rw [hd, flatH_at _ _ _ (by rw [hlen]; exact hq) hr] at hu
      have hget : ((List.range len).map c).getD (j / 10) TH.zero = c (j / 10) := by
        rw [List.getD_eq_getElem?_getD, List.getElem?_map, List.getElem?_range hq]; rfl
      rw [hget] at hu
      have := (hc _ hq).2 _ u hu
      rw [show off + j = off + j / 10 * 10 + j % 10 by omega]
      exact this
    · obtain ⟨i, hi, rfl⟩ := List.mem_map.1 he
      exact (hc i (List.mem_range.1 hi)).1
set_option maxRecDepth 100000 in
/-- A list of threads as an argument. -/
theorem open_ths (hv : Value.okWide Tryd.prog W r b0 33 v) (h : DataW.Trod enc Tryd.prog W base sp true 33 v d p) :
    ∃ A len cap xs, v = .slice A len cap ∧ xs.length = len ∧ SeeH W (.slice A len cap) xs ∧ ∀ e ∈ xs, TH.ok e := by
  obtain ⟨a0, len, cap, rfl⟩ := okWide_slice Tryd.underlying33 hv
  obtain ⟨fuel, hf⟩ := h
  have hk : ∀ a, a0 = some a → a.spot = Option.none ∧ len ≤ cap ∧ cap ≤ 9223372036854775807 := fun a ha => by
    subst ha
    simp only [Value.okWide, Tryd.underlying33, Cell.okWide, Cell.ok] at hv
    have h1 := hv.2.1
    have h2 : IntKind.i64.max = 9223372036854775807 := by decide
    exact ⟨hv.2.2.2.1, hv.1, by omega⟩
  obtain ⟨xs, h1, h2, h3⟩ := see_ths hf (a0 := a0) (len := len) (cap := cap) (by simp [Value.cells]) hk
  exact ⟨a0, len, cap, xs, rfl, h1, h2, h3⟩
set_option maxRecDepth 100000 in
/-- A list of threads in a cell: where it has one at all. -/
theorem ths_of {fuel : Nat} {cs : List Value} {y : DataW H × List MemPlace} (h : DataW.trod enc Tryd.prog W base sp true fuel 33 cs = some y) :
    ∃ A n c xs, cs = [.slice A n c] ∧ (1 ≤ n → xs.length = n ∧ SeeH W (.slice A n c) xs ∧ ∀ e ∈ xs, TH.ok e) := by
  rcases Go.Deep.open_slice Tryd.underlying33 h with ⟨hcs, _⟩ | ⟨a, len, cap, m, n, D, Pl, hcs, _, hl, hmx, hm, _, hall⟩
  · exact ⟨Option.none, 0, 0, [], hcs, fun h => absurd h (by decide)⟩
  · by_cases h0 : len = 0
    · exact ⟨some a, len, cap, [], hcs, fun h => by omega⟩
    · have hlm : len ≤ m := by rw [hm]; split <;> omega
      have hsp : a.spot = Option.none := by
        obtain ⟨cs', h1, h2⟩ := hall 0 (by omega)
        rw [cellsTHR] at h1
        obtain ⟨_, hlen, hcell⟩ := World.cells?_some h1
        obtain ⟨c, rfl, _⟩ := open_thr h2
        have h0 := hcell 0 (by decide)
        unfold World.cell? at h0
        split at h0
        · split at h0
          · simp [TH.cells] at h0
          · rename_i hs
            have h2 : ((a.add (0 * 10)).add 0).spot = Option.none := by simpa using hs
            simpa [Addr.add] using h2
        · simp [TH.cells] at h0
      obtain ⟨xs, h1, h2, h3⟩ := see_ths h (a0 := some a) (len := len) (cap := cap) hcs (fun b hb => by
        obtain rfl : a = b := Option.some.inj hb
        exact ⟨hsp, hl, by unfold maxLen at hmx; exact hmx⟩)
      exact ⟨some a, len, cap, xs, hcs, fun _ => ⟨h1, h2, h3⟩⟩
theorem cellsMV : Tryd.prog.cellsOf 71 = 5 := by kernel_rfl
theorem cellsTS : Tryd.prog.cellsOf 33 = 1 := by kernel_rfl
theorem cellsZ2 : Tryd.prog.cellsOf 69 = 2 := by kernel_rfl
set_option maxRecDepth 100000 in
/-- Two bytes in a row. -/
theorem open_two {fuel : Nat} {u v : Value} {y : DataW H × List MemPlace} (h : DataW.trod enc Tryd.prog W base sp true fuel 69 [u, v] = some y) :
    ∃ a b : Int, u = .int .u8 a ∧ v = .int .u8 b ∧ (0 ≤ a ∧ a < 256) ∧ (0 ≤ b ∧ b < 256) := by
  obtain ⟨xs, m, rfl, hx, _, hn, hel⟩ := DataW.trod_array Tryd.underlying69 h
  have k0 := hel 0 (by decide)
  have k1 := hel 1 (by decide)
  rw [cellsU8] at k0 k1
  match xs, hn with
  | [x0, x1], _ =>
    obtain ⟨a, e0, _, wa⟩ := DataW.trod_int Tryd.underlying5 k0
    obtain ⟨b, e1, _, wb⟩ := DataW.trod_int Tryd.underlying5 k1
    simp at e0 e1
    exact ⟨a, b, e0, e1, u8_ofH wa, u8_ofH wb⟩
set_option maxRecDepth 100000 in
/-- What moves, as an argument. -/
theorem open_moving (hv : Value.okWide Tryd.prog W r b0 71 v) (h : DataW.Trod enc Tryd.prog W base sp true 71 v d p) :
    ∃ A n c z0 z1 wv zt xs, v = .agg #[.slice A n c, .int .u8 z0, .int .u8 z1, .int .u64 wv, .int .u8 zt] ∧ (0 ≤ z0 ∧ z0 < 256) ∧ (0 ≤ z1 ∧ z1 < 256) ∧ (0 ≤ zt ∧ zt < 256) ∧ U64 wv ∧ (1 ≤ n → xs.length = n ∧ SeeH W (.slice A n c) xs ∧ ∀ e ∈ xs, TH.ok e) := by
  obtain ⟨cs, rfl, _⟩ := okWide_struct Tryd.underlying71 hv
  obtain ⟨fuel, hf⟩ := h
  obtain ⟨l⟩ := cs
  simp only [Value.cells] at hf
  obtain ⟨xs, n, rfl, _, hl, hxl, hf⟩ := DataW.trod_struct Tryd.underlying71 hf
  rw [cellsMV] at hl
  match xs, hxl, l, hl with
  | [y0, y1, y2, y3], _, [v0, v1, v2, v3, v4], _ =>
    have g0 : DataW.trod enc Tryd.prog W base sp true n 33 (([v0, v1, v2, v3, v4].drop 0).take (Tryd.prog.cellsOf 33)) = [y0, y1, y2, y3][0]? := hf 0 _ rfl
    have g1 : DataW.trod enc Tryd.prog W base sp true n 69 (([v0, v1, v2, v3, v4].drop 1).take (Tryd.prog.cellsOf 69)) = [y0, y1, y2, y3][1]? := hf 1 _ rfl
    have g2 : DataW.trod enc Tryd.prog W base sp true n 34 (([v0, v1, v2, v3, v4].drop 3).take (Tryd.prog.cellsOf 34)) = [y0, y1, y2, y3][2]? := hf 2 _ rfl
    have g3 : DataW.trod enc Tryd.prog W base sp true n 5 (([v0, v1, v2, v3, v4].drop 4).take (Tryd.prog.cellsOf 5)) = [y0, y1, y2, y3][3]? := hf 3 _ rfl
    simp only [cellsTS, cellsZ2, cellsU, cellsU8, List.drop_zero, List.drop_succ_cons, List.take_succ_cons, List.take_zero, List.getElem?_cons_zero, List.getElem?_cons_succ] at g0 g1 g2 g3
    obtain ⟨A, ln, c, xs, e0, hx⟩ := ths_of g0
    obtain ⟨z0, z1, rfl, rfl, w0, w1⟩ := open_two g1
    obtain ⟨wv, e2, _, w2⟩ := DataW.trod_int Tryd.underlying34 g2
    obtain ⟨zt, e3, _, w3⟩ := DataW.trod_int Tryd.underlying5 g3
    simp only [List.cons.injEq, and_true] at e0 e2 e3
    subst e0 e2 e3
    exact ⟨A, ln, c, z0, z1, wv, zt, xs, rfl, w0, w1, u8_ofH w3, u64_ofH w2, hx⟩
end
end Go.Proofs.YtapcgikamldchaaDoor
