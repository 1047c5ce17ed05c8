/-
  Addresses and triples of numbers as arguments: what they read as, both ways; no condition.
-/
import Derived.Test.YtfnlkapiflkceaaDoorBase
namespace Go.Proofs.YtfnlkapiflkceaaDoor
open Go.ChangeShapes Go.WideShapes Go.ChangeAt Go.RowKit Go.Joins

theorem cells55 : Tryd.prog.cellsOf 55 = 3 := by kernel_rfl
theorem cells56 : Tryd.prog.cellsOf 56 = 3 := by kernel_rfl
theorem cells5 : Tryd.prog.cellsOf 5 = 1 := by kernel_rfl
theorem cells32 : Tryd.prog.cellsOf 32 = 1 := by kernel_rfl

section
variable {H : Type} {enc : TypeId × Value → H} {W : World} {r : Reach} {b0 base : Nat} {sp : Nat → Bool} {v : Value} {d : DataW H} {p : List MemPlace}

set_option maxRecDepth 100000 in
theorem open_addr (hv : Value.okWide Tryd.prog W r b0 31 v) (h : DataW.Trod enc Tryd.prog W base sp true 31 v d p) :
    ∃ x : Ad, v = x.v ∧ d = .agg [.lit (.int .u8 x.k), .lit (.int .i64 x.a), .lit (.int .i64 x.f)] ∧ p = [] := by
  obtain ⟨c0, c1, c2, y0, y1, y2, n, rfl, rfl, rfl, hy0, hy1, hy2⟩ := open_agg3 Tryd.underlying31 (by kernel_rfl) cells31 hv h
  obtain ⟨k, e0, rfl, wk⟩ := DataW.trod_int Tryd.underlying29 hy0
  obtain ⟨a, e1, rfl, wa⟩ := DataW.trod_int Tryd.underlying3 hy1
  obtain ⟨f, e2, rfl, wf⟩ := DataW.trod_int Tryd.underlying3 hy2
  simp at e0 e1 e2
  subst e0 e1 e2
  exact ⟨⟨k, a, f, wk, wa, wf⟩, rfl, rfl, rfl⟩
set_option maxRecDepth 100000 in
theorem shut_addr (x : Ad) : DataW.Trod enc Tryd.prog W base sp true 31 x.v (.agg [.lit (.int .u8 x.k), .lit (.int .i64 x.a), .lit (.int .i64 x.f)]) [] :=
  shut_agg3 (y0 := (.lit (.int .u8 x.k), [])) (y1 := (.lit (.int .i64 x.a), [])) (y2 := (.lit (.int .i64 x.f), [])) Tryd.underlying31 (by kernel_rfl) cells31 ⟨1, by simp [DataW.trod, Tryd.underlying29, x.wk]⟩ ⟨1, by simp [DataW.trod, Tryd.underlying3, x.wa]⟩ ⟨1, by simp [DataW.trod, Tryd.underlying3, x.wf]⟩

set_option maxRecDepth 100000 in
theorem array3 {cs : Array Value} (h : cs.size = 3) : ∃ c0 c1 c2, cs = #[c0, c1, c2] := by
  match cs, h with
  | ⟨[c0, c1, c2]⟩, _ => exact ⟨c0, c1, c2, rfl⟩
set_option maxRecDepth 100000 in
theorem open_tri8 (hv : Value.okWide Tryd.prog W r b0 55 v) (h : DataW.Trod enc Tryd.prog W base sp true 55 v d p) :
    ∃ (a b c : Int), v = .agg #[.int .u8 a, .int .u8 b, .int .u8 c] ∧ d = .agg [.lit (.int .u8 a), .lit (.int .u8 b), .lit (.int .u8 c)] ∧ p = [] ∧ (Lit.int .u8 a).wf = true ∧ (Lit.int .u8 b).wf = true ∧ (Lit.int .u8 c).wf = true := by
  simp only [Value.okWide, Tryd.underlying55] at hv
  obtain ⟨cs, rfl, hsz, _⟩ := hv
  obtain ⟨c0, c1, c2, rfl⟩ := array3 (hsz.trans cells55)
  obtain ⟨fuel, hf⟩ := h
  obtain ⟨xs, m, rfl, hx, _, hn, hel⟩ := DataW.trod_array Tryd.underlying55 hf
  have k0 := hel 0 (by decide)
  have k1 := hel 1 (by decide)
  have k2 := hel 2 (by decide)
  rw [cells5] at k0 k1 k2
  match xs, hn with
  | [x0, x1, x2], _ =>
    obtain ⟨a, e0, rfl, wa⟩ := DataW.trod_int Tryd.underlying5 k0
    obtain ⟨b, e1, rfl, wb⟩ := DataW.trod_int Tryd.underlying5 k1
    obtain ⟨c, e2, rfl, wc⟩ := DataW.trod_int Tryd.underlying5 k2
    simp [Value.cells] at e0 e1 e2
    simp at hx
    obtain ⟨rfl, rfl⟩ := hx
    subst e0 e1 e2
    exact ⟨a, b, c, rfl, rfl, rfl, wa, wb, wc⟩
set_option maxRecDepth 100000 in
theorem shut_tri8 {a b c : Int} (wa : (Lit.int .u8 a).wf = true) (wb : (Lit.int .u8 b).wf = true) (wc : (Lit.int .u8 c).wf = true) :
    DataW.Trod enc Tryd.prog W base sp true 55 (.agg #[.int .u8 a, .int .u8 b, .int .u8 c]) (.agg [.lit (.int .u8 a), .lit (.int .u8 b), .lit (.int .u8 c)]) [] := by
  refine ⟨2, ?_⟩
  simp [DataW.trod, Tryd.underlying55, Tryd.underlying5, cells55, cells5, Value.cells, List.range, List.range.loop, wa, wb, wc]
set_option maxRecDepth 100000 in
theorem open_tri64 (hv : Value.okWide Tryd.prog W r b0 56 v) (h : DataW.Trod enc Tryd.prog W base sp true 56 v d p) :
    ∃ (a b c : Int), v = .agg #[.int .u64 a, .int .u64 b, .int .u64 c] ∧ d = .agg [.lit (.int .u64 a), .lit (.int .u64 b), .lit (.int .u64 c)] ∧ p = [] ∧ (Lit.int .u64 a).wf = true ∧ (Lit.int .u64 b).wf = true ∧ (Lit.int .u64 c).wf = true := by
  simp only [Value.okWide, Tryd.underlying56] at hv
  obtain ⟨cs, rfl, hsz, _⟩ := hv
  obtain ⟨c0, c1, c2, rfl⟩ := array3 (hsz.trans cells56)
  obtain ⟨fuel, hf⟩ := h
  obtain ⟨xs, m, rfl, hx, _, hn, hel⟩ := DataW.trod_array Tryd.underlying56 hf
  have k0 := hel 0 (by decide)
  have k1 := hel 1 (by decide)
  have k2 := hel 2 (by decide)
  rw [cells32] at k0 k1 k2
  match xs, hn with
  | [x0, x1, x2], _ =>
    obtain ⟨a, e0, rfl, wa⟩ := DataW.trod_int Tryd.underlying32 k0
    obtain ⟨b, e1, rfl, wb⟩ := DataW.trod_int Tryd.underlying32 k1
    obtain ⟨c, e2, rfl, wc⟩ := DataW.trod_int Tryd.underlying32 k2
    simp [Value.cells] at e0 e1 e2
    simp at hx
    obtain ⟨rfl, rfl⟩ := hx
    subst e0 e1 e2
    exact ⟨a, b, c, rfl, rfl, rfl, wa, wb, wc⟩
set_option maxRecDepth 100000 in
theorem shut_tri64 {a b c : Int} (wa : (Lit.int .u64 a).wf = true) (wb : (Lit.int .u64 b).wf = true) (wc : (Lit.int .u64 c).wf = true) :
    DataW.Trod enc Tryd.prog W base sp true 56 (.agg #[.int .u64 a, .int .u64 b, .int .u64 c]) (.agg [.lit (.int .u64 a), .lit (.int .u64 b), .lit (.int .u64 c)]) [] := by
  refine ⟨2, ?_⟩
  simp [DataW.trod, Tryd.underlying56, Tryd.underlying32, cells56, cells32, Value.cells, List.range, List.range.loop, wa, wb, wc]
end
end Go.Proofs.YtfnlkapiflkceaaDoor
