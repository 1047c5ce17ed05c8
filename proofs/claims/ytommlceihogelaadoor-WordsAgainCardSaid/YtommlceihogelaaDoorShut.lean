/-
  Refs, phases' words and pairs of words as arguments: what they read as, both ways; no condition.
-/
import Derived.Test.YtommlceihogelaaDoorBase
namespace Go.Proofs.YtommlceihogelaaDoor
open Go.ChangeShapes Go.WideShapes Go.ChangeAt Go.RowKit Go.Joins

theorem cells24 : Tryd.prog.cellsOf 24 = 3 := by kernel_rfl
theorem cells48 : Tryd.prog.cellsOf 48 = 4 := by kernel_rfl
theorem cells54 : Tryd.prog.cellsOf 54 = 2 := by kernel_rfl
theorem cells25 : Tryd.prog.cellsOf 25 = 1 := by kernel_rfl

section
variable {H : Type} {enc : TypeId × Value → H} {W : World} {r : Reach} {b0 base : Nat} {sp : Nat → Bool} {v : Value} {d : DataW H} {p : List MemPlace}

theorem open_ref (hv : Value.okWide Tryd.prog W r b0 24 v) (h : DataW.Trod enc Tryd.prog W base sp true 24 v d p) :
    ∃ (s g : Int) (m : Bool), v = .agg #[.int .i64 s, .int .u32 g, .bool m] ∧ d = .agg [.lit (.int .i64 s), .lit (.int .u32 g), .lit (.bool m)] ∧ p = [] ∧ (Lit.int .i64 s).wf = true ∧ (Lit.int .u32 g).wf = true := by
  obtain ⟨c0, c1, c2, y0, y1, y2, n, rfl, rfl, rfl, hy0, hy1, hy2⟩ := open_agg3 Tryd.underlying24 (by kernel_rfl) cells24 hv h
  obtain ⟨s, e0, rfl, ws⟩ := DataW.trod_int Tryd.underlying3 hy0
  obtain ⟨g, e1, rfl, wg⟩ := DataW.trod_int Tryd.underlying22 hy1
  obtain ⟨m, e2, rfl⟩ := DataW.trod_bool Tryd.underlying4 hy2
  simp at e0 e1 e2
  subst e0 e1 e2
  exact ⟨s, g, m, rfl, rfl, rfl, ws, wg⟩
theorem shut_ref {s g : Int} (m : Bool) (ws : (Lit.int .i64 s).wf = true) (wg : (Lit.int .u32 g).wf = true) :
    DataW.Trod enc Tryd.prog W base sp true 24 (.agg #[.int .i64 s, .int .u32 g, .bool m]) (.agg [.lit (.int .i64 s), .lit (.int .u32 g), .lit (.bool m)]) [] :=
  shut_agg3 (y0 := (.lit (.int .i64 s), [])) (y1 := (.lit (.int .u32 g), [])) (y2 := (.lit (.bool m), [])) Tryd.underlying24 (by kernel_rfl) cells24 ⟨1, by simp [DataW.trod, Tryd.underlying3, ws]⟩ ⟨1, by simp [DataW.trod, Tryd.underlying22, wg]⟩ ⟨1, by simp [DataW.trod, Tryd.underlying4]⟩

theorem open_phase (hv : Value.okWide Tryd.prog W r b0 48 v) (h : DataW.Trod enc Tryd.prog W base sp true 48 v d p) :
    ∃ (q o m k : Int), v = .agg #[.int .u8 q, .int .u8 o, .int .u8 m, .int .u64 k] ∧ d = .agg [.lit (.int .u8 q), .lit (.int .u8 o), .lit (.int .u8 m), .lit (.int .u64 k)] ∧ p = [] ∧
      (Lit.int .u8 q).wf = true ∧ (Lit.int .u8 o).wf = true ∧ (Lit.int .u8 m).wf = true ∧ (Lit.int .u64 k).wf = true := by
  obtain ⟨c0, c1, c2, c3, y0, y1, y2, y3, n, rfl, rfl, rfl, hy0, hy1, hy2, hy3⟩ := open_agg4 Tryd.underlying48 (by kernel_rfl) cells48 hv h
  obtain ⟨q, e0, rfl, w0⟩ := DataW.trod_int Tryd.underlying45 hy0
  obtain ⟨o, e1, rfl, w1⟩ := DataW.trod_int Tryd.underlying46 hy1
  obtain ⟨m, e2, rfl, w2⟩ := DataW.trod_int Tryd.underlying46 hy2
  obtain ⟨k, e3, rfl, w3⟩ := DataW.trod_int Tryd.underlying25 hy3
  simp at e0 e1 e2 e3
  subst e0 e1 e2 e3
  exact ⟨q, o, m, k, rfl, rfl, rfl, w0, w1, w2, w3⟩
theorem shut_phase {q o m k : Int} (w0 : (Lit.int .u8 q).wf = true) (w1 : (Lit.int .u8 o).wf = true) (w2 : (Lit.int .u8 m).wf = true) (w3 : (Lit.int .u64 k).wf = true) :
    DataW.Trod enc Tryd.prog W base sp true 48 (.agg #[.int .u8 q, .int .u8 o, .int .u8 m, .int .u64 k]) (.agg [.lit (.int .u8 q), .lit (.int .u8 o), .lit (.int .u8 m), .lit (.int .u64 k)]) [] :=
  shut_agg4 (y0 := (.lit (.int .u8 q), [])) (y1 := (.lit (.int .u8 o), [])) (y2 := (.lit (.int .u8 m), [])) (y3 := (.lit (.int .u64 k), [])) Tryd.underlying48 (by kernel_rfl) cells48 ⟨1, by simp [DataW.trod, Tryd.underlying45, w0]⟩ ⟨1, by simp [DataW.trod, Tryd.underlying46, w1]⟩ ⟨1, by simp [DataW.trod, Tryd.underlying46, w2]⟩ ⟨1, by simp [DataW.trod, Tryd.underlying25, w3]⟩

theorem open_pair (hv : Value.okWide Tryd.prog W r b0 54 v) (h : DataW.Trod enc Tryd.prog W base sp true 54 v d p) :
    ∃ (a b : Int), v = .agg #[.int .u64 a, .int .u64 b] ∧ d = .agg [.lit (.int .u64 a), .lit (.int .u64 b)] ∧ p = [] ∧ (Lit.int .u64 a).wf = true ∧ (Lit.int .u64 b).wf = true := by
  simp only [Value.okWide, Tryd.underlying54] at hv
  obtain ⟨cs, rfl, hsz, _⟩ := hv
  obtain ⟨c0, c1, rfl⟩ := array2 (hsz.trans cells54)
  obtain ⟨fuel, hf⟩ := h
  obtain ⟨xs, m, rfl, hx, _, hn, hel⟩ := DataW.trod_array Tryd.underlying54 hf
  have k0 := hel 0 (by decide)
  have k1 := hel 1 (by decide)
  rw [cells25] at k0 k1
  match xs, hn with
  | [x0, x1], _ =>
    obtain ⟨a, e0, rfl, wa⟩ := DataW.trod_int Tryd.underlying25 k0
    obtain ⟨b, e1, rfl, wb⟩ := DataW.trod_int Tryd.underlying25 k1
    simp [Value.cells] at e0 e1
    simp at hx
    obtain ⟨rfl, rfl⟩ := hx
    subst e0 e1
    exact ⟨a, b, rfl, rfl, rfl, wa, wb⟩
theorem shut_pair {a b : Int} (wa : (Lit.int .u64 a).wf = true) (wb : (Lit.int .u64 b).wf = true) :
    DataW.Trod enc Tryd.prog W base sp true 54 (.agg #[.int .u64 a, .int .u64 b]) (.agg [.lit (.int .u64 a), .lit (.int .u64 b)]) [] := by
  refine ⟨2, ?_⟩
  simp [DataW.trod, Tryd.underlying54, Tryd.underlying25, cells54, cells25, Value.cells, List.range, List.range.loop, wa, wb]
end
end Go.Proofs.YtommlceihogelaaDoor
