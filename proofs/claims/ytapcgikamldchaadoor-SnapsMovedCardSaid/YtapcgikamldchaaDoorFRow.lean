/-
  Rows of single cells that came in, nil let in; no condition.
-/
import Derived.Test.YtapcgikamldchaaDoorW1
import Derived.Outline
namespace Go.Proofs.YtapcgikamldchaaDoor
open Go.RowKit

def uV (n : Int) : Value := .int .u64 n
def cV (n : Int) : Value := .int .u8 n
/-- A slice that holds these cells, nil let in. -/
def Row (w : World) (A : Option Addr) (vs : List Value) : Prop := vs ≠ [] → ∃ g off, A = some ⟨g, off, none⟩ ∧ ∀ i v, vs[i]? = some v → w.cell? ⟨g, off + i, none⟩ = some v
theorem Row.below {w w' : World} {A : Option Addr} {vs : List Value} (h : Row w A vs) (hb : Below w.heap.size w w') : Row w' A vs := fun hl => by
  obtain ⟨g, off, rfl, hB⟩ := h hl
  exact ⟨g, off, rfl, fun i v hi => (hb.cell (p := ⟨g, off + i, none⟩) (World.block_lt_of_cell? w _ (hB i v hi))).trans (hB i v hi)⟩
theorem Row.nil (w : World) (A : Option Addr) : Row w A [] := fun h => absurd rfl h
theorem Row.at_ {w : World} {A : Option Addr} {vs : List Value} (h : Row w A vs) {k : Nat} (hk : k < vs.length) : ∃ g off, A = some ⟨g, off, none⟩ ∧ ∀ i v, vs[i]? = some v → w.cell? ⟨g, off + i, none⟩ = some v :=
  h fun e => by rw [e] at hk; simp at hk
theorem Row.none {w : World} {A : Option Addr} {vs : List Value} (h : Row w A vs) (e : A = none) : vs = [] := by
  by_cases hl : vs = []
  · exact hl
  · obtain ⟨g, off, e', _⟩ := h hl
    rw [e] at e'
    cases e'
end Go.Proofs.YtapcgikamldchaaDoor
