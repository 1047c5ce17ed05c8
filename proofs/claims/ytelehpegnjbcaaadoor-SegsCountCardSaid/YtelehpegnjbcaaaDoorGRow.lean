/-
  Rows of single cells (words of 64 bits, bytes), rows of the call's own; no condition.
-/
import Derived.Test.YtelehpegnjbcaaaDoorGPlain
import Derived.Test.YtelehpegnjbcaaaDoorW4
import Derived.Outline
import Derived.OwnWalk
import Derived.Laws.OwnMore
import Derived.Laws.AppendOwnNone
import Derived.Deep.AppendLies
namespace Go.Proofs.YtelehpegnjbcaaaDoor
open Go.RowKit

def uV (n : Int) : Value := .int .u64 n
def cV (n : Int) : Value := .int .u8 n
/-- A slice that holds these cells, nil let in. -/
def Row (w : World) (A : Option Addr) (vs : List Value) : Prop := vs ≠ [] → ∃ g off, A = some ⟨g, off, none⟩ ∧ ∀ i v, vs[i]? = some v → w.cell? ⟨g, off + i, none⟩ = some v
theorem Row.below {w w' : World} {A : Option Addr} {vs : List Value} (h : Row w A vs) (hb : Below w.heap.size w w') : Row w' A vs := fun hl => by
  obtain ⟨g, off, rfl, hB⟩ := h hl
  exact ⟨g, off, rfl, fun i v hi => (hb.cell (p := ⟨g, off + i, none⟩) (World.block_lt_of_cell? w _ (hB i v hi))).trans (hB i v hi)⟩
theorem Row.nil (w : World) (A : Option Addr) : Row w A [] := fun h => absurd rfl h
theorem Row.at_ {w : World} {A : Option Addr} {vs : List Value} (h : Row w A vs) {k : Nat} (hk : k < vs.length) : ∃ g off, A = some ⟨g, off, none⟩ ∧ ∀ i v, vs[i]? = some v → w.cell? ⟨g, off + i, none⟩ = some v :=
  h fun e => by rw [e] at hk; simp at hk
theorem Row.none {w : World} {A : Option Addr} {vs : List Value} (h : Row w A vs) (e : A = none) : vs = [] := by
  by_cases hl : vs = []
  · exact hl
  · obtain ⟨g, off, e', _⟩ := h hl
    rw [e] at e'
    cases e'
theorem words_at {l : List Int} {k : Nat} (h : k < l.length) : (l.map uV)[k]? = some (.int .u64 (l.getD k 0)) := by
  simp [uV, List.getD_eq_getElem?_getD, List.getElem?_eq_getElem h]
theorem bytes_at {l : List Int} {k : Nat} (h : k < l.length) : (l.map cV)[k]? = some (.int .u8 (l.getD k 0)) := by
  simp [cV, List.getD_eq_getElem?_getD, List.getElem?_eq_getElem h]
theorem uV_one (l : List Int) : ∀ u ∈ l.map uV, u.oneCell' = true := by
  intro u hu
  obtain ⟨_, _, rfl⟩ := List.mem_map.1 hu
  rfl
theorem cV_one (l : List Int) : ∀ u ∈ l.map cV, u.oneCell' = true := by
  intro u hu
  obtain ⟨_, _, rfl⟩ := List.mem_map.1 hu
  rfl
theorem own_same {w w' : World} {base : Nat} {e : TypeId} {size : Nat} {v : Value} {n : Nat} {xs : List Value} (h : w.ownsRow base e size v n xs) (hs : ∀ g, v.ownBlock = some g → w'.heap[g]? = w.heap[g]?) : w'.ownsRow base e size v n xs := by
  refine ⟨h.1, ?_⟩
  rcases h.2 with h2 | ⟨g, cap, cur, hv, hg, hh, r⟩
  · exact .inl h2
  · subst hv
    exact .inr ⟨g, cap, cur, rfl, hg, (hs g rfl).trans hh, r⟩
theorem own_low {w w' : World} {base : Nat} {e : TypeId} {size : Nat} {v : Value} {n : Nat} {xs : List Value} (h : w.ownsRow base e size v n xs) (hb : Below w.heap.size w w') : w'.ownsRow base e size v n xs :=
  own_same h fun g hg => hb.block g (h.lt g hg).2
theorem cells_new (w : World) (t : TypeId) (xs : List Value) : ∀ j u, xs[j]? = some u → (w.alloc (.cells xs.toArray t)).cell? ((⟨w.heap.size, 0, none⟩ : Addr).add j) = some u := by
  intro j u hu
  have hadd : (⟨w.heap.size, 0, none⟩ : Addr).add j = ⟨w.heap.size, j, none⟩ := by unfold Addr.add; split <;> simp_all
  rw [hadd, cell_of_row _ _ j xs.toArray t (0, 0) (heap_alloc_new w _)]
  simpa using hu
theorem own_slice {w : World} {base : Nat} {e : TypeId} {size : Nat} {v : Value} {n : Nat} {xs : List Value} (h : w.ownsRow base e size v n xs) : ∃ A c, v = .slice A n c ∧ n ≤ c ∧ c ≤ 9223372036854775807 ∧ (A = Option.none → c = 0) := by
  rcases h.2 with ⟨rfl, rfl⟩ | ⟨g, cap, cur, rfl, _, _, hc, hm, _⟩
  · exact ⟨Option.none, 0, rfl, Nat.le_refl _, by omega, fun _ => rfl⟩
  · exact ⟨_, cap, rfl, hc, by unfold maxLen at hm; exact hm, fun e => by cases e⟩
theorem own_form {w : World} {base : Nat} {e : TypeId} {size : Nat} {A : Option Addr} {n c : Nat} {xs : List Value} (h : w.ownsRow base e size (.slice A n c) n xs) (hn : 0 < n) : ∃ g, A = some ⟨g, 0, Option.none⟩ ∧ base ≤ g ∧ g < w.heap.size := by
  obtain ⟨g, cap, hv, h1, h2⟩ := h.form hn
  injection hv with hv
  exact ⟨g, hv, h1, h2⟩
/-- A row of the call's own, as a slice. -/
theorem row_of_own {w : World} {base : Nat} {e : TypeId} {A : Option Addr} {n c : Nat} {vs : List Value} (h : w.ownsRow base e 1 (.slice A n c) n vs) : Row w A vs := fun hl => by
  have hx := h.1
  have hp := List.length_pos_iff.2 hl
  obtain ⟨g, rfl, _, _⟩ := own_form h (by omega)
  refine ⟨g, 0, rfl, fun i v hi => ?_⟩
  have hlt := (List.getElem?_eq_some_iff.1 hi).1
  rw [Nat.zero_add, h.cellAt i (by omega)]
  exact hi
theorem add_plus (g off j : Nat) : (⟨g, off, Option.none⟩ : Addr).add j = ⟨g, off + j, Option.none⟩ := by
  unfold Addr.add
  split <;> simp_all
/-- A slice of single cells goes behind a row of the call's own. -/
theorem append_row {w : World} {ops : Array Oper} {rest : List Oper} {o : Oper} {a : Act} {Q : Exit → Act → World → Prop} (hgd : o.guard = Option.none) (s x : Operand) (t e : TypeId)
    (ho : o.op = .call { callee := .builtin .append, args := #[s, x], argTypes := #[t, t] }) (ht : Tryd.prog.underlying t = some (.slice e)) (i0 : TypeInfo) (z : Value) (bytes : Nat) (hi : Tryd.prog.info? e = some i0) (hz : i0.zero = some z) (hs1 : i0.size = 1) (hby : i0.bytes = bytes) (hzs : z.cells.size = 1) (hb8 : bytes ≤ 8)
    (base : Nat) (v : Value) (xs : List Value) (hs : a.eval s = v) (hown : w.ownsRow base e 1 v xs.length xs) (A : Option Addr) (n cap : Nat) (l : List Value) (hn : n = l.length) (hx : a.eval x = .slice A n cap)
    (hsl : Row w A l) (h1 : ∀ u ∈ l, u.oneCell' = true) (hcap : A = Option.none → cap = 0) (hlen : xs.length + l.length ≤ 1000000) (hbase : base ≤ w.heap.size)
    (h : ∀ v' w', w'.ownsRow base e 1 v' (xs ++ l).length (xs ++ l) → Below base w w' → wpList Tryd.prog ops Q rest (a.put o.dst v') w') : wpList Tryd.prog ops Q (o :: rest) a w := by
  subst hn
  cases A with
  | none =>
    have hl := hsl.none rfl
    subst hl
    rw [hcap rfl] at hx
    refine wpList_append_own_none hgd s x t ho base e i0 1 ht hi v xs.length xs hs hown hx ?_
    refine h v w ?_ (Below.refl _ _)
    rw [List.append_nil]
    exact hown
  | some ad =>
    refine wpList_append_own _ hgd s x t ho base e i0 z 1 bytes ht hi hz hs1 hby hzs (by decide) v xs.length xs hs hown ad l.length cap l hx (by rw [Nat.mul_one]) (fun j u hu => ?_) h1 (by unfold maxLen; omega) (by have := Nat.mul_le_mul_left (xs.length + l.length) hb8; omega) hbase ?_
    · obtain ⟨g, off, he, hc⟩ := hsl (fun e => by rw [e] at hu; simp at hu)
      cases he
      rw [add_plus]
      exact hc j u hu
    · intro v' w' h2 h3 _
      refine h v' w' ?_ ((Below.refl _ _).grown h3 hbase (fun k hk => (hown.lt k hk).1))
      rw [List.length_append]
      exact h2
theorem Tryd_infoU : (Tryd.prog.info? 31).map (fun i => (i.zero, i.size, i.bytes)) = some (some (.int .u64 0), 1, 8) := by kernel_rfl
theorem row_new (w : World) (t : TypeId) (vs : List Value) : Row (w.alloc (.cells vs.toArray t)) (some ⟨w.heap.size, 0, Option.none⟩) vs := fun _ => ⟨_, 0, rfl, fun i v hi => by
  rw [Nat.zero_add, cell_of_row _ _ i vs.toArray t (0, 0) (heap_alloc_new w _)]
  simpa using hi⟩
end Go.Proofs.YtelehpegnjbcaaaDoor
