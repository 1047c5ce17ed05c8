/-
  Refs as keys of a map: the map's laws hold of them, each ref has a key of its own; what a map from refs to bools says; condition: numbers of their kinds.
-/
import Derived.Test.YthcclgnadhcndaaRP1
import Derived.Maps.Own
import Derived.Maps.OwnOps
import Derived.Maps.OwnSet
import Derived.DeepKeys4
namespace Go.Proofs.Ythcclgnadhcndaa
open Go.RowKit Go.Maps
theorem laidOut : laidOutB Try.prog = true := by kernel_rfl
theorem rowRf : 31 < Try.prog.types.size := of_decide_eq_true (by kernel_rfl)
theorem ref_keyed : Keyed Try.prog 31 := Keyed.of_law (deep_law_laid laidOut (m := 5) (by decide) rowRf (by kernel_rfl) (by kernel_rfl))
theorem keyTypeRf : Try.prog.keyType 31 = true := by kernel_rfl
theorem cellsRfK : Try.prog.cellsOf 31 = 3 := by kernel_rfl
theorem cellsU3K : Try.prog.cellsOf 29 = 1 := by kernel_rfl
theorem cellsBLK : Try.prog.cellsOf 4 = 1 := by kernel_rfl
theorem cellsINK : Try.prog.cellsOf 3 = 1 := by kernel_rfl
def refV (r : RP) : Value := .agg #[.int .i64 r.s, .int .u32 r.g, .bool r.k]
def RP.ok (r : RP) : Prop := (Lit.int .i64 r.s).wf = true ∧ U32 r.g
theorem rp_ok {s g : Int} {k : Bool} (h1 : (Lit.int .i64 s).wf = true) (h2 : U32 g) : RP.ok ⟨s, g, k⟩ := And.intro h1 h2
theorem ok_rp {s g b c d : Int} {k : Bool} (h : EP.ok ⟨s, g, k, b, c, d⟩) : RP.ok ⟨s, g, k⟩ := by
  unfold EP.ok at h
  exact rp_ok h.1 h.2.1
theorem u32_wf {g : Int} (h : U32 g) : (Lit.int .u32 g).wf = true := by
  simp [Lit.wf, IntKind.min, IntKind.max, IntKind.signed, IntKind.bits]
  have := h.1
  have := h.2
  omega
theorem ref_key (r : RP) (hr : r.ok) : ∃ l, keyOf Try.prog 31 (refV r) = some l := by
  obtain ⟨s, g, k⟩ := r
  have ha := hr.1
  have hf := u32_wf hr.2
  dsimp only at ha hf
  unfold keyOf refV
  rw [Try.underlying31]
  simp only [keyTypeRf, Bool.true_and]
  have hform : Value.formed Try.prog 31 (.agg #[.int .i64 s, .int .u32 g, .bool k]) = true := by
    simp [Value.formed, Try.underlying31, cellsRfK]
  obtain ⟨d, hd⟩ : ∃ d, Try.prog.types.size + 1 = d + 2 := ⟨Try.prog.types.size - 1, by have := rowRf; omega⟩
  rw [if_pos hform, hd]
  simp [Program.keyLits, Try.underlying31, Try.underlying3, Try.underlying29, Try.underlying4, cellsRfK, cellsINK, cellsU3K, cellsBLK, Value.cells, ha, hf]
theorem refV_inj {r r' : RP} (h : refV r = refV r') : r = r' := by
  obtain ⟨s, g, k⟩ := r
  obtain ⟨s', g', k'⟩ := r'
  simp [refV] at h
  obtain ⟨rfl, rfl, rfl⟩ := h
  rfl
/-- A map from refs to bools, in which the refs of a list are true. -/
def MapR (b n : Nat) (rs : List RP) (w : World) : Prop := ∃ D : DataW Unit, w.ownsMap Try.prog 31 (plainElem Try.prog 4) b n D ∧ ∀ r l, RP.ok r → keyOf Try.prog 31 (refV r) = some l → D.atKey l (.lit (.bool false)) = .lit (.bool (decide (r ∈ rs)))
theorem zero_bool (w : World) : (zeroValue 4).run Try.prog w = .ok (.bool false) w := by kernel_rfl
theorem plain_bool_inv {v : Value} {z : DataW Unit × List MemPlace} (h : plainElem Try.prog 4 v = some z) : ∃ x, v = .bool x ∧ z = (.lit (.bool x), []) := by
  unfold plainElem at h
  rw [Try.underlying4] at h
  split at h
  · rename_i x _
    injection h with h
    exact ⟨x, rfl, h.symm⟩
  all_goals first | (rename_i h9; cases h9; done) | (rename_i h9 _; cases h9; done) | (simp_all; done)
section
variable {w w' : World} {b n : Nat} {rs : List RP} {r : RP} {t : TypeId}
theorem key_ne {r r' : RP} {l l' : Lit} (h : keyOf Try.prog 31 (refV r) = some l) (h' : keyOf Try.prog 31 (refV r') = some l') (hne : r' ≠ r) : l' ≠ l := fun e => by
  subst e
  exact hne (refV_inj (ref_keyed.inj h' h))
theorem MapR.made (w : World) : MapR w.heap.size 0 [] (w.alloc (.map #[] 0)) := ⟨.map [], World.ownsMap_made _ _ _ _, fun r l _ _ => by simp [DataW.atKey]⟩
theorem MapR.kept {row : Option Nat} (h : MapR b n rs w) (hg : w.grownBy w' row) (hne : some b ≠ row) : MapR b n rs w' := by
  obtain ⟨D, h1, h2⟩ := h
  exact ⟨D, h1.kept hg hne, h2⟩
theorem MapR.look (h : MapR b n rs w) (ht : Try.prog.underlying t = some (.map 31 4)) (hr : r.ok) : (Instr.lookup t (.map (some b)) (refV r) false).run Try.prog w = .ok (.bool (decide (r ∈ rs))) w := by
  obtain ⟨D, h1, h2⟩ := h
  obtain ⟨l, hl⟩ := ref_key r hr
  obtain ⟨v, ps, hrun, hv⟩ := h1.lookup ref_keyed ht (zero_bool w) (plainElem_bool Try.underlying4 false) hl
  obtain ⟨x, rfl, hx⟩ := plain_bool_inv hv
  rw [h2 r l hr hl] at hx
  simp only [Prod.mk.injEq, DataW.lit.injEq, Lit.bool.injEq] at hx
  rw [hrun, hx.1]
theorem MapR.put (h : MapR b n rs w) (ht : Try.prog.underlying t = some (.map 31 4)) (hn : n < maxLen) (hr : r.ok) : ∃ w', (Instr.mapUpdate t (.map (some b)) (refV r) (.bool true)).run Try.prog w = .ok () w' ∧ MapR b (n + 1) (r :: rs) w' ∧ w.grownBy w' (some b) := by
  obtain ⟨D, h1, h2⟩ := h
  obtain ⟨l, hl⟩ := ref_key r hr
  obtain ⟨w', hrun, h3, h4⟩ := h1.store ref_keyed ht hn hl (plainElem_bool Try.underlying4 true)
  refine ⟨w', hrun, ⟨_, h3, fun r' l' hr' hl' => ?_⟩, h4.grown⟩
  by_cases e : r' = r
  · subst e
    rw [hl] at hl'
    injection hl' with hl'
    subst hl'
    rw [atKey_put_same h1.isMap (ref_keyed.key hl)]
    simp
  · rw [atKey_put_other (key_ne hl hl' e), h2 r' l' hr' hl']
    simp [e]
theorem MapR.del (h : MapR b n rs w) (ht : Try.prog.underlying t = some (.map 31 4)) (hr : r.ok) (ty : TypeId) : ∃ w', (Builtin.delete_ #[t, 31] ty #[.map (some b), refV r]).run Try.prog w = .ok (.tuple #[]) w' ∧ MapR b n (rs.filter fun x => decide (x ≠ r)) w' ∧ w.grownBy w' (some b) := by
  obtain ⟨D, h1, h2⟩ := h
  obtain ⟨l, hl⟩ := ref_key r hr
  obtain ⟨w', hrun, h3, h4⟩ := h1.drop ref_keyed ht hl ty
  refine ⟨w', hrun, ⟨_, h3, fun r' l' hr' hl' => ?_⟩, h4.grown⟩
  by_cases e : r' = r
  · subst e
    rw [hl] at hl'
    injection hl' with hl'
    subst hl'
    rw [atKey_del_same]
    simp
  · rw [atKey_del_other (key_ne hl hl' e), h2 r' l' hr' hl']
    simp [e]
theorem MapR.tight {D : DataW Unit} (h : w.ownsMap Try.prog 31 (plainElem Try.prog 4) b n D) : w.ownsMap Try.prog 31 (plainElem Try.prog 4) b (Maps.size D) D := by
  obtain ⟨es, clock, hb, F, hs, rfl⟩ := h
  exact ⟨es, clock, hb, F, by rw [size_eq, length_read]; exact Nat.le_refl _, rfl⟩
/-- One that is there goes: the map is the smaller by one. -/
theorem MapR.del1 (h : MapR b (n + 1) rs w) (ht : Try.prog.underlying t = some (.map 31 4)) (hr : r.ok) (hm : r ∈ rs) (ty : TypeId) : ∃ w', (Builtin.delete_ #[t, 31] ty #[.map (some b), refV r]).run Try.prog w = .ok (.tuple #[]) w' ∧ MapR b n (rs.filter fun x => decide (x ≠ r)) w' ∧ w.grownBy w' (some b) := by
  obtain ⟨D, h1, h2⟩ := h
  obtain ⟨l, hl⟩ := ref_key r hr
  obtain ⟨w', hrun, h3, h4⟩ := h1.drop ref_keyed ht hl ty
  have hhas : has D l = true := by
    cases hh : has D l
    · have := atKey_of_not_has hh (.lit (.bool false))
      rw [h2 r l hr hl] at this
      simp [hm] at this
    · rfl
  have hsz : Maps.size (D.del l) ≤ n := by
    have e := size_del (h1.tidy ref_keyed) (k := l)
    rw [hhas] at e
    have := h1.size_le
    simp at e
    omega
  refine ⟨w', hrun, ⟨_, (MapR.tight h3).mono hsz, fun r' l' hr' hl' => ?_⟩, h4.grown⟩
  by_cases e : r' = r
  · subst e
    rw [hl] at hl'
    injection hl' with hl'
    subst hl'
    rw [atKey_del_same]
    simp
  · rw [atKey_del_other (key_ne hl hl' e), h2 r' l' hr' hl']
    simp [e]
end
end Go.Proofs.Ythcclgnadhcndaa
