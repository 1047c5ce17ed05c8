/-
  Rows of Booleans: where one is read, where one is the call's own; appends of them; condition: it lies as it says.
-/
import Derived.Test.YthcclgnadhcndaaRP1
namespace Go.Proofs.Ythcclgnadhcndaa
open Go.RowKit

theorem infoBo : (Try.prog.info? 4).map (fun i => (i.zero, i.size, i.bytes)) = some (some (.bool false), 1, 1) := by kernel_rfl
def bls (bs : List Bool) : List Value := bs.map .bool
theorem bls_len (bs : List Bool) : (bls bs).length = bs.length := List.length_map ..
theorem bls_app (a b : List Bool) : bls (a ++ b) = bls a ++ bls b := List.map_append
theorem bls_one (bs : List Bool) : ∀ u ∈ bls bs, u.oneCell' = true := fun u hu => by
  obtain ⟨b, _, rfl⟩ := List.mem_map.1 hu
  rfl
/-- A row that is read. -/
def SeeB (w : World) (v : Value) (bs : List Bool) : Prop := (v = .slice none 0 0 ∧ bs = []) ∨ ∃ g off c, v = .slice (some ⟨g, off, none⟩) bs.length c ∧ bs.length ≤ c ∧ c ≤ 9223372036854775807 ∧ ∀ j u, (bls bs)[j]? = some u → w.cell? ⟨g, off + j, none⟩ = some u
/-- A row that a cell says. -/
def BoolV (w : World) (v : Value) (bs : List Bool) : Prop := SeeB w v bs ∨ ∃ a c, v = .slice (some a) 0 c ∧ bs = []
/-- A row of the call's own. -/
def OwnB (w : World) (B : Nat) (v : Value) (bs : List Bool) : Prop := w.ownsRow B 4 1 v bs.length (bls bs)
/-- What a sweep reads of it. -/
def fB (bs : List Bool) (i : Nat) : Bool := bs.getD i false
section
variable {w w' : World} {B : Nat} {v : Value} {bs : List Bool}
theorem SeeB.below (h : SeeB w v bs) (hb : Below w.heap.size w w') : SeeB w' v bs := by
  rcases h with h | ⟨g, off, c, rfl, h1, h2, h3⟩
  · exact .inl h
  · exact .inr ⟨g, off, c, rfl, h1, h2, fun j u hu => (hb.cell (p := ⟨g, off + j, none⟩) (World.block_lt_of_cell? w _ (h3 j u hu))).trans (h3 j u hu)⟩
theorem BoolV.below (h : BoolV w v bs) (hb : Below w.heap.size w w') : BoolV w' v bs := by
  rcases h with h | h
  · exact .inl (h.below hb)
  · exact .inr h
theorem SeeB.len {A : Option Addr} {n c : Nat} (h : SeeB w (.slice A n c) bs) : n = bs.length := by
  rcases h with ⟨e, rfl⟩ | ⟨g, off, c', e, _⟩
  · injection e
  · injection e
theorem BoolV.len {A : Option Addr} {n c : Nat} (h : BoolV w (.slice A n c) bs) : n = bs.length := by
  rcases h with h | ⟨a, c', e, rfl⟩
  · exact h.len
  · injection e with _ e2
theorem SeeB.addr {A : Option Addr} {n c : Nat} (h : SeeB w (.slice A n c) bs) (hn : 0 < n) : n ≤ c ∧ c ≤ 9223372036854775807 ∧ ∃ g off, A = some ⟨g, off, none⟩ := by
  rcases h with ⟨e, _⟩ | ⟨g, off, c', e, h1, h2, _⟩
  · injection e with _ e2; omega
  · injection e with e1 e2 e3
    subst e1 e2 e3
    exact ⟨h1, h2, g, off, rfl⟩
theorem BoolV.see {A : Option Addr} {n c : Nat} (h : BoolV w (.slice A n c) bs) (hn : 0 < n) : SeeB w (.slice A n c) bs := by
  rcases h with h | ⟨a, c', e, rfl⟩
  · exact h
  · injection e with _ e2; omega
theorem SeeB.at_ {g off n c : Nat} (h : SeeB w (.slice (some ⟨g, off, none⟩) n c) bs) {j : Nat} (hj : j < bs.length) : w.cell? ⟨g, off + j, none⟩ = some (.bool (bs.getD j false)) := by
  rcases h with ⟨e, _⟩ | ⟨g', off', c', e, _, _, h3⟩
  · cases e
  · injection e with e1 e2 e3
    injection e1 with e1
    injection e1 with e1 e4
    subst e1 e4
    exact h3 j _ (by unfold bls; rw [List.getElem?_map, List.getD_eq_getElem?_getD, List.getElem?_eq_getElem hj]; rfl)
theorem SeeB.reads {g off n c : Nat} (h : SeeB w (.slice (some ⟨g, off, none⟩) n c) bs) : ∀ j u, (bls bs)[j]? = some u → w.cell? ((⟨g, off, none⟩ : Addr).add j) = some u := by
  rcases h with ⟨e, _⟩ | ⟨g', off', c', e, _, _, hr⟩
  · cases e
  · injection e with e1 e2 e3
    injection e1 with e1
    injection e1 with e4 e5 e6
    subst e4 e5
    intro j u hj
    have h9 := hr j u hj
    by_cases h0 : j = 0
    · subst h0
      simpa [Addr.add] using h9
    · simpa [Addr.add, h0] using h9
theorem OwnB.nil (w : World) (B : Nat) : OwnB w B (.slice none 0 0) [] := World.ownsRow_nil _ _ _ _
theorem OwnB.see (h : OwnB w B v bs) : SeeB w v bs := by
  obtain ⟨_, h⟩ := h
  rcases h with ⟨rfl, h0⟩ | ⟨g, cap, cur, rfl, _, hg, hc, hm, hs, ht⟩
  · exact .inl ⟨rfl, List.length_eq_zero_iff.1 h0⟩
  · refine .inr ⟨g, 0, cap, rfl, hc, by unfold maxLen at hm; exact hm, fun j u hu => ?_⟩
    have hj : j < bs.length * 1 := by have := (List.getElem?_eq_some_iff.1 hu).1; rw [bls_len] at this; omega
    rw [← ht, List.getElem?_take, if_pos hj] at hu
    rw [Nat.zero_add, cell_of_row w g j cur _ (0, 0) hg]
    simpa using hu
theorem OwnB.same (h : OwnB w B v bs) (hs : ∀ g, v.ownBlock = some g → w'.heap[g]? = w.heap[g]?) : OwnB w' B v bs := by
  obtain ⟨h1, h⟩ := h
  refine ⟨h1, ?_⟩
  rcases h with h | ⟨g, cap, cur, rfl, hb, hg, rest⟩
  · exact .inl h
  · exact .inr ⟨g, cap, cur, rfl, hb, (hs g rfl).trans hg, rest⟩
theorem OwnB.bq (h : OwnB w B v bs) {g : Nat} (hg : v.ownBlock = some g) : B ≤ g ∧ ∃ cs, Bq g 4 cs w := by
  obtain ⟨_, h⟩ := h
  rcases h with ⟨rfl, _⟩ | ⟨g', cap, cur, rfl, hb, hh, _⟩
  · cases hg
  · obtain rfl : g' = g := by simpa [Value.ownBlock] using hg
    exact ⟨hb, cur.toList, by unfold Bq; simpa using hh⟩
theorem OwnB.lt (h : OwnB w B v bs) {g : Nat} (hg : v.ownBlock = some g) : g < w.heap.size := by obtain ⟨_, cs, k⟩ := h.bq hg; exact k.lt
theorem OwnB.below (h : OwnB w B v bs) (hb : Below w.heap.size w w') : OwnB w' B v bs := h.same fun _ hg => hb.block _ (h.lt hg)
/-- Booleans behind a row of the call's own. -/
theorem wpList_append_bools {ops : Array Oper} {rest : List Oper} {oo : Oper} {a : Act} {Q : Exit → Act → World → Prop} {i0 : TypeInfo} (hi0 : Try.prog.info? 4 = some i0) (hz0 : i0.zero = some (.bool false)) (hz1 : i0.size = 1) (hz2 : i0.bytes = 1) (hgd : oo.guard = none) (s x : Operand)
    (ho : oo.op = .call { callee := .builtin .append, args := #[s, x], argTypes := #[35, 35] })
    (base : Nat) (v : Value) (xs : List Bool) (hs : a.eval s = v) (hown : OwnB w base v xs) (vx : Value) (ys : List Bool) (hx : a.eval x = vx) (hy : BoolV w vx ys) (hl : xs.length + ys.length < 100000) (hbase : base ≤ w.heap.size)
    (h : ∀ v' w', OwnB w' base v' (xs ++ ys) → w.grownBy w' v.ownBlock → (v'.ownBlock = v.ownBlock ∨ v'.ownBlock = some w.heap.size) → wpList Try.prog ops Q rest (a.put oo.dst v') w') : wpList Try.prog ops Q (oo :: rest) a w := by
  have key : ∀ v' w', w'.ownsRow base 4 1 v' (xs.length + ys.length) (bls xs ++ bls ys) → OwnB w' base v' (xs ++ ys) := fun v' w' h => by
    unfold OwnB
    rw [List.length_append, bls_app]
    exact h
  rcases hy with hy | ⟨ad, c, rfl, rfl⟩
  · rcases hy with ⟨rfl, rfl⟩ | ⟨g, off, c, rfl, h1, h2, hr⟩
    · refine wpList_append_own_none hgd s x 35 ho base 4 i0 1 Try.underlying35 hi0 v xs.length (bls xs) hs hown hx (h v w ?_ ⟨rfl, rfl, rfl, Nat.le_refl _, fun _ _ _ => rfl⟩ (.inl rfl))
      rw [List.append_nil]
      exact hown
    · have hsee : SeeB w (.slice (some ⟨g, off, none⟩) ys.length c) ys := .inr ⟨g, off, c, rfl, h1, h2, hr⟩
      exact wpList_append_own_at _ hgd s x 35 ho base 4 i0 _ 1 1 Try.underlying35 hi0 hz0 hz1 hz2 rfl (by decide) v xs.length (bls xs) hs hown ⟨g, off, none⟩ ys.length c (bls ys) hx (by rw [bls_len, Nat.mul_one]) hsee.reads (bls_one ys) (by unfold maxLen; omega) (by omega) hbase fun v' w' h1 h2 _ h4 => h v' w' (key v' w' h1) h2 h4
  · exact wpList_append_own_at _ hgd s x 35 ho base 4 i0 _ 1 1 Try.underlying35 hi0 hz0 hz1 hz2 rfl (by decide) v xs.length (bls xs) hs hown ad 0 c [] hx rfl (by simp) (by simp) (by simp at hl; unfold maxLen; omega) (by simp at hl; omega) hbase fun v' w' h1 h2 _ h4 => h v' w' (key v' w' (by simpa [bls] using h1)) h2 h4
end
end Go.Proofs.Ythcclgnadhcndaa
