/-
  A set of refs as it lies, entries copied; condition: numbers of their kinds.
-/
import Derived.Test.YthcclgnadhcndaaRK2
import Derived.Laws.CopyRow
namespace Go.Proofs.Ythcclgnadhcndaa
open Go.RowKit Go.Maps

/-- A set in which the refs of a list are. -/
def MapU (b n : Nat) (rs : List RP) (w : World) : Prop := ∃ D : DataW Unit, w.ownsMap Try.prog 31 unitElem b n D ∧ ∀ r l, RP.ok r → keyOf Try.prog 31 (refV r) = some l → has D l = decide (r ∈ rs)
theorem zero_unit (w : World) : (zeroValue 57).run Try.prog w = .ok (.agg #[]) w := by kernel_rfl
section
variable {w w' : World} {b n : Nat} {rs : List RP} {r : RP} {t : TypeId}
theorem MapU.made (w : World) : MapU w.heap.size 0 [] (w.alloc (.map #[] 0)) := ⟨.map [], World.ownsMap_made _ _ _ _, fun r l _ _ => by simp [has_eq]⟩
theorem MapU.kept {row : Option Nat} (h : MapU b n rs w) (hg : w.grownBy w' row) (hne : some b ≠ row) : MapU b n rs w' := by
  obtain ⟨D, h1, h2⟩ := h
  exact ⟨D, h1.kept hg hne, h2⟩
theorem MapU.lt (h : MapU b n rs w) : b < w.heap.size := by
  obtain ⟨D, h1, _⟩ := h
  exact h1.lt
theorem MapU.same (h : MapU b n rs w) (hs : w'.heap[b]? = w.heap[b]?) : MapU b n rs w' := by
  obtain ⟨D, ⟨es, clock, hb, rest⟩, h2⟩ := h
  exact ⟨D, ⟨es, clock, hs.trans hb, rest⟩, h2⟩
theorem MapU.below (h : MapU b n rs w) (hb : Below w.heap.size w w') : MapU b n rs w' := h.same (hb.block b h.lt)
theorem MapU.ne {q : Nat} {u : TypeId} {cs : List Value} (h : MapU b n rs w) (k : Bq q u cs w) : b ≠ q := by
  rintro rfl
  obtain ⟨D, ⟨es, clock, hb, _⟩, _⟩ := h
  unfold Bq at k
  rw [hb] at k
  cases k
theorem MapU.look (h : MapU b n rs w) (ht : Try.prog.underlying t = some (.map 31 57)) (hr : r.ok) : (Instr.lookup t (.map (some b)) (refV r) true).run Try.prog w = .ok (.tuple #[.agg #[], .bool (decide (r ∈ rs))]) w := by
  obtain ⟨D, h1, h2⟩ := h
  obtain ⟨l, hl⟩ := ref_key r hr
  obtain ⟨v, ps, hrun, hv⟩ := h1.look_ok ref_keyed ht (zero_unit w) unitElem_mk hl
  obtain ⟨rfl, _⟩ := unitElem_inv hv
  rw [hrun, h2 r l hr hl]
theorem look_none (ht : Try.prog.underlying t = some (.map 31 57)) (hr : r.ok) (w : World) : (Instr.lookup t (.map none) (refV r) true).run Try.prog w = .ok (.tuple #[.agg #[], .bool false]) w := by
  obtain ⟨l, hl⟩ := ref_key r hr
  exact look_nil true ref_keyed ht (zero_unit w) hl
theorem MapU.put (h : MapU b n rs w) (ht : Try.prog.underlying t = some (.map 31 57)) (hn : n < maxLen) (hr : r.ok) : ∃ w', (Instr.mapUpdate t (.map (some b)) (refV r) (.agg #[])).run Try.prog w = .ok () w' ∧ MapU b (n + 1) (r :: rs) w' ∧ w.grownBy w' (some b) := by
  obtain ⟨D, h1, h2⟩ := h
  obtain ⟨l, hl⟩ := ref_key r hr
  obtain ⟨w', hrun, h3, h4⟩ := h1.store ref_keyed ht hn hl unitElem_mk
  refine ⟨w', hrun, ⟨_, h3, fun r' l' hr' hl' => ?_⟩, h4.grown⟩
  by_cases e : r' = r
  · subst e
    rw [hl] at hl'
    injection hl' with hl'
    subst hl'
    rw [has_put_same h1.isMap (ref_keyed.key hl)]
    simp
  · rw [has_put_other (key_ne hl hl' e), h2 r' l' hr' hl']
    simp [e]
/-- One that is there goes: the set is the smaller by one. -/
theorem MapU.del (h : MapU b (n + 1) rs w) (ht : Try.prog.underlying t = some (.map 31 57)) (hr : r.ok) (hm : r ∈ rs) (ty : TypeId) : ∃ w', (Builtin.delete_ #[t, 31] ty #[.map (some b), refV r]).run Try.prog w = .ok (.tuple #[]) w' ∧ MapU b n (rs.filter fun x => decide (x ≠ r)) w' ∧ w.grownBy w' (some b) := by
  obtain ⟨D, h1, h2⟩ := h
  obtain ⟨l, hl⟩ := ref_key r hr
  obtain ⟨w', hrun, h3, h4⟩ := h1.drop ref_keyed ht hl ty
  have hhas : has D l = true := by
    rw [h2 r l hr hl]
    simp [hm]
  have hsz : Maps.size (D.del l) ≤ n := by
    have e := size_del (h1.tidy ref_keyed) (k := l)
    rw [hhas] at e
    have := h1.size_le
    simp at e
    omega
  have hti : w'.ownsMap Try.prog 31 unitElem b (Maps.size (D.del l)) (D.del l) := by
    generalize D.del l = E at h3
    obtain ⟨es, clock, hb, F, hs, rfl⟩ := h3
    exact ⟨es, clock, hb, F, by rw [size_eq, length_read]; exact Nat.le_refl _, rfl⟩
  refine ⟨w', hrun, ⟨_, hti.mono hsz, fun r' l' hr' hl' => ?_⟩, h4.grown⟩
  by_cases e : r' = r
  · subst e
    rw [hl] at hl'
    injection hl' with hl'
    subst hl'
    rw [has_del_same]
    simp
  · rw [has_del_other (key_ne hl hl' e), h2 r' l' hr' hl']
    simp [e]
theorem MapU.perm {rs' : List RP} (h : MapU b n rs w) (hp : ∀ r, r ∈ rs ↔ r ∈ rs') : MapU b n rs' w := by
  obtain ⟨D, h1, h2⟩ := h
  exact ⟨D, h1, fun r l hr hl => by rw [h2 r l hr hl]; simp [hp r]⟩
end
/-- delete, as a step of a region that draws. -/
theorem step_delete {w : World} {ops : Array Oper} {o : Oper} {a : Act} {K : Act → World → Prop} {Q : Exit → Act → World → Prop} {E : Prop} (hgd : o.guard = none) (m x : Operand) (t : TypeId)
    (ho : o.op = .call { callee := .builtin .delete, args := #[m, x], argTypes := #[t, 31] }) (ht : Try.prog.underlying t = some (.map 31 57)) {b n : Nat} {rs : List RP} (h : MapU b (n + 1) rs w) {r : RP} (hr : r.ok) (hm : r ∈ rs) (hv : a.eval m = .map (some b)) (hx : a.eval x = refV r)
    (hK : ∀ w', MapU b n (rs.filter fun x => decide (x ≠ r)) w' → w.grownBy w' (some b) → K (a.put o.dst (.tuple #[])) w') :
    if Region.wanted o (yielded ops a.tmps) = true then Oper.wp Try.prog o a w K Q else E := by
  have hw : Region.wanted o (yielded ops a.tmps) = true := by simp [Region.wanted, hgd]
  rw [if_pos hw]
  obtain ⟨w', hrun, h2, h3⟩ := h.del ht hr hm o.type
  unfold Oper.wp execOp
  simp only [ho, resolve, invoke, builtin, Sem.run_bind, Sem.run_pure, Result.andThen_ok, List.map_toArray, List.map_cons, List.map_nil, hv, hx, hrun]
  exact hK w' h2 h3
theorem SeeE.reads {w : World} {g off n c : Nat} {l : List EP} (h : SeeE w (.slice (some ⟨g, off, none⟩) n c) l) : ∀ j u, (flatE l)[j]? = some u → w.cell? ((⟨g, off, none⟩ : Addr).add j) = some u := by
  rcases h with ⟨e, _⟩ | ⟨g', off', c', e, _, _, hr⟩
  · cases e
  · injection e with e1 e2 e3
    injection e1 with e1
    injection e1 with e4 e5 e6
    subst e4 e5
    exact SeeE.reads' hr
/-- Cells of a row copied into another. -/
theorem run_copy_any {P : Program} (w : World) (dT sT ty elem : TypeId) (i : TypeInfo) (size : Nat) (g o dLen dCap : Nat) (a : Addr) (sLen sCap : Nat) (cur : Array Value) (t : TypeId) (cs : List Value)
    (hu : P.underlying dT = some (.slice elem)) (hi : P.info? elem = some i) (hz : i.size = size)
    (hg : w.heap[g]? = some (.cells cur t (0, 0))) (hn : cs.length = Nat.min sLen dLen * size)
    (hsrc : ∀ j v, cs[j]? = some v → w.cell? (a.add j) = some v) (hfit : o + cs.length ≤ cur.size) (h1 : ∀ v ∈ cs, v.oneCell' = true) :
    (Builtin.copy_ #[dT, sT] ty #[.slice (some ⟨g, o, none⟩) dLen dCap, .slice (some a) sLen sCap]).run P w =
      .ok (goInt (Nat.min sLen dLen : Nat)) (w.setRow g (cur.toList.take o ++ cs ++ cur.toList.drop (o + cs.length)).toArray) := by
  have hl := run_loadCells_list (P := P) w a cs hsrc
  have hst := run_storeCells_at P g o t cs 0 cur w hg (by simpa using hfit) h1
  simp [Builtin.copy_, run_underlying hu, Builtin.lenOf, Builtin.firstCells, sizeOf, typeInfo, hi, hz, ← hn, hl, hst]
/-- A row of the call's own filled from another of as many cells. -/
theorem wpList_copy_fill {P : Program} {w : World} {ops : Array Oper} {rest : List Oper} {o : Oper} {a : Act} {Q : Exit → Act → World → Prop} (hgd : o.guard = none) (d s : Operand) (dT sT : TypeId)
    (ho : o.op = .call { callee := .builtin .copy, args := #[d, s], argTypes := #[dT, sT] }) (elem : TypeId) (hu : P.underlying dT = some (.slice elem)) (i : TypeInfo) (size : Nat) (hi : P.info? elem = some i) (hz : i.size = size)
    (g n dCap : Nat) (ad : Addr) (sCap : Nat) (hd : a.eval d = .slice (some ⟨g, 0, none⟩) n dCap) (hs : a.eval s = .slice (some ad) n sCap)
    (t : TypeId) (zs cs : List Value) (hg : Bq g t zs w) (hl : zs.length = cs.length) (hn : cs.length = n * size)
    (hsrc : ∀ j v, cs[j]? = some v → w.cell? (ad.add j) = some v) (h1 : ∀ v ∈ cs, v.oneCell' = true)
    (h : ∀ w', Bq g t cs w' → Kp [g] w w' → wpList P ops Q rest (a.put o.dst (.int .i64 n)) w') : wpList P ops Q (o :: rest) a w := by
  refine wpList_plain hgd fun K hK => ?_
  have hrun := run_copy_any (P := P) w dT sT o.type elem i size g 0 n dCap ad n sCap zs.toArray t cs hu hi hz hg (by rw [hn]; simp) hsrc (by simp; omega) h1
  have e : (zs.toArray.toList.take 0 ++ cs ++ zs.toArray.toList.drop (0 + cs.length)) = cs := by simp [List.drop_eq_nil_of_le, hl]
  rw [e] at hrun
  unfold Oper.wp
  simp [execOp, ho, resolve, invoke, builtin, hd, hs, hrun, Result.andThen]
  refine hK _ _ ?_
  have hk := h (w.setRow g cs.toArray) (setRow_heap w g _ _ t _ hg) ⟨rfl, rfl, rfl, by simp [World.setRow], fun k hk he => setRow_other w g k cs.toArray (by simpa using he)⟩
  simpa [goInt] using hk
end Go.Proofs.Ythcclgnadhcndaa
