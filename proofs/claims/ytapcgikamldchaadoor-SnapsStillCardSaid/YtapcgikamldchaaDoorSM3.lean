/-
  What Words tells of a memory: the words that are not 0, in order, and they alone; two words compared; condition: the memory lies as it says.
-/
import Derived.Test.YtapcgikamldchaaDoorSM2
import Derived.Test.YtapcgikamldchaaDoorV0
import Derived.Test.YtapcgikamldchaaDoorS1
namespace Go.Proofs.YtapcgikamldchaaDoor
open Go.RowKit Go.Maps

theorem less_asym {x y : Ad} (h : x.less y = true) : y.less x = false := by
  rw [Ad.less_iff] at h
  cases hq : y.less x with
  | false => rfl
  | true =>
    rw [Ad.less_iff] at hq
    omega
/-- One order, one list. -/
theorem sorted_one : ∀ (a b : List Ad), a.Pairwise (fun x y => x.less y = true) → b.Pairwise (fun x y => x.less y = true) → (∀ x, x ∈ a ↔ x ∈ b) → a = b
  | [], [], _, _, _ => rfl
  | [], y :: b, _, _, h => absurd ((h y).2 List.mem_cons_self) (by simp)
  | x :: a, [], _, _, h => absurd ((h x).1 List.mem_cons_self) (by simp)
  | x :: a, y :: b, ha, hb, h => by
    obtain ⟨ha1, ha2⟩ := List.pairwise_cons.1 ha
    obtain ⟨hb1, hb2⟩ := List.pairwise_cons.1 hb
    have irr : ∀ z : Ad, z.less z = true → False := fun z hz => by
      have := less_asym hz
      rw [hz] at this
      cases this
    have hxy : x = y := by
      rcases List.mem_cons.1 ((h x).1 List.mem_cons_self) with e | hx
      · exact e
      · rcases List.mem_cons.1 ((h y).2 List.mem_cons_self) with e | hy
        · exact e.symm
        · have h1 := hb1 x hx
          have h2 := less_asym (ha1 y hy)
          rw [h1] at h2
          cases h2
    subst hxy
    rw [sorted_one a b ha2 hb2 fun z => ?_]
    constructor
    · intro hz
      rcases List.mem_cons.1 ((h z).1 (List.mem_cons_of_mem _ hz)) with e | h9
      · exact (irr x (e ▸ ha1 z hz)).elim
      · exact h9
    · intro hz
      rcases List.mem_cons.1 ((h z).2 (List.mem_cons_of_mem _ hz)) with e | h9
      · exact (irr x (e ▸ hb1 z hz)).elim
      · exact h9
theorem val_eq (D : DataW Unit) (x : Ad) : valOf D x = valD D x := by
  unfold valOf valD
  generalize D.atKey x.lit (.lit (.int .u64 0)) = d
  cases d with
  | lit l => cases l <;> rfl
  | _ => rfl
/-- The words of a memory, in order. -/
def WordsV (V : Ad → Int) (ts : List Ad) : Prop := ts.Pairwise (fun x y => x.less y = true) ∧ ∀ x, x ∈ ts ↔ V x ≠ 0
theorem WordsV.one {V : Ad → Int} {a b : List Ad} (ha : WordsV V a) (hb : WordsV V b) : a = b := sorted_one a b ha.1 hb.1 fun x => (ha.2 x).trans (hb.2 x).symm
/-- A row of words. -/
def RowV (W : World) (B : Nat) (v : Value) (V : Ad → Int) (ts : List Ad) : Prop := (v = .slice none 0 0 ∧ ts = []) ∨ ∃ g, v = .slice (some ⟨g, 0, none⟩) ts.length ts.length ∧ W.ownsRow B 67 4 (.slice (some ⟨g, 0, none⟩) ts.length ts.length) ts.length (flatW (ts.map fun x => (x, V x)))
section
variable {w w' : World} {p b B : Nat} {M : MV} {v : Value} {V : Ad → Int} {ts : List Ad}
theorem RowV.below (h : RowV w B v V ts) (hb : Below w.heap.size w w') : RowV w' B v V ts := by
  rcases h with h | ⟨g, rfl, h1, h2⟩
  · exact .inl h
  · refine .inr ⟨g, rfl, h1, ?_⟩
    rcases h2 with h2 | ⟨g', cap, cur, e, hB, hg, rest⟩
    · exact .inl h2
    · exact .inr ⟨g', cap, cur, e, hB, (hb.block g' (Array.getElem?_eq_some_iff.1 hg).1).trans hg, rest⟩
theorem RowV.onl (h : RowV w B v V ts) (F : VX p b M w) (o : Onl p b [] w w') : RowV w' B v V ts := by
  rcases h with h | ⟨g, rfl, h1, h2⟩
  · exact .inl h
  · refine .inr ⟨g, rfl, h1, ?_⟩
    rcases h2 with h2 | ⟨g', cap, cur, e, hB, hg, rest⟩
    · exact .inl h2
    · have kg : Bq g' 67 cur.toList w := by unfold Bq; simpa using hg
      obtain ⟨n1, n2⟩ := F.ne (by decide) kg
      exact .inr ⟨g', cap, cur, e, hB, (o.block g' kg.lt n1 n2 (by simp)).trans hg, rest⟩
theorem flatW_len : ∀ l : List (Ad × Int), (flatW l).length = l.length * 4
  | [] => rfl
  | x :: r => by
    have := flatW_len r
    unfold flatW at this ⊢
    rw [List.flatMap_cons, List.length_append, this, List.length_cons]
    show 4 + _ = _
    omega
theorem flatW_at : ∀ (l : List (Ad × Int)) (j i : Nat) (x : Ad × Int), l[j]? = some x → i < 4 → (flatW l)[j * 4 + i]? = (wordCells x)[i]?
  | [], _, _, _, h, _ => by simp at h
  | y :: r, 0, i, x, h, hi => by
    simp only [List.getElem?_cons_zero, Option.some.injEq] at h
    subst h
    unfold flatW
    rw [List.flatMap_cons, List.getElem?_append_left (by show _ < 4; omega)]
    simp
  | y :: r, j + 1, i, x, h, hi => by
    have := flatW_at r j i x (by simpa using h) hi
    unfold flatW at this ⊢
    rw [List.flatMap_cons, List.getElem?_append_right (by show 4 ≤ _; omega), show (wordCells y).length = 4 from rfl, show (j + 1) * 4 + i - 4 = j * 4 + i by omega, this]
/-- One of its words. -/
theorem RowV.four (h : RowV w B v V ts) {j : Nat} (hj : j < ts.length) : ∃ (g : Nat) (x : Ad), v = .slice (some ⟨g, 0, none⟩) ts.length ts.length ∧ ts[j]? = some x ∧ w.cell? ⟨g, j * 4, none⟩ = some (.int .u8 x.k) ∧ w.cell? ⟨g, j * 4 + 1, none⟩ = some (.int .i64 x.a) ∧ w.cell? ⟨g, j * 4 + 2, none⟩ = some (.int .i64 x.f) ∧ w.cell? ⟨g, j * 4 + 3, none⟩ = some (.int .u64 (V x)) := by
  rcases h with ⟨rfl, rfl⟩ | ⟨g, rfl, h1, h2⟩
  · simp at hj
  · have hx : ts[j]? = some ts[j] := List.getElem?_eq_getElem hj
    refine ⟨g, ts[j], rfl, hx, ?_⟩
    rcases h2 with ⟨e, _⟩ | ⟨g', cap, cur, e, hB, hg, hc, hm, hs, ht⟩
    · cases e
    · injection e with e1 e2 e3
      injection e1 with e1
      injection e1 with e1
      subst e1
      have hl : (ts.map fun x => (x, V x))[j]? = some (ts[j], V ts[j]) := by rw [List.getElem?_map, hx]; rfl
      have key : ∀ i, i < 4 → w.cell? ⟨g, j * 4 + i, none⟩ = (wordCells (ts[j], V ts[j]))[i]? := fun i hi => by
        rw [← flatW_at _ j i _ hl hi, ← ht, List.getElem?_take, if_pos (by omega), cell_of_row w g _ cur _ (0, 0) hg]
        simp
      exact ⟨key 0 (by decide), key 1 (by decide), key 2 (by decide), key 3 (by decide)⟩
theorem VX.words (F : VX p b M w) (hs : M.s.st ≤ 1000000) : Calls Tryd.prog 23 #[.pointer (some ⟨p, 0, none⟩)] w fun e w' => ∃ (ts : List Ad) (A : Option Addr), e = .returned (.slice A ts.length ts.length) ∧ WordsV M.V ts ∧ RowV w' w.heap.size (.slice A ts.length ts.length) M.V ts ∧ Below w.heap.size w w' ∧ ts.length ≤ 1000000 := by
  obtain ⟨⟨n, D, h1, h2, h3, h4⟩, _, _, _, _⟩ := F
  have hsz := h3.own.size_le
  by_cases hz : Maps.size D = 0
  · refine (words_none p b n D hz w (h3.cell 0) h3.own).mono ?_
    rintro e w' ⟨rfl, rfl⟩
    refine ⟨[], none, rfl, ⟨List.Pairwise.nil, fun x => ?_⟩, .inl ⟨rfl, rfl⟩, Below.refl _ _, by simp⟩
    have hno : Maps.has D x.lit = false := by
      obtain ⟨es, rfl⟩ := h2.map
      rw [size_eq] at hz
      obtain rfl := List.length_eq_zero_iff.1 hz
      rfl
    rw [← h4 x, ← h2.has x, hno]
    simp
  · refine (words_any p b n D (by omega) (by omega) _ _ w h3.blk rfl h3.own).mono ?_
    rintro e w' ⟨g, ts, rfl, hts, hrow, hb⟩
    have hw : wordsOf D ts = ts.map fun x => (x, M.V x) := by
      unfold wordsOf
      exact List.map_congr_left fun x _ => by rw [val_eq, h4]
    rw [hw] at hrow
    exact ⟨ts, _, rfl, ⟨hts.1, fun x => by rw [hts.2.1 x, h2.has x, h4 x]⟩, .inr ⟨g, rfl, hrow⟩, hb, by have := hts.2.2; omega⟩
end
set_option maxRecDepth 100000 in
theorem neq_word (k a f v : Int) (w : World) : (binOp .neq 67 (.agg #[.int .u8 k, .int .i64 a, .int .i64 f, .int .u64 v]) (.agg #[.int .u8 k, .int .i64 a, .int .i64 f, .int .u64 v])).run Tryd.prog w = .ok (.bool false) w := by
  have hS : Tryd.prog.underlying 67 = some (.struct (Tryd.prog.fieldsOf 67)) := by kernel_rfl
  have hp : Tryd.prog.stoodInHeld 67 = false := by kernel_rfl
  have hS1 : Tryd.prog.underlying 42 = some (.struct (Tryd.prog.fieldsOf 42)) := by kernel_rfl
  have hp1 : Tryd.prog.stoodInHeld 42 = false := by kernel_rfl
  have e31 : ∀ w, (Op.equalIn 9999 42 (.agg #[.int .u8 k, .int .i64 a, .int .i64 f]) (.agg #[.int .u8 k, .int .i64 a, .int .i64 f])).run Tryd.prog w = .ok true w := fun w => by
    rw [show (9999 : Nat) = 9998 + 1 from rfl, run_equalIn_agg w 9998 42 _ _ hS1 hp1]
    simp only [Program.fieldsOf, Tryd.underlying42]
    go_simp
  rw [run_neq_struct, show (10000 : Nat) = 9999 + 1 from rfl, run_equalIn_agg w 9999 67 _ _ hS hp]
  clear hS1 hp1
  simp only [Program.fieldsOf, Tryd.underlying67]
  go_simp
end Go.Proofs.YtapcgikamldchaaDoor
