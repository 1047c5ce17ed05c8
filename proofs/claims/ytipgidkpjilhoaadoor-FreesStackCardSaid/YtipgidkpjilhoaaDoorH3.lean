/-
  A list of numbers without those that came before, in plain words; what the law FreesStack holds between two steps; no condition.
-/
import Derived.Test.YtipgidkpjilhoaaDoorF8
namespace Go.Proofs.YtipgidkpjilhoaaDoor
open Go.RowKit Go.Maps

def addN (s : List Int) (z : Int) : List Int := if z ∈ s then s else s ++ [z]
def ddp (l : List Int) : List Int := l.foldl addN []
theorem ddp_take {l : List Int} {k : Nat} (h : k < l.length) : ddp (l.take (k + 1)) = addN (ddp (l.take k)) (l.getD k 0) := by
  unfold ddp
  rw [List.take_add_one, List.foldl_append, List.getElem?_eq_getElem h]
  simp [List.getD_eq_getElem?_getD, List.getElem?_eq_getElem h]
theorem addN_len (s : List Int) (z : Int) : (addN s z).length ≤ s.length + 1 := by
  unfold addN; split <;> simp
theorem ddp_len (l : List Int) : ∀ k, (ddp (l.take k)).length ≤ k := by
  intro k
  induction k with
  | zero => simp [ddp]
  | succ k ih =>
    by_cases h : k < l.length
    · rw [ddp_take h]
      have := addN_len (ddp (l.take k)) (l.getD k 0)
      omega
    · rw [List.take_of_length_le (by omega)]
      rw [List.take_of_length_le (by omega)] at ih
      omega
theorem addN_nodup {s : List Int} (h : s.Nodup) (z : Int) : (addN s z).Nodup := by
  unfold addN
  split
  · exact h
  · rename_i hz
    rw [List.nodup_append]
    refine ⟨h, by simp, fun a ha b hb => ?_⟩
    rw [List.mem_singleton.1 hb]
    rintro rfl
    exact hz ha
theorem ddp_spec (l : List Int) (hl : ∀ z ∈ l, 0 ≤ z ∧ z < 256) : (ddp l).Nodup ∧ ∀ z ∈ ddp l, 0 ≤ z ∧ z < 256 := by
  have key : ∀ (l s : List Int), (∀ z ∈ l, 0 ≤ z ∧ z < 256) → s.Nodup → (∀ z ∈ s, 0 ≤ z ∧ z < 256) → (l.foldl addN s).Nodup ∧ ∀ z ∈ l.foldl addN s, 0 ≤ z ∧ z < 256 := by
    intro l
    induction l with
    | nil => intro s _ h1 h2; exact ⟨h1, h2⟩
    | cons y r ih =>
      intro s hl h1 h2
      refine ih (addN s y) (fun z hz => hl z (by simp [hz])) (addN_nodup h1 y) (fun z hz => ?_)
      unfold addN at hz
      split at hz
      · exact h2 z hz
      · rcases List.mem_append.1 hz with h | h
        · exact h2 z h
        · rw [List.mem_singleton.1 h]; exact hl y (by simp)
  exact key l [] hl List.nodup_nil (by simp)
theorem mem_take_succ {s : List Int} {k : Nat} (h : k < s.length) (z : Int) : (decide (z ∈ s.take (k + 1))) = (decide (z ∈ s.take k) || (s.getD k 0 == z)) := by
  have hm : s.take (k + 1) = s.take k ++ [s[k]] := by
    rw [List.take_add_one, List.getElem?_eq_getElem h]
    rfl
  have hg : s.getD k 0 = s[k] := by simp [List.getD_eq_getElem?_getD, List.getElem?_eq_getElem h]
  rw [hm, hg]
  generalize s.take k = u
  generalize s[k] = y
  by_cases h1 : z ∈ u
  · simp [List.mem_append, h1]
  · by_cases h2 : y = z
    · simp [List.mem_append, h2]
    · have h3 : ¬ z = y := fun e => h2 e.symm
      simp [List.mem_append, h1, h2, h3]

theorem own_form2 {w : World} {base : Nat} {e : TypeId} {size : Nat} {A : Option Addr} {n n' c : Nat} {xs : List Value} (h : w.ownsRow base e size (.slice A n c) n' xs) (hn : 0 < n') : ∃ g, A = some ⟨g, 0, Option.none⟩ ∧ base ≤ g ∧ g < w.heap.size := by
  rcases h.2 with ⟨_, h0⟩ | ⟨g, cap, cur, hv, hg, hh, _⟩
  · omega
  · injection hv with hv
    exact ⟨g, hv, hg, (Array.getElem?_eq_some_iff.1 hh).1⟩
theorem own_cell2 {w : World} {base : Nat} {e : TypeId} {g N c n : Nat} {xs : List Value} (h : w.ownsRow base e 1 (.slice (some ⟨g, 0, Option.none⟩) N c) n xs) {j : Nat} (hj : j < n) : w.cell? ⟨g, j, Option.none⟩ = xs[j]? := by
  rcases h.2 with ⟨hv, _⟩ | ⟨g', cap, cur, hv, _, hh, _, _, _, ht⟩
  · cases hv
  · injection hv with hv
    injection hv with hv
    injection hv with hv
    subst hv
    rw [← ht, cell_of_row _ _ j cur e (0, 0) hh, List.getElem?_take, if_pos (by omega)]
    simp
theorem two_rev {s : List Int} {m : Nat} (h : s.length = m + 2) : ∃ x y, s.reverse = x :: y :: (s.take m).reverse ∧ s.getD m 0 = y := by
  have h0 : m < s.length := by omega
  have h1 : m + 1 < s.length := by omega
  have e1 : s.take (m + 1) = s.take m ++ [s[m]] := by
    rw [List.take_add_one, List.getElem?_eq_getElem h0]
    rfl
  have e2 : s.take (m + 1 + 1) = s.take (m + 1) ++ [s[m + 1]] := by
    rw [List.take_add_one, List.getElem?_eq_getElem h1]
    rfl
  have e3 : s = s.take (m + 1 + 1) := (List.take_of_length_le (by omega)).symm
  refine ⟨s[m + 1], s[m], ?_, by simp [List.getD_eq_getElem?_getD, List.getElem?_eq_getElem h0]⟩
  have e4 : s.reverse = (s.take m ++ [s[m]] ++ [s[m + 1]]).reverse := by rw [← e1, ← e2, ← e3]
  rw [e4, List.reverse_append, List.reverse_append]
  rfl
theorem SM.nd {p b n : Nat} {s : List Int} {T : Int} {w : World} (h : SM p b n s T w) : s.Nodup := by obtain ⟨_, _, _, _, h3⟩ := h; exact h3.nd
theorem sm_load {p b n : Nat} {s : List Int} {T : Int} {w : World} (h : SM p b n s T w) (hn : n < 900000) :
    Calls Tryd.prog 29 #[.pointer (some ⟨p, 0, none⟩), .agg #[.int .u8 0, .int .i64 0, .int .i64 0]] w fun e w' => e = .returned (.int .u64 (headW (topOf s) T)) ∧ SM p b (n + 1) s T w' ∧ Only p b w w' := by
  obtain ⟨st, M, h1, ⟨⟨n', D, ak, k, a, f, was, is, done, g1, g2, g3, g4, g5⟩, hl, hm, hp, hb⟩, S⟩ := h
  refine (load_prog p b n' D st ak k a f was is done adF (by omega) (by omega) w g3).mono ?_
  rintro e w' ⟨rfl, m', ho⟩
  have ho3 := Only3.of_only (q := p) ho
  rw [g4, S.hd]
  exact ⟨rfl, ⟨st + 1, M, by omega, ⟨⟨n', D, _, _, _, _, _, _, _, by omega, g2, by exact_mod_cast m', g4, g5⟩, ho3.lay hp hb hp hl, ho3.laym hp hb hp hm, hp, hb⟩, S⟩, ho⟩
/-- A row of the call's own, past a step of the memory's. -/
theorem SM.rowO {p b n : Nat} {s : List Int} {T : Int} {w w' : World} (h : SM p b n s T w) {base : Nat} {e : TypeId} {size : Nat} {v : Value} {m : Nat} {xs : List Value} (ho : w.ownsRow base e size v m xs) (he : e ≠ 107) (hk : Only p b w w') : w'.ownsRow base e size v m xs := by
  obtain ⟨_, _, _, ⟨⟨_, _, _, _, _, _, _, _, _, _, _, hm, _⟩, _⟩, _⟩ := h
  rcases ho.2 with h2 | ⟨g, cap, cur, hv, hg, hh, r⟩
  · exact ⟨ho.1, .inl h2⟩
  · refine ⟨ho.1, .inr ⟨g, cap, cur, hv, hg, (hk.block g (Array.getElem?_eq_some_iff.1 hh).1 ?_ ?_).trans hh, r⟩⟩
    · rintro rfl
      have := hm.blk.symm.trans hh
      simp only [Option.some.injEq, Obj.cells.injEq] at this
      exact he this.2.1.symm
    · rintro rfl
      obtain ⟨_, _, hb, _⟩ := hm.own
      have := hb.symm.trans hh
      simp at this
/-- What holds between two steps: the list, the row of numbers, and what was there. -/
structure SK (W : World) (p b n : Nat) (s : List Int) (T : Int) (v : Value) (xs : List Int) (w : World) : Prop where
  sm : SM p b n s T w
  low : Below W.heap.size W w
  row : w.ownsRow W.heap.size 3 1 v xs.length (xs.map iV)
  hp : W.heap.size ≤ p
  hb : W.heap.size ≤ b
section
variable {W : World} {p b n n' q : Nat} {s s' xs : List Int} {T T' : Int} {v : Value} {w w' : World} {t : TypeId} {nx h to : Int}
theorem SK.below (k : SK W p b n s T v xs w) (hb : Below w.heap.size w w') : SK W p b n s T v xs w' := ⟨k.sm.below hb, k.low.trans (hb.mono k.low.size), own_low k.row hb, k.hp, k.hb⟩
theorem SK.step (k : SK W p b n s T v xs w) (o : OpAt t q nx h to w) (ht : (3 : TypeId) ≠ t) (hq : W.heap.size ≤ q) (hs : SM p b n' s' T' w') (ho : Only3 p b q w w') : SK W p b n' s' T' v xs w' :=
  ⟨hs, k.low.trans (ho.below k.hp k.hb hq k.low.size), k.sm.row k.row (by decide) t o ht ho, k.hp, k.hb⟩
theorem SK.only (k : SK W p b n s T v xs w) (hs : SM p b n' s' T' w') (ho : Only p b w w') : SK W p b n' s' T' v xs w' :=
  ⟨hs, k.low.trans (ho.below k.hp k.hb k.low.size), k.sm.rowO k.row (by decide) ho, k.hp, k.hb⟩
theorem SK.mono (k : SK W p b n s T v xs w) (hn : n ≤ n') : SK W p b n' s T v xs w := ⟨k.sm.mono hn, k.low, k.row, k.hp, k.hb⟩
theorem SK.w1 (k : SK W p b n s T v xs w) (hW : 1 < W.heap.size) : 1 < w.heap.size := Nat.lt_of_lt_of_le hW k.low.size
end
end Go.Proofs.YtipgidkpjilhoaaDoor
