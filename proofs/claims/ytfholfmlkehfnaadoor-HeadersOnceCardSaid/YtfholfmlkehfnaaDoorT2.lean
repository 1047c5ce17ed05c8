/-
  A region that draws its order, with one call behind which nothing is known: a load of what stands still ahead of it may be taken first, if that call waits for it; no condition.
-/
import Derived.Test.YtfholfmlkehfnaaDoorT1
namespace Go.Proofs.YtfholfmlkehfnaaDoor
open Go.RowKit

section
variable {m : Nat} {P : Program} {ops : Array Oper} {md : Region.Mode} {Q : Exit → Act → World → Prop} {S : World → Prop}
/-- What waits for one of u, number by number. -/
def waits (md : Region.Mode) (ops : Array Oper) : List Nat → List Nat → List Nat
  | [], u => u
  | j :: l, u => waits md ops l (if (match ops[j]? with | some o => o.after.any (fun e => Region.binds md e && u.contains e.on) | none => false) = true then j :: u else u)
/-- Number y waits for number i. -/
def waitsB (md : Region.Mode) (ops : Array Oper) (y i : Nat) : Bool :=
  match ops[y]? with
  | some o => o.after.any fun e => Region.binds md e && (waits md ops (List.range ops.size) [i]).contains e.on
  | none => false
/-- Whatever has come had all that it waits for. -/
def Closed (md : Region.Mode) (ops : Array Oper) (done : Array Bool) : Prop := ∀ j o, ops[j]? = some o → done.getD j true = true → j < done.size → ∀ e ∈ o.after, Region.binds md e = true → done.getD e.on true = true
theorem waits_none {done : Array Bool} (hc : Closed md ops done) (hs : done.size = ops.size) : ∀ (l u : List Nat), (∀ k ∈ u, done.getD k true = false) → ∀ k ∈ waits md ops l u, done.getD k true = false
  | [], _, h => h
  | j :: l, u, h => by
    refine waits_none hc hs l _ fun k hk => ?_
    by_cases hw : (match ops[j]? with | some o => o.after.any (fun e => Region.binds md e && u.contains e.on) | none => false) = true
    · rw [if_pos hw] at hk
      rcases List.mem_cons.1 hk with rfl | hk
      · cases ho : ops[k]? with
        | none => rw [ho] at hw; cases hw
        | some o =>
          rw [ho] at hw
          obtain ⟨e, he, hb⟩ := Array.any_eq_true'.1 hw
          simp only [Bool.and_eq_true, List.contains_iff_mem] at hb
          by_cases hd : done.getD k true = true
          · have h1 := hc k o ho hd (by rw [hs]; exact (Array.getElem?_eq_some_iff.1 ho).1) e he hb.1
            rw [h _ hb.2] at h1
            cases h1
          · simpa using hd
      · exact h k hk
    · rw [if_neg hw] at hk
      exact h k hk
theorem not_yet {done : Array Bool} {y i : Nat} (hc : Closed md ops done) (hs : done.size = ops.size) (hw : waitsB md ops y i = true) (hi : done.getD i true = false) : y ∉ Region.ready md ops done := fun hy => by
  obtain ⟨_, o, ho, hall⟩ := mem_ready.1 hy
  unfold waitsB at hw
  rw [ho] at hw
  obtain ⟨e, he, hb⟩ := Array.any_eq_true'.1 hw
  simp only [Bool.and_eq_true, List.contains_iff_mem] at hb
  have h1 := waits_none hc hs (List.range ops.size) [i] (fun k hk => by rw [List.mem_singleton.1 hk]; exact hi) _ hb.2
  have h2 := hall e he hb.1
  rw [Array.getD_eq_getD_getElem?] at h1
  by_cases hlt : e.on < done.size
  · simp [hlt] at h1 h2
    rw [h1] at h2
    cases h2
  · simp [Array.getElem?_eq_none (Nat.le_of_not_lt hlt)] at h1
theorem Closed.step {done : Array Bool} {j : Nat} (hc : Closed md ops done) (hj : j ∈ Region.ready md ops done) : Closed md ops (done.setIfInBounds j true) := by
  obtain ⟨hjn, b, hb, hall⟩ := mem_ready.1 hj
  intro k o ho hk hks e he hbd
  have hon : done.getD e.on true = true := by
    by_cases hkj : k = j
    · subst hkj
      rw [hb] at ho
      cases ho
      have := hall e he hbd
      by_cases hlt : e.on < done.size
      · simpa [hlt] using this
      · simp [Array.getElem?_eq_none (Nat.le_of_not_lt hlt)]
    · rw [getD_set_ne true (Ne.symm hkj)] at hk
      exact hc k o ho hk (by simpa using hks) e he hbd
  by_cases h : e.on = j
  · rw [h]
    by_cases hlt : j < done.size
    · simp [hlt]
    · simp [hlt]
  · rw [getD_set_ne true (Ne.symm h)]
    exact hon
/-- Whatever order is drawn from here on; S holds behind each step ahead of number y. -/
def anyY (m : Nat) (P : Program) (md : Region.Mode) (ops : Array Oper) (Q : Exit → Act → World → Prop) (S : World → Prop) (y : Nat) : Nat → Array Bool → Act → World → Prop
  | 0, done, a, w => Region.ready md ops done = [] ∧ Q .normal a w
  | f + 1, done, a, w => (Region.ready md ops done = [] → Q .normal a w) ∧ ∀ i ∈ Region.ready md ops done, wpOpIn Fence.wide m P ops Q i (fun a1 w1 => if i = y then wpAnyIn Fence.wide m P md ops Q f (done.setIfInBounds i true) a1 w1 else S w1 ∧ anyY m P md ops Q S y f (done.setIfInBounds i true) a1 w1) a w
theorem anyY_in {y : Nat} : ∀ (f : Nat) (done : Array Bool) (a : Act) (w : World), anyY m P md ops Q S y f done a w → wpAnyIn Fence.wide m P md ops Q f done a w
  | 0, _, _, _, h => h
  | f + 1, _, _, _, h => ⟨h.1, fun i hi => wpOpIn_mono (fun a1 w1 h1 => by
      by_cases e : i = y
      · rw [if_pos e] at h1
        exact h1
      · rw [if_neg e] at h1
        exact anyY_in f _ a1 w1 h1.2) (h.2 i hi)⟩
theorem anyY_first {i y : Nat} {o : Oper} {v : Value} (hiy : i ≠ y) (hwy : waitsB md ops y i = true) (ho : ops[i]? = some o) (hsel : ∀ (j : Nat) (b : Oper) cs d, ops[j]? = some b → b.op ≠ .select cs d) (hQ : ∀ c a w, Q (.panic c) (a.put o.dst v) w → Q (.panic c) a w) :
    ∀ (f : Nat) (done : Array Bool) (a : Act) (w : World), Closed md ops done → done.size = ops.size →
      (∀ j b, ops[j]? = some b → j ≠ i → done.getD j true = false → (∀ e ∈ b.after, Region.binds md e = true → e.on ≠ i) → o.apart ops b = true) →
      i ∈ Region.ready md ops done → YieldsIf P ops S o v a → S w → anyY m P md ops Q S y f (done.setIfInBounds i true) (a.put o.dst v) w → anyY m P md ops Q S y (f + 1) done a w := by
  intro f
  induction f with
  | zero =>
    intro done a w _ _ _ hi hy hS h
    refine ⟨fun e => absurd (e ▸ hi) (by simp), fun j hj => ?_⟩
    by_cases e : j = i
    · subst e
      exact still_now ho hy hS (by rw [if_neg hiy]; exact ⟨hS, h⟩)
    · exact absurd (h.1 ▸ ready_mono hj e) (by simp)
  | succ f ih =>
    intro done a w hc hsz hap hi hy hS h
    refine ⟨fun e => absurd (e ▸ hi) (by simp), fun j hj => ?_⟩
    by_cases e : j = i
    · subst e
      exact still_now ho hy hS (by rw [if_neg hiy]; exact ⟨hS, h⟩)
    obtain ⟨hjn, b, hb, hall⟩ := mem_ready.1 hj
    have hin := (mem_ready.1 hi).1
    have hin' : done.getD i true = false := by
      by_cases hlt : i < done.size
      · simpa [hlt] using hin
      · simp [Array.getElem?_eq_none (Nat.le_of_not_lt hlt)] at hin
    have hjy : j ≠ y := fun hjy => not_yet hc hsz hwy hin' (hjy ▸ hj)
    have hno : ∀ d ∈ b.after, Region.binds md d = true → d.on ≠ i := fun d hd hbd hdi => by
      have hl := hall d hd hbd
      rw [hdi] at hl
      by_cases hlt : i < done.size
      · simp [hlt] at hin hl
        rw [hin] at hl
        cases hl
      · simp [Array.getElem?_eq_none (Nat.le_of_not_lt hlt)] at hl
    have h2 := h.2 j (ready_mono hj e)
    simp only [if_neg hjy] at h2 ⊢
    refine wpOpIn_mono (fun a1 w1 h1 => ⟨h1.2.1, ih (done.setIfInBounds j true) a1 w1 (hc.step hj) (by simpa using hsz) (fun k d hd hki hkn hkno => hap k d hd hki ?_ hkno) (ready_mono hi (Ne.symm e)) h1.1 h1.2.1 ?_⟩)
      (still_past hb (hap j b hb e hjn hno) (fun cs d => hsel i o cs d ho) (fun cs d => hsel j b cs d hb) hQ hy h2)
    · by_cases hjk : j = k
      · subst hjk
        exact hjn
      · rw [getD_set_ne true hjk] at hkn
        exact hkn
    · rw [Array.setIfInBounds_comm _ _ e]
      exact h1.2.2
/-- 'Closed', to be reckoned. -/
def closedB (md : Region.Mode) (ops : Array Oper) (done : Array Bool) : Bool :=
  decide (done.size = ops.size) && (List.range ops.size).all fun j => match ops[j]? with | some o => !(done.getD j true) || o.after.all (fun e => !(Region.binds md e) || done.getD e.on true) | none => true
theorem closed_of {done : Array Bool} (h : closedB md ops done = true) : Closed md ops done ∧ done.size = ops.size := by
  unfold closedB at h
  simp only [Bool.and_eq_true, decide_eq_true_eq, List.all_eq_true, List.mem_range] at h
  refine ⟨fun j o ho hj _ e he hb => ?_, h.1⟩
  have h1 := h.2 j (Array.getElem?_eq_some_iff.1 ho).1
  rw [ho] at h1
  simp only [hj, Bool.not_true, Bool.false_or] at h1
  have h2 := Array.all_eq_true'.1 h1 e he
  simpa [hb] using h2
/-- Number i, taken first. -/
theorem anyY_take {i y : Nat} {o : Oper} {v : Value} {f : Nat} {done : Array Bool} {a : Act} {w : World} (ho : ops[i]? = some o) (hb : (decide (i ≠ y) && waitsB md ops y i && closedB md ops done && Region.noSelect ops && Region.free md ops done i && (Region.ready md ops done).contains i) = true)
    (hQ : ∀ c a w, Q (.panic c) (a.put o.dst v) w → Q (.panic c) a w) (hy : YieldsIf P ops S o v a) (hS : S w) (h : anyY m P md ops Q S y f (done.setIfInBounds i true) (a.put o.dst v) w) : anyY m P md ops Q S y (f + 1) done a w := by
  simp only [Bool.and_eq_true, decide_eq_true_eq] at hb
  obtain ⟨⟨⟨⟨⟨b1, b2⟩, b3⟩, b4⟩, b5⟩, b6⟩ := hb
  exact anyY_first b1 b2 ho (Region.noSelect_spec b4) hQ f done a w (closed_of b3).1 (closed_of b3).2 (Region.free_spec ho b5) (by simpa using b6) hy hS h
/-- Number i, ahead of number y, is the only one that may come now. -/
theorem anyY_next {i y : Nat} {o : Oper} {f : Nat} {done : Array Bool} {a : Act} {w : World} (hiy : i ≠ y) (ho : ops[i]? = some o) (hr : Region.ready md ops done = [i]) (hw : Region.wanted o (yielded ops a.tmps) = true)
    (h : ∀ K : Act → World → Prop, Hid (∀ a1 w1, S w1 → (S w1 → anyY m P md ops Q S y f (done.setIfInBounds i true) a1 w1) → K a1 w1) → o.wpIn Fence.wide m P a w K Q) : anyY m P md ops Q S y (f + 1) done a w := by
  refine ⟨fun e => absurd (hr ▸ e) (by simp), fun j hj => ?_⟩
  obtain rfl : j = i := by rw [hr] at hj; simpa using hj
  simp only [if_neg hiy]
  unfold wpOpIn
  simp only [ho]
  rw [if_pos hw]
  exact h _ (Lib.hid fun a1 w1 h1 h2 => ⟨h1, h2 h1⟩)
/-- Number y itself: what follows is asked outright. -/
theorem anyY_last {y : Nat} {o : Oper} {f : Nat} {done : Array Bool} {a : Act} {w : World} (ho : ops[y]? = some o) (hr : Region.ready md ops done = [y]) (hw : Region.wanted o (yielded ops a.tmps) = true)
    (h : ∀ K : Act → World → Prop, Hid (∀ a1 w1, wpAnyIn Fence.wide m P md ops Q f (done.setIfInBounds y true) a1 w1 → K a1 w1) → o.wpIn Fence.wide m P a w K Q) : anyY m P md ops Q S y (f + 1) done a w := by
  refine ⟨fun e => absurd (hr ▸ e) (by simp), fun j hj => ?_⟩
  obtain rfl : j = y := by rw [hr] at hj; simpa using hj
  unfold wpOpIn
  simp only [ho]
  rw [if_pos hw]
  exact h _ (Lib.hid fun a1 w1 h1 => by rw [if_pos trivial]; exact h1)
/-- Number y, passed over by its guard. -/
theorem anyY_pass {y : Nat} {o : Oper} {f : Nat} {done : Array Bool} {a : Act} {w : World} (ho : ops[y]? = some o) (hr : Region.ready md ops done = [y]) (hw : Region.wanted o (yielded ops a.tmps) = false)
    (h : wpAnyIn Fence.wide m P md ops Q f (done.setIfInBounds y true) (a.put o.dst undef) w) : anyY m P md ops Q S y (f + 1) done a w := by
  refine ⟨fun e => absurd (hr ▸ e) (by simp), fun j hj => ?_⟩
  obtain rfl : j = y := by rw [hr] at hj; simpa using hj
  unfold wpOpIn
  simp only [ho]
  rw [if_neg (by rw [hw]; decide)]
  exact ⟨fun _ _ => trivial, by rw [if_pos trivial]; exact h⟩
theorem region_Y {id y : Nat} {a : Act} {w : World} (hm : P.follows .mixedOrders = true) (h : anyY m P .any ops Q S y ops.size (Array.replicate ops.size false) a w.drew) : (Code.region id ops true).wpIn Fence.wide m P Q a w :=
  wpIn_region_any hm (anyY_in _ _ _ _ h)
end
end Go.Proofs.YtfholfmlkehfnaaDoor
