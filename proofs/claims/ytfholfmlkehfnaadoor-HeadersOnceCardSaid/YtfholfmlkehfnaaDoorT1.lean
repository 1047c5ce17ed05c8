/-
  A region that draws its order, walked where a round may be called: a load of what stands still may be taken first; a call, a store and a round come as they must; no condition.
-/
import Derived.Test.YtfholfmlkehfnaaDoorU1
import Derived.OrdersIn
import Derived.OrdersHeld
import Derived.TacticsIn
namespace Go.Proofs.YtfholfmlkehfnaaDoor
open Go.RowKit

section
variable {m : Nat} {P : Program} {ops : Array Oper} {md : Region.Mode} {Q : Exit → Act → World → Prop} {S : World → Prop}

/-- What yields while S holds may come at any time, in a world in which S holds. -/
theorem still_now {i : Nat} {o : Oper} {v : Value} {a : Act} {w : World} {K : Act → World → Prop} (ho : ops[i]? = some o) (hy : YieldsIf P ops S o v a) (hS : S w) (hk : K (a.put o.dst v) w) : wpOpIn Fence.wide m P ops Q i K a w := by
  have hr : Fence.wide.round = none := rfl
  unfold wpOpIn
  simp only [ho]
  rcases hy with ⟨h1, h2⟩ | ⟨h1, rfl⟩
  · rw [h1, if_pos rfl]
    exact ⟨fun _ _ => trivial, by rw [hr, Oper.semAt_none, h2 w hS]; exact hk⟩
  · rw [h1, if_neg (by decide)]
    exact ⟨fun _ _ => trivial, hk⟩
/-- Another operation, apart from it, sees nothing of it, and leaves it as it was. -/
theorem still_past {j : Nat} {o b : Oper} {v : Value} {a : Act} {w : World} {K : Act → World → Prop} (hb : ops[j]? = some b) (hap : o.apart ops b = true) (ho : ∀ cs d, o.op ≠ .select cs d) (hbs : ∀ cs d, b.op ≠ .select cs d)
    (hQ : ∀ c a w, Q (.panic c) (a.put o.dst v) w → Q (.panic c) a w) (hy : YieldsIf P ops S o v a) (h : wpOpIn Fence.wide m P ops Q j K (a.put o.dst v) w) :
    wpOpIn Fence.wide m P ops Q j (fun a1 w1 => YieldsIf P ops S o v a1 ∧ K (a1.put o.dst v) w1) a w := by
  have hr : Fence.wide.round = none := rfl
  obtain ⟨q1, q2, q3⟩ := Oper.apart_spec hap
  have again : ∀ u, YieldsIf P ops S o v (a.put b.dst u) := fun u => hy.of_same (execOp_put o ho a b.dst u q3) (wanted_put o a b.dst u q3)
  have turn : ∀ u w1, K ((a.put o.dst v).put b.dst u) w1 → YieldsIf P ops S o v (a.put b.dst u) ∧ K ((a.put b.dst u).put o.dst v) w1 := fun u w1 hk => ⟨again u, by rw [← Act.put_comm a v u q2]; exact hk⟩
  unfold wpOpIn at *
  simp only [hb] at *
  rw [wanted_put b a o.dst v q1] at h
  by_cases hw : Region.wanted b (yielded ops a.tmps) = true
  · rw [if_pos hw] at h ⊢
    refine ⟨fun _ _ => trivial, ?_⟩
    have h := h.2
    rw [hr, Oper.semAt_none] at h ⊢
    rw [execOp_put b hbs a o.dst v q1] at h
    generalize (execOp a.eval b).run P w = r at *
    rcases r with ⟨x, w1⟩ | ⟨x, w1⟩
    · cases x <;> simp only [Oper.uponIn] at h ⊢
      case value u => exact turn u _ h
      case skip => exact turn undef _ h
      case defer d =>
        have hd : YieldsIf P ops S o v { a with defers := d :: a.defers } := hy.of_same rfl rfl
        refine ⟨hd.of_same (execOp_put o ho _ b.dst undef q3) (wanted_put o _ b.dst undef q3), ?_⟩
        rw [← Act.put_comm _ v undef q2, ← Act.put_defers]
        exact h
      case enter f args =>
        exact ⟨h.1, CallsIn.mono h.2 fun e w2 he => by
          cases e with
          | returned u => exact turn u _ he
          | panicked c => exact hQ _ _ _ he
          | outgrown => exact he⟩
      case row row args => exact ⟨h.1, RowsIn.mono h.2 fun u w2 he => turn u _ he⟩
      case round l f tmps assign body =>
        exact ⟨h.1, RoundIn.mono h.2 fun e w2 he => by
          cases e with
          | returned u => exact turn u _ he
          | panicked c => exact hQ _ _ _ he
          | outgrown => exact he⟩
    · cases x <;> simp only [Oper.uponIn] at h ⊢
      case panic u => exact hQ _ _ _ h
  · rw [if_neg hw] at h ⊢
    exact ⟨fun _ _ => trivial, turn undef _ h.2⟩

/-- Whatever order is drawn from here on; S holds behind each step. -/
def anyS (m : Nat) (P : Program) (md : Region.Mode) (ops : Array Oper) (Q : Exit → Act → World → Prop) (S : World → Prop) : Nat → Array Bool → Act → World → Prop
  | 0, done, a, w => Region.ready md ops done = [] ∧ Q .normal a w
  | f + 1, done, a, w => (Region.ready md ops done = [] → Q .normal a w) ∧ ∀ i ∈ Region.ready md ops done, wpOpIn Fence.wide m P ops Q i (fun a1 w1 => S w1 ∧ anyS m P md ops Q S f (done.setIfInBounds i true) a1 w1) a w
theorem anyS_in : ∀ (f : Nat) (done : Array Bool) (a : Act) (w : World), anyS m P md ops Q S f done a w → wpAnyIn Fence.wide m P md ops Q f done a w
  | 0, _, _, _, h => h
  | f + 1, _, _, _, h => ⟨h.1, fun i hi => wpOpIn_mono (fun a1 w1 h1 => anyS_in f _ a1 w1 h1.2) (h.2 i hi)⟩
theorem anyS_first {i : Nat} {o : Oper} {v : Value} (ho : ops[i]? = some o) (hsel : ∀ (j : Nat) (b : Oper) cs d, ops[j]? = some b → b.op ≠ .select cs d) (hQ : ∀ c a w, Q (.panic c) (a.put o.dst v) w → Q (.panic c) a w) :
    ∀ (f : Nat) (done : Array Bool) (a : Act) (w : World),
      (∀ j b, ops[j]? = some b → j ≠ i → done.getD j true = false → (∀ e ∈ b.after, Region.binds md e = true → e.on ≠ i) → o.apart ops b = true) →
      i ∈ Region.ready md ops done → YieldsIf P ops S o v a → S w → anyS m P md ops Q S f (done.setIfInBounds i true) (a.put o.dst v) w → anyS m P md ops Q S (f + 1) done a w := by
  intro f
  induction f with
  | zero =>
    intro done a w _ hi hy hS h
    refine ⟨fun e => absurd (e ▸ hi) (by simp), fun j hj => ?_⟩
    by_cases e : j = i
    · subst e
      exact still_now ho hy hS ⟨hS, h⟩
    · exact absurd (h.1 ▸ ready_mono hj e) (by simp)
  | succ f ih =>
    intro done a w hap hi hy hS h
    refine ⟨fun e => absurd (e ▸ hi) (by simp), fun j hj => ?_⟩
    by_cases e : j = i
    · subst e
      exact still_now ho hy hS ⟨hS, h⟩
    obtain ⟨hjn, b, hb, hall⟩ := mem_ready.1 hj
    have hin := (mem_ready.1 hi).1
    have hno : ∀ d ∈ b.after, Region.binds md d = true → d.on ≠ i := fun d hd hbd hdi => by
      have hl := hall d hd hbd
      rw [hdi] at hl
      by_cases hlt : i < done.size
      · simp [hlt] at hin hl
        rw [hin] at hl
        cases hl
      · simp [Array.getElem?_eq_none (Nat.le_of_not_lt hlt)] at hl
    refine wpOpIn_mono (fun a1 w1 h1 => ⟨h1.2.1, ih (done.setIfInBounds j true) a1 w1 (fun k d hd hki hkn hkno => hap k d hd hki ?_ hkno) (ready_mono hi (Ne.symm e)) h1.1 h1.2.1 ?_⟩)
      (still_past hb (hap j b hb e hjn hno) (fun cs d => hsel i o cs d ho) (fun cs d => hsel j b cs d hb) hQ hy (h.2 j (ready_mono hj e)))
    · by_cases hjk : j = k
      · subst hjk
        exact hjn
      · rw [getD_set_ne true hjk] at hkn
        exact hkn
    · rw [Array.setIfInBounds_comm _ _ e]
      exact h1.2.2
/-- Number i, taken first. -/
theorem anyS_take {i : Nat} {o : Oper} {v : Value} {f : Nat} {done : Array Bool} {a : Act} {w : World} (ho : ops[i]? = some o) (hs : Region.noSelect ops = true) (hf : Region.free md ops done i = true) (hr : (Region.ready md ops done).contains i = true)
    (hQ : ∀ c a w, Q (.panic c) (a.put o.dst v) w → Q (.panic c) a w) (hy : YieldsIf P ops S o v a) (hS : S w) (h : anyS m P md ops Q S f (done.setIfInBounds i true) (a.put o.dst v) w) : anyS m P md ops Q S (f + 1) done a w :=
  anyS_first ho (Region.noSelect_spec hs) hQ f done a w (Region.free_spec ho hf) (by simpa using hr) hy hS h
/-- Number i is the only one that may come now. -/
theorem anyS_next {i : Nat} {o : Oper} {f : Nat} {done : Array Bool} {a : Act} {w : World} (ho : ops[i]? = some o) (hr : Region.ready md ops done = [i]) (hw : Region.wanted o (yielded ops a.tmps) = true)
    (h : ∀ K : Act → World → Prop, Hid (∀ a1 w1, S w1 → (S w1 → anyS m P md ops Q S f (done.setIfInBounds i true) a1 w1) → K a1 w1) → o.wpIn Fence.wide m P a w K Q) : anyS m P md ops Q S (f + 1) done a w := by
  refine ⟨fun e => absurd (hr ▸ e) (by simp), fun j hj => ?_⟩
  obtain rfl : j = i := by rw [hr] at hj; simpa using hj
  unfold wpOpIn
  simp only [ho]
  rw [if_pos hw]
  exact h _ (Lib.hid fun a1 w1 h1 h2 => ⟨h1, h2 h1⟩)
theorem anyS_done {done : Array Bool} {a : Act} {w : World} (hr : Region.ready md ops done = []) (h : Q .normal a w) : ∀ f, anyS m P md ops Q S f done a w
  | 0 => ⟨hr, h⟩
  | _ + 1 => ⟨fun _ => h, by rw [hr]; simp⟩
theorem region_S {id : Nat} {a : Act} {w : World} (hm : P.follows .mixedOrders = true) (h : anyS m P .any ops Q S ops.size (Array.replicate ops.size false) a w.drew) : (Code.region id ops true).wpIn Fence.wide m P Q a w :=
  wpIn_region_any hm (anyS_in _ _ _ _ h)
end
end Go.Proofs.YtfholfmlkehfnaaDoor
