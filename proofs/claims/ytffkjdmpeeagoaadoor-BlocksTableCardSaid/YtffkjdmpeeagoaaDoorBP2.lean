/-
  The table with blocks that come and go, in plain words: eight actors that join and leave, a keeper, and what holds before each act; no condition.
-/
import Derived.Test.YtffkjdmpeeagoaaDoorBP1
import Derived.Test.YtffkjdmpeeagoaaDoorTC1
namespace Go.Proofs.YtffkjdmpeeagoaaDoor
open Go.RowKit Go.Maps

/-- An actor: what it joined (-1: nothing), what is under way (line 0: nothing). -/
structure AS where
  th : Int
  o : TO
def AS.begin (a : AS) (p : Int) : TO := if a.o.ln = 0 then (if a.th < 0 then newJ p else newL a.th) else a.o
def AS.next (a : AS) (o' : TO) : AS := if o'.ln = 0 then (if o'.lv = true then ⟨-1, o'⟩ else if o'.e = 0 then ⟨o'.th, o'⟩ else ⟨a.th, o'⟩) else ⟨a.th, o'⟩
/-- The block that counts it (-1: none); the thread that says it (-1: none). -/
def AS.cb (a : AS) : Int := if a.o.ln ≠ 0 ∧ a.o.lv = false then (if 4 ≤ a.o.ln then a.o.i else -1) else if a.th < 0 then -1 else a.th / 4
def AS.ob (a : AS) : Int := if a.o.ln ≠ 0 then (if a.o.lv = false then (if a.o.ln = 5 then a.o.th else -1) else if a.o.ln ≤ 4 then a.o.th else -1) else a.th
/-- Sums over eight. -/
def c8 (f : Nat → Int) : Int := f 0 + f 1 + f 2 + f 3 + f 4 + f 5 + f 6 + f 7
def cnt8 (A : Nat → AS) (i : Int) : Int := c8 fun p => if (A p).cb = i then 1 else 0
def putAS (A : Nat → AS) (p : Nat) (a : AS) : Nat → AS := fun q => if q = p then a else A q
section
variable {A : Nat → AS} {p q : Nat} {a : AS} {i t n ever : Int} {V V' : Ad → Int} {k : BO}
theorem putAS_same : putAS A p a p = a := by simp [putAS]
theorem putAS_other (h : q ≠ p) : putAS A p a q = A q := by simp [putAS, h]
theorem lt8 (h : p < 8) : p = 0 ∨ p = 1 ∨ p = 2 ∨ p = 3 ∨ p = 4 ∨ p = 5 ∨ p = 6 ∨ p = 7 := by omega
theorem c8_put (h : p < 8) (f : Nat → Int) (v : Int) : c8 (fun q => if q = p then v else f q) = c8 f - f p + v := by
  rcases lt8 h with rfl | rfl | rfl | rfl | rfl | rfl | rfl | rfl <;> simp [c8] <;> omega
theorem c8_pos (h : p < 8) {f : Nat → Int} (g : ∀ q, 0 ≤ f q) : f p ≤ c8 f := by
  have h0 := g 0
  have h1 := g 1
  have h2 := g 2
  have h3 := g 3
  have h4 := g 4
  have h5 := g 5
  have h6 := g 6
  have h7 := g 7
  rcases lt8 h with rfl | rfl | rfl | rfl | rfl | rfl | rfl | rfl <;> simp only [c8] <;> omega
theorem cnt8_in (A : Nat → AS) (i : Int) : 0 ≤ cnt8 A i ∧ cnt8 A i ≤ 8 := by
  have h : ∀ q, 0 ≤ (if (A q).cb = i then (1 : Int) else 0) ∧ (if (A q).cb = i then (1 : Int) else 0) ≤ 1 := fun q => by split <;> omega
  have h0 := h 0
  have h1 := h 1
  have h2 := h 2
  have h3 := h 3
  have h4 := h 4
  have h5 := h 5
  have h6 := h 6
  have h7 := h 7
  unfold cnt8
  simp only [c8]
  omega
theorem cnt8_put (h : p < 8) (a : AS) (i : Int) : cnt8 (putAS A p a) i = cnt8 A i - (if (A p).cb = i then 1 else 0) + (if a.cb = i then 1 else 0) := by
  have e : cnt8 (putAS A p a) i = c8 fun q => if q = p then (if a.cb = i then (1 : Int) else 0) else (if (A q).cb = i then (1 : Int) else 0) := by
    unfold cnt8
    congr 1
    funext q
    by_cases hq : q = p
    · rw [hq, putAS_same, if_pos rfl]
    · rw [putAS_other hq, if_neg hq]
  rw [e, c8_put h]
  rfl
theorem cnt8_pos (h : p < 8) (e : (A p).cb = i) : 1 ≤ cnt8 A i := by
  have := c8_pos h (f := fun q => if (A q).cb = i then (1 : Int) else 0) (fun q => by split <;> omega)
  simp only [if_pos e] at this
  exact this
/-- What holds of an actor. -/
structure AOk (ever : Int) (p : Nat) (a : AS) : Prop where
  n : TNum a.o
  th : -1 ≤ a.th ∧ a.th < 16
  j : a.o.ln ≠ 0 → a.o.lv = false → a.th = -1 ∧ a.o.ow = p + 1 ∧ (a.o.ln = 2 ∨ a.o.ln = 3 → a.o.b ≤ ever) ∧ (a.o.ln = 5 → a.o.th / 4 = a.o.i)
  l : a.o.ln ≠ 0 → a.o.lv = true → a.th = a.o.th
/-- What holds of the keeper: where one is under way. -/
def KOk (n : Int) (k : BO) : Prop := k.ln = 0 ∨ k.lv = false ∧ (k.ln = 1 ∨ k.ln = 2 ∧ k.b = n ∧ n < 4 ∨ k.ln = 3 ∧ k.b = n - 1 ∧ 2 ≤ n) ∨ k.lv = true ∧ (k.ln = 1 ∨ (k.ln = 2 ∨ k.ln = 3) ∧ k.b = n ∧ 2 ≤ n)
/-- What holds before each act. -/
structure InvB (n ever : Int) (V : Ad → Int) (A : Nat → AS) (k : BO) : Prop where
  N : V adN = n
  n14 : 1 ≤ n ∧ n ≤ ever ∧ ever ≤ 4
  K : ∀ i, 0 ≤ i → i < 4 → V (adK i) = blockW (cnt8 A i) (blkC (V (adK i)))
  shut : ∀ i, 0 ≤ i → i < 4 → blkC (V (adK i)) = true → cnt8 A i = 0
  never : ∀ i, ever ≤ i → i < 4 → blkC (V (adK i)) = false ∧ cnt8 A i = 0
  gone : ∀ i, n ≤ i → i < ever → blkC (V (adK i)) = true
  here : ∀ i, 0 ≤ i → i < n → ¬ (k.ln = 3 ∧ i = n - 1) → blkC (V (adK i)) = false
  less : k.lv = true → k.ln = 3 → blkC (V (adK (n - 1))) = true
  own : ∀ p, p < 8 → 0 ≤ (A p).ob → V (adT (A p).ob 0) = p + 1
  free : ∀ t, 0 ≤ t → t < 16 → (∀ p, p < 8 → (A p).ob ≠ t) → V (adT t 0) = 0
  I : ∀ t, 0 ≤ t → t < 16 → V (adT t 1) = 0
  a : ∀ p, p < 8 → AOk ever p (A p)
  k : KOk n k
theorem AOk.cb_in (h : AOk ever p a) : -1 ≤ a.cb ∧ a.cb < 4 := by
  have ht := h.th
  unfold AS.cb
  split
  · rename_i hc
    have hj := h.n.j hc.2
    unfold JNum at hj
    split <;> omega
  · split <;> omega
theorem AOk.ob_in (h : AOk ever p a) : -1 ≤ a.ob ∧ a.ob < 16 := by
  have ht := h.th
  unfold AS.ob
  split
  · rename_i h0
    split
    · rename_i hc
      have hj := h.n.j hc
      unfold JNum at hj
      split <;> omega
    · rename_i hc
      have hl := h.n.l (by simpa using hc)
      unfold LNum at hl
      split <;> omega
  · exact ht
theorem AOk.ob_cb (h : AOk ever p a) (g : 0 ≤ a.ob) : a.cb = a.ob / 4 := by
  have ht := h.th
  unfold AS.ob at g ⊢
  unfold AS.cb
  by_cases h0 : a.o.ln = 0
  · simp only [h0, ne_eq, not_true_eq_false, false_and, if_false] at g ⊢
    rw [if_neg (by omega)]
  · cases hc : a.o.lv with
    | false =>
      simp only [hc, h0, ne_eq, not_false_eq_true, if_true, true_and] at g ⊢
      have hj := (h.j h0 hc).2.2.2
      split at g
      · rename_i h5
        rw [if_pos h5, if_pos (by omega), hj h5]
      · omega
    | true =>
      have hl := h.l h0 hc
      have hn := h.n.l hc
      unfold LNum at hn
      simp only [hc, h0, ne_eq, not_false_eq_true, if_true, Bool.true_eq_false, if_false, and_false] at g ⊢
      split at g
      · rename_i h5
        rw [if_pos h5, if_neg (by omega), hl]
      · omega
/-- Nobody has a thread of a block that is not there. -/
theorem InvB.sound (I : InvB n ever V A k) (ht : 4 * n ≤ t) (h16 : t < 16) : V (adT t 0) = 0 := by
  have hn := I.n14
  refine I.free t (by omega) h16 fun p hp e => ?_
  have hc := (I.a p hp).ob_cb (by omega)
  rw [e] at hc
  have h1 := cnt8_pos hp hc
  by_cases hv : ever ≤ t / 4
  · have := (I.never (t / 4) hv (by omega)).2
    omega
  · have := I.shut (t / 4) (by omega) (by omega) (I.gone (t / 4) (by omega) (by omega))
    omega
/-- Whoever is counted in a block is counted in one that is there. -/
theorem InvB.cb_lt (I : InvB n ever V A k) (hp : p < 8) (h0 : 0 ≤ (A p).cb) : (A p).cb < n := by
  have hn := I.n14
  have hi := (I.a p hp).cb_in
  have h1 := cnt8_pos (A := A) (i := (A p).cb) hp rfl
  apply Classical.byContradiction
  intro hx
  by_cases hv : ever ≤ (A p).cb
  · have := (I.never _ hv (by omega)).2
    omega
  · have := I.shut _ h0 (by omega) (I.gone _ (by omega) (by omega))
    omega
/-- When the keeper has nothing under way, just those blocks are open that there are. -/
theorem InvB.settled (I : InvB n ever V A k) (h : k.ln = 0) (h0 : 0 ≤ i) (h1 : i < ever) : blkC (V (adK i)) = decide (n ≤ i) := by
  by_cases hi : n ≤ i
  · rw [I.gone i hi h1, decide_eq_true hi]
  · rw [I.here i h0 (by omega) (by omega), decide_eq_false hi]
/-- An act that leaves what counts. -/
theorem InvB.quiet (I : InvB n ever V A k) (hp : p < 8) (hN : V' adN = V adN) (hK : ∀ i, 0 ≤ i → i < 4 → V' (adK i) = V (adK i)) (hT : ∀ t, 0 ≤ t → t < 16 → V' (adT t 0) = V (adT t 0) ∧ V' (adT t 1) = V (adT t 1))
    (ha : AOk ever p a) (hc : a.cb = (A p).cb) (ho : a.ob = (A p).ob) : InvB n ever V' (putAS A p a) k := by
  have hn := I.n14
  have hcnt : ∀ i, cnt8 (putAS A p a) i = cnt8 A i := fun i => by rw [cnt8_put hp, hc]; omega
  have hob : ∀ q, (putAS A p a q).ob = (A q).ob := fun q => by
    by_cases hq : q = p
    · rw [hq, putAS_same, ho]
    · rw [putAS_other hq]
  refine ⟨by rw [hN, I.N], hn, fun i h0 h1 => ?_, fun i h0 h1 h2 => ?_, fun i h0 h1 => ?_, fun i h0 h1 => ?_, fun i h0 h1 h2 => ?_, fun h0 h1 => ?_, fun q hq h0 => ?_, fun t h0 h1 h2 => ?_, fun t h0 h1 => ?_, fun q hq => ?_, I.k⟩
  · rw [hK i h0 h1, hcnt]
    exact I.K i h0 h1
  · rw [hcnt]
    rw [hK i h0 h1] at h2
    exact I.shut i h0 h1 h2
  · rw [hK i (by omega) h1, hcnt]
    exact I.never i h0 h1
  · rw [hK i (by omega) (by omega)]
    exact I.gone i h0 h1
  · rw [hK i h0 (by omega)]
    exact I.here i h0 h1 h2
  · rw [hK (n - 1) (by omega) (by omega)]
    exact I.less h0 h1
  · rw [hob] at h0 ⊢
    rw [(hT _ h0 ((I.a q hq).ob_in).2).1]
    exact I.own q hq h0
  · rw [(hT t h0 h1).1]
    exact I.free t h0 h1 fun q hq => by rw [← hob]; exact h2 q hq
  · rw [(hT t h0 h1).2]
    exact I.I t h0 h1
  · by_cases hq' : q = p
    · rw [hq', putAS_same]
      exact ha
    · rw [putAS_other hq']
      exact I.a q hq
/-- A block's word changes, by what its count does. -/
theorem InvB.count (I : InvB n ever V A k) (hp : p < 8) (h0 : 0 ≤ i) (h1 : i < 4) (hv : V' = setV V (adK i) (blockW (cnt8 (putAS A p a) i) (blkC (V (adK i)))))
    (ha : AOk ever p a) (ho : a.ob = (A p).ob) (hc : (A p).cb = -1 ∧ a.cb = i ∧ blkC (V (adK i)) = false ∧ i < ever ∨ (A p).cb = i ∧ a.cb = -1) : InvB n ever V' (putAS A p a) k := by
  have hn := I.n14
  have hin := cnt8_in (putAS A p a)
  have hcnt : ∀ l, 0 ≤ l → l ≠ i → cnt8 (putAS A p a) l = cnt8 A l := fun l g0 g => by
    rw [cnt8_put hp]
    rcases hc with ⟨c1, c2, _⟩ | ⟨c1, c2⟩
    · rw [c1, c2, if_neg (by omega), if_neg (by omega)]; omega
    · rw [c1, c2, if_neg (by omega), if_neg (by omega)]; omega
  have hi' : V' (adK i) = blockW (cnt8 (putAS A p a) i) (blkC (V (adK i))) := by rw [hv]; exact setV_same (mayK ⟨h0, h1⟩) _
  have hC : blkC (V' (adK i)) = blkC (V (adK i)) := by rw [hi']; exact (blk_back _ ⟨(hin i).1, by have := (hin i).2; omega⟩).2
  have hK : ∀ l, 0 ≤ l → l < 4 → l ≠ i → V' (adK l) = V (adK l) := fun l g0 g1 g => by rw [hv]; exact setV_other (neKK ⟨g0, g1⟩ ⟨h0, h1⟩ g) _
  have hCl : ∀ l, 0 ≤ l → l < 4 → blkC (V' (adK l)) = blkC (V (adK l)) := fun l g0 g1 => by
    by_cases g : l = i
    · rw [g, hC]
    · rw [hK l g0 g1 g]
  have hT : ∀ t f, 0 ≤ t → t < 16 → 0 ≤ f → f < 10 → V' (adT t f) = V (adT t f) := fun t f g0 g1 g2 g3 => by rw [hv]; exact setV_other (Ne.symm (neKT ⟨h0, h1⟩ ⟨g0, g1⟩ ⟨g2, g3⟩)) _
  have hob : ∀ q, (putAS A p a q).ob = (A q).ob := fun q => by
    by_cases hq : q = p
    · rw [hq, putAS_same, ho]
    · rw [putAS_other hq]
  have hpos : (A p).cb = i → 1 ≤ cnt8 A i := fun e => cnt8_pos hp e
  have hput := cnt8_put (A := A) hp a i
  refine ⟨by rw [hv, setV_other (neNK ⟨h0, h1⟩)]; exact I.N, hn, fun l g0 g1 => ?_, fun l g0 g1 g2 => ?_, fun l g0 g1 => ?_, fun l g0 g1 => ?_, fun l g0 g1 g2 => ?_, fun g0 g1 => ?_, fun q hq g0 => ?_, fun t g0 g1 g2 => ?_, fun t g0 g1 => ?_, fun q hq => ?_, I.k⟩
  · by_cases g : l = i
    · rw [g, hC, hi']
    · rw [hcnt l g0 g, hK l g0 g1 g]
      exact I.K l g0 g1
  · rw [hCl l g0 g1] at g2
    by_cases g : l = i
    · rw [g] at g2 ⊢
      have := I.shut i h0 h1 g2
      rcases hc with ⟨_, _, c3, _⟩ | ⟨c1, c2⟩
      · rw [c3] at g2
        cases g2
      · have := hpos c1
        omega
    · rw [hcnt l g0 g]
      exact I.shut l g0 g1 g2
  · rw [hCl l (by omega) g1]
    by_cases g : l = i
    · rw [g] at g0 ⊢
      have hz := (I.never i g0 h1).2
      rcases hc with ⟨_, _, _, c4⟩ | ⟨c1, c2⟩
      · omega
      · have := hpos c1
        omega
    · rw [hcnt l (by omega) g]
      exact I.never l g0 g1
  · rw [hCl l (by omega) (by omega)]
    exact I.gone l g0 g1
  · rw [hCl l g0 (by omega)]
    exact I.here l g0 g1 g2
  · rw [hCl (n - 1) (by omega) (by omega)]
    exact I.less g0 g1
  · rw [hob] at g0 ⊢
    rw [hT _ 0 g0 ((I.a q hq).ob_in).2 (by decide) (by decide)]
    exact I.own q hq g0
  · rw [hT t 0 g0 g1 (by decide) (by decide)]
    exact I.free t g0 g1 fun q hq => by rw [← hob]; exact g2 q hq
  · rw [hT t 1 g0 g1 (by decide) (by decide)]
    exact I.I t g0 g1
  · by_cases hq' : q = p
    · rw [hq', putAS_same]
      exact ha
    · rw [putAS_other hq']
      exact I.a q hq
/-- A thread that nobody has gets an owner; an owner goes. -/
theorem InvB.owns (I : InvB n ever V A k) (hp : p < 8) (h0 : 0 ≤ t) (h1 : t < 16) {v : Int} (hv : V' = setV V (adT t 0) v) (ha : AOk ever p a) (hc : a.cb = (A p).cb)
    (ho : (A p).ob = -1 ∧ a.ob = t ∧ v = p + 1 ∧ V (adT t 0) = 0 ∨ (A p).ob = t ∧ a.ob = -1 ∧ v = 0) : InvB n ever V' (putAS A p a) k := by
  have hn := I.n14
  have hcnt : ∀ i, cnt8 (putAS A p a) i = cnt8 A i := fun i => by rw [cnt8_put hp, hc]; omega
  have hK : ∀ l, 0 ≤ l → l < 4 → V' (adK l) = V (adK l) := fun l g0 g1 => by rw [hv]; exact setV_other (neKT ⟨g0, g1⟩ ⟨h0, h1⟩ (by decide)) _
  have ht' : V' (adT t 0) = v := by rw [hv]; exact setV_same (mayT ⟨h0, h1⟩ (by decide)) _
  have hT : ∀ s f, 0 ≤ s → s < 16 → 0 ≤ f → f < 10 → s ≠ t ∨ f ≠ 0 → V' (adT s f) = V (adT s f) := fun s f g0 g1 g2 g3 g => by rw [hv]; exact setV_other (neTT ⟨g0, g1⟩ ⟨g2, g3⟩ ⟨h0, h1⟩ (by decide) g) _
  refine ⟨by rw [hv, setV_other (neNT ⟨h0, h1⟩ (by decide))]; exact I.N, hn, fun i g0 g1 => ?_, fun i g0 g1 g2 => ?_, fun i g0 g1 => ?_, fun i g0 g1 => ?_, fun i g0 g1 g2 => ?_, fun g0 g1 => ?_, fun q hq g0 => ?_, fun s g0 g1 g2 => ?_, fun s g0 g1 => ?_, fun q hq => ?_, I.k⟩
  · rw [hK i g0 g1, hcnt]
    exact I.K i g0 g1
  · rw [hcnt]
    rw [hK i g0 g1] at g2
    exact I.shut i g0 g1 g2
  · rw [hK i (by omega) g1, hcnt]
    exact I.never i g0 g1
  · rw [hK i (by omega) (by omega)]
    exact I.gone i g0 g1
  · rw [hK i g0 (by omega)]
    exact I.here i g0 g1 g2
  · rw [hK (n - 1) (by omega) (by omega)]
    exact I.less g0 g1
  · by_cases hq' : q = p
    · rw [hq', putAS_same] at g0 ⊢
      rcases ho with ⟨_, o2, o3, _⟩ | ⟨_, o2, _⟩
      · rw [o2, ht', o3]
      · omega
    · rw [putAS_other hq'] at g0 ⊢
      have hqo := I.own q hq g0
      have hne : (A q).ob ≠ t := by
        intro e
        rw [e] at hqo
        rcases ho with ⟨_, _, _, o4⟩ | ⟨o1, _⟩
        · omega
        · have := I.own p hp (by omega)
          rw [o1, hqo] at this
          omega
      rw [hT _ 0 g0 ((I.a q hq).ob_in).2 (by decide) (by decide) (.inl hne)]
      exact hqo
  · have g3 := g2 p hp
    rw [putAS_same] at g3
    by_cases hs : s = t
    · rw [hs] at g3 ⊢
      rcases ho with ⟨_, o2, _⟩ | ⟨_, _, o3⟩
      · exact absurd o2 g3
      · rw [ht', o3]
    · rw [hT s 0 g0 g1 (by decide) (by decide) (.inl hs)]
      refine I.free s g0 g1 fun q hq e => ?_
      by_cases hq' : q = p
      · rw [hq'] at e
        rcases ho with ⟨o1, _⟩ | ⟨o1, _⟩ <;> omega
      · have := g2 q hq
        rw [putAS_other hq'] at this
        exact this e
  · rw [hT s 1 g0 g1 (by decide) (by decide) (.inr (by decide))]
    exact I.I s g0 g1
  · by_cases hq' : q = p
    · rw [hq', putAS_same]
      exact ha
    · rw [putAS_other hq']
      exact I.a q hq
end
end Go.Proofs.YtffkjdmpeeagoaaDoor
