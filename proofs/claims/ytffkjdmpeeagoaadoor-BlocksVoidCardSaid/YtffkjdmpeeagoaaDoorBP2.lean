/-
  The table with blocks that come and go, in plain words: eight actors that join and leave, a keeper, and what holds before each act; no condition.
  An actor's step and the keeper's keep what holds before each act; no condition.
  The keeper's step keeps what holds before each act, and how it begins; no condition.
  A More and a Less alone, in plain words: in how many steps they end, and what they leave; no condition.
  A Join that goes some steps ahead of a Less of the block that it looks for, in plain words; no condition.
-/
import Derived.Test.YtffkjdmpeeagoaaDoorBP1
import Derived.Test.YtffkjdmpeeagoaaDoorTC1
namespace Go.Proofs.YtffkjdmpeeagoaaDoor
open Go.RowKit Go.Maps

/-- An actor: what it joined (-1: nothing), what is under way (line 0: nothing). -/
structure AS where
  th : Int
  o : TO
def AS.begin (a : AS) (p : Int) : TO := if a.o.ln = 0 then (if a.th < 0 then newJ p else newL a.th) else a.o
def AS.next (a : AS) (o' : TO) : AS := if o'.ln = 0 then (if o'.lv = true then ⟨-1, o'⟩ else if o'.e = 0 then ⟨o'.th, o'⟩ else ⟨a.th, o'⟩) else ⟨a.th, o'⟩
/-- The block that counts it (-1: none); the thread that says it (-1: none). -/
def AS.cb (a : AS) : Int := if a.o.ln ≠ 0 ∧ a.o.lv = false then (if 4 ≤ a.o.ln then a.o.i else -1) else if a.th < 0 then -1 else a.th / 4
def AS.ob (a : AS) : Int := if a.o.ln ≠ 0 then (if a.o.lv = false then (if a.o.ln = 5 then a.o.th else -1) else if a.o.ln ≤ 4 then a.o.th else -1) else a.th
/-- Sums over eight. -/
def c8 (f : Nat → Int) : Int := f 0 + f 1 + f 2 + f 3 + f 4 + f 5 + f 6 + f 7
def cnt8 (A : Nat → AS) (i : Int) : Int := c8 fun p => if (A p).cb = i then 1 else 0
def putAS (A : Nat → AS) (p : Nat) (a : AS) : Nat → AS := fun q => if q = p then a else A q
section
variable {A : Nat → AS} {p q : Nat} {a : AS} {i t n ever : Int} {V V' : Ad → Int} {k : BO}
theorem putAS_same : putAS A p a p = a := by simp [putAS]
theorem putAS_other (h : q ≠ p) : putAS A p a q = A q := by simp [putAS, h]
theorem lt8 (h : p < 8) : p = 0 ∨ p = 1 ∨ p = 2 ∨ p = 3 ∨ p = 4 ∨ p = 5 ∨ p = 6 ∨ p = 7 := by omega
theorem c8_put (h : p < 8) (f : Nat → Int) (v : Int) : c8 (fun q => if q = p then v else f q) = c8 f - f p + v := by
  rcases lt8 h with rfl | rfl | rfl | rfl | rfl | rfl | rfl | rfl <;> simp [c8] <;> omega
theorem c8_pos (h : p < 8) {f : Nat → Int} (g : ∀ q, 0 ≤ f q) : f p ≤ c8 f := by
  have h0 := g 0
  have h1 := g 1
  have h2 := g 2
  have h3 := g 3
  have h4 := g 4
  have h5 := g 5
  have h6 := g 6
  have h7 := g 7
  rcases lt8 h with rfl | rfl | rfl | rfl | rfl | rfl | rfl | rfl <;> simp only [c8] <;> omega
theorem cnt8_in (A : Nat → AS) (i : Int) : 0 ≤ cnt8 A i ∧ cnt8 A i ≤ 8 := by
  have h : ∀ q, 0 ≤ (if (A q).cb = i then (1 : Int) else 0) ∧ (if (A q).cb = i then (1 : Int) else 0) ≤ 1 := fun q => by split <;> omega
  have h0 := h 0
  have h1 := h 1
  have h2 := h 2
  have h3 := h 3
  have h4 := h 4
  have h5 := h 5
  have h6 := h 6
  have h7 := h 7
  unfold cnt8
  simp only [c8]
  omega
theorem cnt8_put (h : p < 8) (a : AS) (i : Int) : cnt8 (putAS A p a) i = cnt8 A i - (if (A p).cb = i then 1 else 0) + (if a.cb = i then 1 else 0) := by
  have e : cnt8 (putAS A p a) i = c8 fun q => if q = p then (if a.cb = i then (1 : Int) else 0) else (if (A q).cb = i then (1 : Int) else 0) := by
    unfold cnt8
    congr 1
    funext q
    by_cases hq : q = p
    · rw [hq, putAS_same, if_pos rfl]
    · rw [putAS_other hq, if_neg hq]
  rw [e, c8_put h]
  rfl
theorem cnt8_pos (h : p < 8) (e : (A p).cb = i) : 1 ≤ cnt8 A i := by
  have := c8_pos h (f := fun q => if (A q).cb = i then (1 : Int) else 0) (fun q => by split <;> omega)
  simp only [if_pos e] at this
  exact this
/-- What holds of an actor. -/
structure AOk (ever : Int) (p : Nat) (a : AS) : Prop where
  n : TNum a.o
  th : -1 ≤ a.th ∧ a.th < 16
  j : a.o.ln ≠ 0 → a.o.lv = false → a.th = -1 ∧ a.o.ow = p + 1 ∧ (a.o.ln = 2 ∨ a.o.ln = 3 → a.o.b ≤ ever) ∧ (a.o.ln = 5 → a.o.th / 4 = a.o.i)
  l : a.o.ln ≠ 0 → a.o.lv = true → a.th = a.o.th
/-- What holds of the keeper: where one is under way. -/
def KOk (n : Int) (k : BO) : Prop := k.ln = 0 ∨ k.lv = false ∧ (k.ln = 1 ∨ k.ln = 2 ∧ k.b = n ∧ n < 4 ∨ k.ln = 3 ∧ k.b = n - 1 ∧ 2 ≤ n) ∨ k.lv = true ∧ (k.ln = 1 ∨ (k.ln = 2 ∨ k.ln = 3) ∧ k.b = n ∧ 2 ≤ n)
/-- What holds before each act. -/
structure InvB (n ever : Int) (V : Ad → Int) (A : Nat → AS) (k : BO) : Prop where
  N : V adN = n
  n14 : 1 ≤ n ∧ n ≤ ever ∧ ever ≤ 4
  K : ∀ i, 0 ≤ i → i < 4 → V (adK i) = blockW (cnt8 A i) (blkC (V (adK i)))
  shut : ∀ i, 0 ≤ i → i < 4 → blkC (V (adK i)) = true → cnt8 A i = 0
  never : ∀ i, ever ≤ i → i < 4 → blkC (V (adK i)) = false ∧ cnt8 A i = 0
  gone : ∀ i, n ≤ i → i < ever → blkC (V (adK i)) = true
  here : ∀ i, 0 ≤ i → i < n → ¬ (k.ln = 3 ∧ i = n - 1) → blkC (V (adK i)) = false
  less : k.lv = true → k.ln = 3 → blkC (V (adK (n - 1))) = true
  own : ∀ p, p < 8 → 0 ≤ (A p).ob → V (adT (A p).ob 0) = p + 1
  free : ∀ t, 0 ≤ t → t < 16 → (∀ p, p < 8 → (A p).ob ≠ t) → V (adT t 0) = 0
  I : ∀ t, 0 ≤ t → t < 16 → V (adT t 1) = 0
  a : ∀ p, p < 8 → AOk ever p (A p)
  k : KOk n k
theorem AOk.cb_in (h : AOk ever p a) : -1 ≤ a.cb ∧ a.cb < 4 := by
  have ht := h.th
  unfold AS.cb
  split
  · rename_i hc
    have hj := h.n.j hc.2
    unfold JNum at hj
    split <;> omega
  · split <;> omega
theorem AOk.ob_in (h : AOk ever p a) : -1 ≤ a.ob ∧ a.ob < 16 := by
  have ht := h.th
  unfold AS.ob
  split
  · rename_i h0
    split
    · rename_i hc
      have hj := h.n.j hc
      unfold JNum at hj
      split <;> omega
    · rename_i hc
      have hl := h.n.l (by simpa using hc)
      unfold LNum at hl
      split <;> omega
  · exact ht
theorem AOk.ob_cb (h : AOk ever p a) (g : 0 ≤ a.ob) : a.cb = a.ob / 4 := by
  have ht := h.th
  unfold AS.ob at g ⊢
  unfold AS.cb
  by_cases h0 : a.o.ln = 0
  · simp only [h0, ne_eq, not_true_eq_false, false_and, if_false] at g ⊢
    rw [if_neg (by omega)]
  · cases hc : a.o.lv with
    | false =>
      simp only [hc, h0, ne_eq, not_false_eq_true, if_true, true_and] at g ⊢
      have hj := (h.j h0 hc).2.2.2
      split at g
      · rename_i h5
        rw [if_pos h5, if_pos (by omega), hj h5]
      · omega
    | true =>
      have hl := h.l h0 hc
      have hn := h.n.l hc
      unfold LNum at hn
      simp only [hc, h0, ne_eq, not_false_eq_true, if_true, Bool.true_eq_false, if_false, and_false] at g ⊢
      split at g
      · rename_i h5
        rw [if_pos h5, if_neg (by omega), hl]
      · omega
/-- Nobody has a thread of a block that is not there. -/
theorem InvB.sound (I : InvB n ever V A k) (ht : 4 * n ≤ t) (h16 : t < 16) : V (adT t 0) = 0 := by
  have hn := I.n14
  refine I.free t (by omega) h16 fun p hp e => ?_
  have hc := (I.a p hp).ob_cb (by omega)
  rw [e] at hc
  have h1 := cnt8_pos hp hc
  by_cases hv : ever ≤ t / 4
  · have := (I.never (t / 4) hv (by omega)).2
    omega
  · have := I.shut (t / 4) (by omega) (by omega) (I.gone (t / 4) (by omega) (by omega))
    omega
/-- Whoever is counted in a block is counted in one that is there. -/
theorem InvB.cb_lt (I : InvB n ever V A k) (hp : p < 8) (h0 : 0 ≤ (A p).cb) : (A p).cb < n := by
  have hn := I.n14
  have hi := (I.a p hp).cb_in
  have h1 := cnt8_pos (A := A) (i := (A p).cb) hp rfl
  apply Classical.byContradiction
  intro hx
  by_cases hv : ever ≤ (A p).cb
  · have := (I.never _ hv (by omega)).2
    omega
  · have := I.shut _ h0 (by omega) (I.gone _ (by omega) (by omega))
    omega
/-- When the keeper has nothing under way, just those blocks are open that there are. -/
theorem InvB.settled (I : InvB n ever V A k) (h : k.ln = 0) (h0 : 0 ≤ i) (h1 : i < ever) : blkC (V (adK i)) = decide (n ≤ i) := by
  by_cases hi : n ≤ i
  · rw [I.gone i hi h1, decide_eq_true hi]
  · rw [I.here i h0 (by omega) (by omega), decide_eq_false hi]
/-- An act that leaves what counts. -/
theorem InvB.quiet (I : InvB n ever V A k) (hp : p < 8) (hN : V' adN = V adN) (hK : ∀ i, 0 ≤ i → i < 4 → V' (adK i) = V (adK i)) (hT : ∀ t, 0 ≤ t → t < 16 → V' (adT t 0) = V (adT t 0) ∧ V' (adT t 1) = V (adT t 1))
    (ha : AOk ever p a) (hc : a.cb = (A p).cb) (ho : a.ob = (A p).ob) : InvB n ever V' (putAS A p a) k := by
  have hn := I.n14
  have hcnt : ∀ i, cnt8 (putAS A p a) i = cnt8 A i := fun i => by rw [cnt8_put hp, hc]; omega
  have hob : ∀ q, (putAS A p a q).ob = (A q).ob := fun q => by
    by_cases hq : q = p
    · rw [hq, putAS_same, ho]
    · rw [putAS_other hq]
  refine ⟨by rw [hN, I.N], hn, fun i h0 h1 => ?_, fun i h0 h1 h2 => ?_, fun i h0 h1 => ?_, fun i h0 h1 => ?_, fun i h0 h1 h2 => ?_, fun h0 h1 => ?_, fun q hq h0 => ?_, fun t h0 h1 h2 => ?_, fun t h0 h1 => ?_, fun q hq => ?_, I.k⟩
  · rw [hK i h0 h1, hcnt]
    exact I.K i h0 h1
  · rw [hcnt]
    rw [hK i h0 h1] at h2
    exact I.shut i h0 h1 h2
  · rw [hK i (by omega) h1, hcnt]
    exact I.never i h0 h1
  · rw [hK i (by omega) (by omega)]
    exact I.gone i h0 h1
  · rw [hK i h0 (by omega)]
    exact I.here i h0 h1 h2
  · rw [hK (n - 1) (by omega) (by omega)]
    exact I.less h0 h1
  · rw [hob] at h0 ⊢
    rw [(hT _ h0 ((I.a q hq).ob_in).2).1]
    exact I.own q hq h0
  · rw [(hT t h0 h1).1]
    exact I.free t h0 h1 fun q hq => by rw [← hob]; exact h2 q hq
  · rw [(hT t h0 h1).2]
    exact I.I t h0 h1
  · by_cases hq' : q = p
    · rw [hq', putAS_same]
      exact ha
    · rw [putAS_other hq']
      exact I.a q hq
/-- A block's word changes, by what its count does. -/
theorem InvB.count (I : InvB n ever V A k) (hp : p < 8) (h0 : 0 ≤ i) (h1 : i < 4) (hv : V' = setV V (adK i) (blockW (cnt8 (putAS A p a) i) (blkC (V (adK i)))))
    (ha : AOk ever p a) (ho : a.ob = (A p).ob) (hc : (A p).cb = -1 ∧ a.cb = i ∧ blkC (V (adK i)) = false ∧ i < ever ∨ (A p).cb = i ∧ a.cb = -1) : InvB n ever V' (putAS A p a) k := by
  have hn := I.n14
  have hin := cnt8_in (putAS A p a)
  have hcnt : ∀ l, 0 ≤ l → l ≠ i → cnt8 (putAS A p a) l = cnt8 A l := fun l g0 g => by
    rw [cnt8_put hp]
    rcases hc with ⟨c1, c2, _⟩ | ⟨c1, c2⟩
    · rw [c1, c2, if_neg (by omega), if_neg (by omega)]; omega
    · rw [c1, c2, if_neg (by omega), if_neg (by omega)]; omega
  have hi' : V' (adK i) = blockW (cnt8 (putAS A p a) i) (blkC (V (adK i))) := by rw [hv]; exact setV_same (mayK ⟨h0, h1⟩) _
  have hC : blkC (V' (adK i)) = blkC (V (adK i)) := by rw [hi']; exact (blk_back _ ⟨(hin i).1, by have := (hin i).2; omega⟩).2
  have hK : ∀ l, 0 ≤ l → l < 4 → l ≠ i → V' (adK l) = V (adK l) := fun l g0 g1 g => by rw [hv]; exact setV_other (neKK ⟨g0, g1⟩ ⟨h0, h1⟩ g) _
  have hCl : ∀ l, 0 ≤ l → l < 4 → blkC (V' (adK l)) = blkC (V (adK l)) := fun l g0 g1 => by
    by_cases g : l = i
    · rw [g, hC]
    · rw [hK l g0 g1 g]
  have hT : ∀ t f, 0 ≤ t → t < 16 → 0 ≤ f → f < 10 → V' (adT t f) = V (adT t f) := fun t f g0 g1 g2 g3 => by rw [hv]; exact setV_other (Ne.symm (neKT ⟨h0, h1⟩ ⟨g0, g1⟩ ⟨g2, g3⟩)) _
  have hob : ∀ q, (putAS A p a q).ob = (A q).ob := fun q => by
    by_cases hq : q = p
    · rw [hq, putAS_same, ho]
    · rw [putAS_other hq]
  have hpos : (A p).cb = i → 1 ≤ cnt8 A i := fun e => cnt8_pos hp e
  have hput := cnt8_put (A := A) hp a i
  refine ⟨by rw [hv, setV_other (neNK ⟨h0, h1⟩)]; exact I.N, hn, fun l g0 g1 => ?_, fun l g0 g1 g2 => ?_, fun l g0 g1 => ?_, fun l g0 g1 => ?_, fun l g0 g1 g2 => ?_, fun g0 g1 => ?_, fun q hq g0 => ?_, fun t g0 g1 g2 => ?_, fun t g0 g1 => ?_, fun q hq => ?_, I.k⟩
  · by_cases g : l = i
    · rw [g, hC, hi']
    · rw [hcnt l g0 g, hK l g0 g1 g]
      exact I.K l g0 g1
  · rw [hCl l g0 g1] at g2
    by_cases g : l = i
    · rw [g] at g2 ⊢
      have := I.shut i h0 h1 g2
      rcases hc with ⟨_, _, c3, _⟩ | ⟨c1, c2⟩
      · rw [c3] at g2
        cases g2
      · have := hpos c1
        omega
    · rw [hcnt l g0 g]
      exact I.shut l g0 g1 g2
  · rw [hCl l (by omega) g1]
    by_cases g : l = i
    · rw [g] at g0 ⊢
      have hz := (I.never i g0 h1).2
      rcases hc with ⟨_, _, _, c4⟩ | ⟨c1, c2⟩
      · omega
      · have := hpos c1
        omega
    · rw [hcnt l (by omega) g]
      exact I.never l g0 g1
  · rw [hCl l (by omega) (by omega)]
    exact I.gone l g0 g1
  · rw [hCl l g0 (by omega)]
    exact I.here l g0 g1 g2
  · rw [hCl (n - 1) (by omega) (by omega)]
    exact I.less g0 g1
  · rw [hob] at g0 ⊢
    rw [hT _ 0 g0 ((I.a q hq).ob_in).2 (by decide) (by decide)]
    exact I.own q hq g0
  · rw [hT t 0 g0 g1 (by decide) (by decide)]
    exact I.free t g0 g1 fun q hq => by rw [← hob]; exact g2 q hq
  · rw [hT t 1 g0 g1 (by decide) (by decide)]
    exact I.I t g0 g1
  · by_cases hq' : q = p
    · rw [hq', putAS_same]
      exact ha
    · rw [putAS_other hq']
      exact I.a q hq
/-- A thread that nobody has gets an owner; an owner goes. -/
theorem InvB.owns (I : InvB n ever V A k) (hp : p < 8) (h0 : 0 ≤ t) (h1 : t < 16) {v : Int} (hv : V' = setV V (adT t 0) v) (ha : AOk ever p a) (hc : a.cb = (A p).cb)
    (ho : (A p).ob = -1 ∧ a.ob = t ∧ v = p + 1 ∧ V (adT t 0) = 0 ∨ (A p).ob = t ∧ a.ob = -1 ∧ v = 0) : InvB n ever V' (putAS A p a) k := by
  have hn := I.n14
  have hcnt : ∀ i, cnt8 (putAS A p a) i = cnt8 A i := fun i => by rw [cnt8_put hp, hc]; omega
  have hK : ∀ l, 0 ≤ l → l < 4 → V' (adK l) = V (adK l) := fun l g0 g1 => by rw [hv]; exact setV_other (neKT ⟨g0, g1⟩ ⟨h0, h1⟩ (by decide)) _
  have ht' : V' (adT t 0) = v := by rw [hv]; exact setV_same (mayT ⟨h0, h1⟩ (by decide)) _
  have hT : ∀ s f, 0 ≤ s → s < 16 → 0 ≤ f → f < 10 → s ≠ t ∨ f ≠ 0 → V' (adT s f) = V (adT s f) := fun s f g0 g1 g2 g3 g => by rw [hv]; exact setV_other (neTT ⟨g0, g1⟩ ⟨g2, g3⟩ ⟨h0, h1⟩ (by decide) g) _
  refine ⟨by rw [hv, setV_other (neNT ⟨h0, h1⟩ (by decide))]; exact I.N, hn, fun i g0 g1 => ?_, fun i g0 g1 g2 => ?_, fun i g0 g1 => ?_, fun i g0 g1 => ?_, fun i g0 g1 g2 => ?_, fun g0 g1 => ?_, fun q hq g0 => ?_, fun s g0 g1 g2 => ?_, fun s g0 g1 => ?_, fun q hq => ?_, I.k⟩
  · rw [hK i g0 g1, hcnt]
    exact I.K i g0 g1
  · rw [hcnt]
    rw [hK i g0 g1] at g2
    exact I.shut i g0 g1 g2
  · rw [hK i (by omega) g1, hcnt]
    exact I.never i g0 g1
  · rw [hK i (by omega) (by omega)]
    exact I.gone i g0 g1
  · rw [hK i g0 (by omega)]
    exact I.here i g0 g1 g2
  · rw [hK (n - 1) (by omega) (by omega)]
    exact I.less g0 g1
  · by_cases hq' : q = p
    · rw [hq', putAS_same] at g0 ⊢
      rcases ho with ⟨_, o2, o3, _⟩ | ⟨_, o2, _⟩
      · rw [o2, ht', o3]
      · omega
    · rw [putAS_other hq'] at g0 ⊢
      have hqo := I.own q hq g0
      have hne : (A q).ob ≠ t := by
        intro e
        rw [e] at hqo
        rcases ho with ⟨_, _, _, o4⟩ | ⟨o1, _⟩
        · omega
        · have := I.own p hp (by omega)
          rw [o1, hqo] at this
          omega
      rw [hT _ 0 g0 ((I.a q hq).ob_in).2 (by decide) (by decide) (.inl hne)]
      exact hqo
  · have g3 := g2 p hp
    rw [putAS_same] at g3
    by_cases hs : s = t
    · rw [hs] at g3 ⊢
      rcases ho with ⟨_, o2, _⟩ | ⟨_, _, o3⟩
      · exact absurd o2 g3
      · rw [ht', o3]
    · rw [hT s 0 g0 g1 (by decide) (by decide) (.inl hs)]
      refine I.free s g0 g1 fun q hq e => ?_
      by_cases hq' : q = p
      · rw [hq'] at e
        rcases ho with ⟨o1, _⟩ | ⟨o1, _⟩ <;> omega
      · have := g2 q hq
        rw [putAS_other hq'] at this
        exact this e
  · rw [hT s 1 g0 g1 (by decide) (by decide) (.inr (by decide))]
    exact I.I s g0 g1
  · by_cases hq' : q = p
    · rw [hq', putAS_same]
      exact ha
    · rw [putAS_other hq']
      exact I.a q hq
end
end Go.Proofs.YtffkjdmpeeagoaaDoor
namespace Go.Proofs.YtffkjdmpeeagoaaDoor
open Go.RowKit Go.Maps

section
variable {A : Nat → AS} {p q : Nat} {a : AS} {i t n ever : Int} {M : MV} {V V' : Ad → Int} {k : BO}
/-- Something begins. -/
theorem AOk.begin (h : AOk ever p a) (hp : p < 8) : AOk ever p ⟨a.th, a.begin p⟩ ∧ (⟨a.th, a.begin p⟩ : AS).cb = a.cb ∧ (⟨a.th, a.begin p⟩ : AS).ob = a.ob ∧ (a.begin p).ln ≠ 0 := by
  have ht := h.th
  unfold AS.begin
  by_cases h0 : a.o.ln = 0
  · rw [if_pos h0]
    by_cases h1 : a.th < 0
    · rw [if_pos h1]
      have e : newJ (p : Int) = ⟨false, 1, -1, 0, p + 1, 0, 0, 0, 0⟩ := by unfold newJ; rw [if_neg (by omega)]
      have hn := TNum.newJ (n := (p : Int)) (small64 (by omega) (by omega))
      rw [e] at hn ⊢
      refine ⟨⟨hn, ht, fun _ _ => ⟨by simp only; omega, rfl, fun h => by simp at h, fun h => by simp at h⟩, fun _ h => by simp at h⟩, ?_, ?_, by simp⟩
      · simp [AS.cb, h0, h1]
      · simp [AS.ob, h0]; omega
    · rw [if_neg h1]
      have e : newL a.th = ⟨true, 1, a.th, 0, 0, 0, a.th / 4, 0, 0⟩ := newL_eq (by omega)
      have hn := TNum.newL a.th
      rw [e] at hn ⊢
      refine ⟨⟨hn, ht, fun _ h => by simp at h, fun _ _ => rfl⟩, ?_, ?_, by simp⟩
      · simp [AS.cb, h0]
      · simp [AS.ob, h0]
  · rw [if_neg h0]
    exact ⟨h, rfl, rfl, h0⟩
theorem InvB.begin (I : InvB n ever V A k) (hp : p < 8) : InvB n ever V (putAS A p ⟨(A p).th, (A p).begin p⟩) k := by
  obtain ⟨h1, h2, h3, _⟩ := (I.a p hp).begin hp
  exact I.quiet hp rfl (fun _ _ _ => rfl) (fun _ _ _ => ⟨rfl, rfl⟩) h1 h2 h3
/-- What an actor's step leaves, and that it is as the law asks. -/
def Stept (n ever : Int) (A : Nat → AS) (k : BO) (p : Nat) (th : Int) (r : TO × MV) : Prop :=
  InvB n ever r.2.V (putAS A p (AS.next ⟨th, (A p).o⟩ r.1)) k ∧ (r.1.ln = 0 → r.1.lv = false → r.1.e = 0 → 0 ≤ r.1.th ∧ r.1.th < 4 * n) ∧ (r.1.ln = 0 → r.1.lv = true → r.1.e = 0)
theorem casV_may {x : Ad} (h : mayB x.k x.a x.f = true) (V : Ad → Int) (u : Int) : casV V x u = decide (V x = u) := by unfold casV; rw [h]; rfl
theorem csV_no {x : Ad} {u v : Int} (h : casV V x u = false) : csV V x u v = V := by unfold csV; rw [h]; rfl
theorem csV_yes {x : Ad} {u v : Int} (h : casV V x u = true) : csV V x u v = setV V x v := by unfold csV; rw [if_pos h]
set_option maxHeartbeats 2000000 in
theorem InvB.stept (I : InvB n ever M.V A k) (hp : p < 8) (hu : ∀ x, U64 (M.V x)) (h0 : (A p).o.ln ≠ 0) : Stept n ever A k p (A p).th (tX (A p).o M) := by
  have hn := I.n14
  have hA := I.a p hp
  have hq := hA.n.step (M := M) hu
  obtain ⟨⟨th, ⟨lv, ln, oth, e, ow, b, i, kk, w⟩⟩, hAp⟩ : ∃ a, A p = a := ⟨_, rfl⟩
  have hcb : (A p).cb = AS.cb ⟨th, ⟨lv, ln, oth, e, ow, b, i, kk, w⟩⟩ := by rw [hAp]
  have hob : (A p).ob = AS.ob ⟨th, ⟨lv, ln, oth, e, ow, b, i, kk, w⟩⟩ := by rw [hAp]
  have hown := I.own p hp
  have hlt := I.cb_lt hp
  rw [hcb] at hlt
  rw [hob] at hown
  rw [hAp] at hA hq h0
  unfold Stept
  rw [hAp]
  obtain ⟨hn1, hth, hj, hl⟩ := hA
  have hn1' := hn1
  obtain ⟨n1, n2, n3, n4, n5⟩ := hn1'
  simp only at n1 n2 n3 n4 n5 hth hj hl h0
  have hsame : ∀ i, 0 ≤ i → i < 4 → M.V (adK i) = M.V (adK i) := fun _ _ _ => rfl
  cases lv with
  | false =>
    obtain ⟨j1, j2, j3, j4⟩ := hj h0 rfl
    have n3 := n3 rfl
    have n4 := n4 rfl
    unfold JNum at n3
    have hI := I.I
    obtain ⟨m0, m1, m2⟩ := n3
    obtain ⟨m3, m4, m5, m6, m7, m8, m9, m10, m11⟩ := m2 h0
    subst j1
    subst m3
    show InvB n ever (joinX _ M).2.V _ k ∧ ((joinX _ M).1.ln = 0 → (joinX _ M).1.lv = false → _) ∧ _
    change TNum (joinX _ M).1 at hq
    rw [show tX (⟨false, ln, oth, 0, ow, b, i, kk, w⟩ : TO) M = joinX ⟨false, ln, oth, 0, ow, b, i, kk, w⟩ M from rfl]
    unfold joinX at hq ⊢
    obtain rfl | rfl | rfl | rfl | rfl | rfl | rfl : ln = 1 ∨ ln = 2 ∨ ln = 3 ∨ ln = 4 ∨ ln = 5 ∨ ln = 6 ∨ ln = 7 := by clear m7 m8 m9 m10 m11 n4 j3 j4 hlt hown; omega
    · clear m7 m8 m9 m10 m11 n4 j3 j4 hlt hown
      have hz : ¬ M.V adN = 0 := by rw [I.N]; omega
      have hle : (if 4 < M.V adN then 4 else M.V adN) = n := by rw [I.N, if_neg (by omega)]
      simp only [if_true, if_neg hz, hle] at hq ⊢
      refine ⟨I.quiet hp rfl (fun _ _ _ => rfl) (fun _ _ _ => ⟨rfl, rfl⟩) ⟨hq, hth, fun _ _ => ⟨rfl, j2, fun _ => hn.2.1, fun h => by simp [AS.next] at h⟩, fun _ h => by simp [AS.next] at h⟩ (by rw [hcb]; simp [AS.cb, AS.next]) (by rw [hob]; simp [AS.ob, AS.next]), fun h => by simp at h, fun h => by simp at h⟩
    · simp only [if_neg (show ¬ (2 : Int) = 1 by decide), if_true] at hq ⊢
      have j3' := j3 (.inl rfl)
      clear m7 m8 m9 m10 m11 n4 j3 j4 hlt hown
      split at hq
      · rename_i hc
        simp only [if_pos hc]
        exact ⟨I.quiet hp rfl (fun _ _ _ => rfl) (fun _ _ _ => ⟨rfl, rfl⟩) ⟨hq, hth, fun _ _ => ⟨rfl, j2, fun _ => j3', fun h => by simp [AS.next] at h⟩, fun _ h => by simp [AS.next] at h⟩ (by rw [hcb]; simp [AS.cb, AS.next]) (by rw [hob]; simp [AS.ob, AS.next]), fun h => by simp at h, fun h => by simp at h⟩
      · rename_i hc
        simp only [if_neg hc]
        split at hq
        · rename_i hc2
          simp only [if_pos hc2]
          exact ⟨I.quiet hp rfl (fun _ _ _ => rfl) (fun _ _ _ => ⟨rfl, rfl⟩) ⟨hq, hth, fun h _ => by simp [AS.next] at h, fun h _ => by simp [AS.next] at h⟩ (by rw [hcb]; simp [AS.cb, AS.next]) (by rw [hob]; simp [AS.ob, AS.next]), fun _ _ h => by simp at h, fun _ h => by simp at h⟩
        · rename_i hc2
          simp only [if_neg hc2]
          exact ⟨I.quiet hp rfl (fun _ _ _ => rfl) (fun _ _ _ => ⟨rfl, rfl⟩) ⟨hq, hth, fun _ _ => ⟨rfl, j2, fun _ => j3', fun h => by simp [AS.next] at h⟩, fun _ h => by simp [AS.next] at h⟩ (by rw [hcb]; simp [AS.cb, AS.next]) (by rw [hob]; simp [AS.ob, AS.next]), fun h => by simp at h, fun h => by simp at h⟩
    · simp only [if_neg (show ¬ (3 : Int) = 1 by decide), if_neg (show ¬ (3 : Int) = 2 by decide), if_true] at hq ⊢
      have j3' := j3 (.inr rfl)
      have m8' := m8 (.inr rfl)
      have n4' := n4 rfl
      clear m7 m8 m9 m10 m11 n4 j3 j4 hlt hown
      have hcas := casV_K (i := i) ⟨m5, m6⟩ M.V w
      split at hq
      · rename_i hc
        simp only [if_pos hc]
        rw [hcas] at hc
        have hw : M.V (adK i) = w := of_decide_eq_true hc
        obtain ⟨c1, c2⟩ := n4'
        have hcm : (A p).cb = -1 := by rw [hcb]; simp [AS.cb]
        have hcn : AS.cb (AS.next ⟨-1, ⟨false, 3, oth, 0, ow, b, i, kk, w⟩⟩ ⟨false, 4, oth, 0, ow, b, i, 0, w⟩) = i := by simp [AS.cb, AS.next]
        refine ⟨I.count (i := i) hp m5 m6 ?_ ⟨hq, hth, fun _ _ => ⟨rfl, j2, fun h => by simp [AS.next] at h, fun h => by simp [AS.next] at h⟩, fun _ h => by simp [AS.next] at h⟩ (by rw [hob]; simp [AS.ob, AS.next]) (.inl ⟨hcm, hcn, by rw [hw]; exact c1, by omega⟩), fun h => by simp at h, fun h => by simp at h⟩
        show csV M.V _ _ _ = _
        rw [csV_yes (by rw [hcas]; exact hc), cnt8_put hp, hcm, hcn, if_pos rfl, if_neg (show ¬ (-1 : Int) = i by omega)]
        have hK := I.K i m5 m6
        have hin := cnt8_in A i
        rw [hw] at hK ⊢
        unfold addW
        rw [hK, (blk_back _ ⟨hin.1, by omega⟩).1, (blk_back _ ⟨hin.1, by omega⟩).2]
        congr 2
        omega
      · rename_i hc
        simp only [if_neg hc]
        have hc' := by simpa using hc
        refine ⟨I.quiet hp (by show csV M.V _ _ _ _ = _; rw [csV_no hc']) (fun _ _ _ => by show csV M.V _ _ _ _ = _; rw [csV_no hc']) (fun _ _ _ => by show csV M.V _ _ _ _ = _ ∧ csV M.V _ _ _ _ = _; rw [csV_no hc']; exact ⟨rfl, rfl⟩) ⟨hq, hth, fun _ _ => ⟨rfl, j2, fun _ => j3', fun h => by simp [AS.next] at h⟩, fun _ h => by simp [AS.next] at h⟩ (by rw [hcb]; simp [AS.cb, AS.next]) (by rw [hob]; simp [AS.ob, AS.next]), fun h => by simp at h, fun h => by simp at h⟩
    · simp only [if_neg (show ¬ (4 : Int) = 1 by decide), if_neg (show ¬ (4 : Int) = 2 by decide), if_neg (show ¬ (4 : Int) = 3 by decide), if_true] at hq ⊢
      obtain ⟨k1, k2⟩ := m9 rfl
      clear m7 m8 m9 m10 m11 n4 j3 j4 hlt hown
      have ht : 0 ≤ 4 * i + kk ∧ 4 * i + kk < 16 := by omega
      have hcas := casV_T (t := 4 * i + kk) (k := 0) ht (by decide) M.V 0
      split at hq
      · rename_i hc
        simp only [if_pos hc]
        rw [hcas] at hc
        have hw : M.V (adT (4 * i + kk) 0) = 0 := of_decide_eq_true hc
        refine ⟨I.owns (t := 4 * i + kk) hp ht.1 ht.2 (v := ow) ?_ ⟨hq, hth, fun _ _ => ⟨rfl, j2, fun h => by simp [AS.next] at h, fun _ => by simp [AS.next]; omega⟩, fun _ h => by simp [AS.next] at h⟩ (by rw [hcb]; simp [AS.cb, AS.next]) (.inl ⟨by rw [hob]; simp [AS.ob], by simp [AS.ob, AS.next], j2, hw⟩), fun h => by simp at h, fun h => by simp at h⟩
        show csV M.V _ _ _ = _
        rw [csV_yes (by rw [hcas]; exact hc)]
      · rename_i hc
        simp only [if_neg hc]
        have hc' := by simpa using hc
        have hV : (csM M (adT (4 * i + kk) 0) 0 ow).V = M.V := by show csV M.V _ _ _ = _; rw [csV_no hc']
        split at hq
        · rename_i hc2
          simp only [if_pos hc2]
          exact ⟨I.quiet hp (by rw [hV]) (fun _ _ _ => by rw [hV]) (fun _ _ _ => by rw [hV]; exact ⟨rfl, rfl⟩) ⟨hq, hth, fun _ _ => ⟨rfl, j2, fun h => by simp [AS.next] at h, fun h => by simp [AS.next] at h⟩, fun _ h => by simp [AS.next] at h⟩ (by rw [hcb]; simp [AS.cb, AS.next]) (by rw [hob]; simp [AS.ob, AS.next]), fun h => by simp at h, fun h => by simp at h⟩
        · rename_i hc2
          simp only [if_neg hc2]
          exact ⟨I.quiet hp (by rw [hV]) (fun _ _ _ => by rw [hV]) (fun _ _ _ => by rw [hV]; exact ⟨rfl, rfl⟩) ⟨hq, hth, fun _ _ => ⟨rfl, j2, fun h => by simp [AS.next] at h, fun h => by simp [AS.next] at h⟩, fun _ h => by simp [AS.next] at h⟩ (by rw [hcb]; simp [AS.cb, AS.next]) (by rw [hob]; simp [AS.ob, AS.next]), fun h => by simp at h, fun h => by simp at h⟩
    · simp only [if_neg (show ¬ (5 : Int) = 1 by decide), if_neg (show ¬ (5 : Int) = 2 by decide), if_neg (show ¬ (5 : Int) = 3 by decide), if_neg (show ¬ (5 : Int) = 4 by decide), if_true] at hq ⊢
      obtain ⟨k1, k2, k3, k4⟩ := m10 rfl
      have j4' := j4 rfl
      clear m7 m8 m9 m10 m11 n4 j3 j4 hown
      have hV : ∀ x, (∀ f, 1 ≤ f → f < 10 → x ≠ adT oth f) → (stM M (adT oth kk) 0).V x = M.V x := fun x hx => setV_other (hx kk k3 k4) 0
      have hVN := hV adN fun f _ _ => neNT ⟨k1, k2⟩ ⟨by omega, by omega⟩
      have hVK : ∀ l, 0 ≤ l → l < 4 → (stM M (adT oth kk) 0).V (adK l) = M.V (adK l) := fun l g0 g1 => hV _ fun f _ _ => neKT ⟨g0, g1⟩ ⟨k1, k2⟩ ⟨by omega, by omega⟩
      have hVT : ∀ t, 0 ≤ t → t < 16 → (stM M (adT oth kk) 0).V (adT t 0) = M.V (adT t 0) ∧ (stM M (adT oth kk) 0).V (adT t 1) = M.V (adT t 1) := fun t g0 g1 => by
        refine ⟨hV _ fun f _ _ => neTT ⟨g0, g1⟩ (by decide) ⟨k1, k2⟩ ⟨by omega, by omega⟩ (.inr (by omega)), ?_⟩
        by_cases hs : t = oth ∧ kk = 1
        · obtain ⟨rfl, rfl⟩ := hs
          rw [hI t g0 g1]
          exact setV_same (mayT ⟨g0, g1⟩ (by decide)) 0
        · exact setV_other (neTT ⟨g0, g1⟩ (by decide) ⟨k1, k2⟩ ⟨by omega, by omega⟩ (by omega)) 0
      split at hq
      · rename_i hc
        simp only [if_pos hc]
        have hlt' : i < n := hlt (by simp [AS.cb]; exact m5)
        clear hlt
        refine ⟨I.quiet hp hVN hVK hVT ⟨hq, by simp [AS.next]; omega, fun h _ => by simp [AS.next] at h, fun h _ => by simp [AS.next] at h⟩ ?_ (by rw [hob]; simp [AS.ob, AS.next]), fun _ _ _ => ⟨k1, by show oth < 4 * n; omega⟩, fun _ h => by simp at h⟩
        rw [hcb]
        simp [AS.cb, AS.next]
        omega
      · rename_i hc
        simp only [if_neg hc]
        exact ⟨I.quiet hp hVN hVK hVT ⟨hq, hth, fun _ _ => ⟨rfl, j2, fun h => by simp [AS.next] at h, fun _ => j4'⟩, fun _ h => by simp [AS.next] at h⟩ (by rw [hcb]; simp [AS.cb, AS.next]) (by rw [hob]; simp [AS.ob, AS.next]), fun h => by simp at h, fun h => by simp at h⟩
    · simp only [if_neg (show ¬ (6 : Int) = 1 by decide), if_neg (show ¬ (6 : Int) = 2 by decide), if_neg (show ¬ (6 : Int) = 3 by decide), if_neg (show ¬ (6 : Int) = 4 by decide), if_neg (show ¬ (6 : Int) = 5 by decide), if_true] at hq ⊢
      exact ⟨I.quiet hp rfl (fun _ _ _ => rfl) (fun _ _ _ => ⟨rfl, rfl⟩) ⟨hq, hth, fun _ _ => ⟨rfl, j2, fun h => by simp [AS.next] at h, fun h => by simp [AS.next] at h⟩, fun _ h => by simp [AS.next] at h⟩ (by rw [hcb]; simp [AS.cb, AS.next]) (by rw [hob]; simp [AS.ob, AS.next]), fun h => by simp at h, fun h => by simp at h⟩
    · simp only [if_neg (show ¬ (7 : Int) = 1 by decide), if_neg (show ¬ (7 : Int) = 2 by decide), if_neg (show ¬ (7 : Int) = 3 by decide), if_neg (show ¬ (7 : Int) = 4 by decide), if_neg (show ¬ (7 : Int) = 5 by decide), if_neg (show ¬ (7 : Int) = 6 by decide), if_true] at hq ⊢
      clear m7 m8 m9 m10 m11 n4 j3 j4 hlt hown
      have hcas := casV_K (i := i) ⟨m5, m6⟩ M.V w
      split at hq
      · rename_i hc
        simp only [if_pos hc]
        rw [hcas] at hc
        have hw : M.V (adK i) = w := of_decide_eq_true hc
        have hcm : (A p).cb = i := by rw [hcb]; simp [AS.cb]
        have hcn : AS.cb (AS.next ⟨-1, ⟨false, 7, oth, 0, ow, b, i, kk, w⟩⟩ ⟨false, 0, oth, 7, ow, b, i, kk, w⟩) = -1 := by simp [AS.cb, AS.next]
        have hpos := cnt8_pos hp hcm
        refine ⟨I.count (i := i) hp m5 m6 ?_ ⟨hq, hth, fun h _ => by simp [AS.next] at h, fun h _ => by simp [AS.next] at h⟩ (by rw [hob]; simp [AS.ob, AS.next]) (.inr ⟨hcm, hcn⟩), fun _ _ h => by simp at h, fun _ h => by simp at h⟩
        show csV M.V _ _ _ = _
        rw [csV_yes (by rw [hcas]; exact hc), cnt8_put hp, hcm, hcn, if_pos rfl, if_neg (show ¬ (-1 : Int) = i by omega)]
        have hK := I.K i m5 m6
        have hin := cnt8_in A i
        rw [hw] at hK ⊢
        unfold fewW
        rw [hK, (blk_back _ ⟨hin.1, by omega⟩).1, (blk_back _ ⟨hin.1, by omega⟩).2, if_neg (by omega)]
        congr 2
        omega
      · rename_i hc
        simp only [if_neg hc]
        have hc' := by simpa using hc
        refine ⟨I.quiet hp (by show csV M.V _ _ _ _ = _; rw [csV_no hc']) (fun _ _ _ => by show csV M.V _ _ _ _ = _; rw [csV_no hc']) (fun _ _ _ => by show csV M.V _ _ _ _ = _ ∧ csV M.V _ _ _ _ = _; rw [csV_no hc']; exact ⟨rfl, rfl⟩) ⟨hq, hth, fun _ _ => ⟨rfl, j2, fun h => by simp [AS.next] at h, fun h => by simp [AS.next] at h⟩, fun _ h => by simp [AS.next] at h⟩ (by rw [hcb]; simp [AS.cb, AS.next]) (by rw [hob]; simp [AS.ob, AS.next]), fun h => by simp at h, fun h => by simp at h⟩
  | true =>
    have hl' := hl h0 rfl
    have n5 := n5 rfl
    unfold LNum at n5
    have hI := I.I
    obtain ⟨m0, m1, m2⟩ := n5
    obtain ⟨m3, m4, m5, m6⟩ := m2 h0
    subst hl'
    subst m3
    subst m6
    have hi : 0 ≤ th / 4 ∧ th / 4 < 4 := by omega
    show InvB n ever (leaveX _ M).2.V _ k ∧ ((leaveX _ M).1.ln = 0 → (leaveX _ M).1.lv = false → _) ∧ _
    change TNum (leaveX _ M).1 at hq
    rw [show tX (⟨true, ln, th, 0, ow, b, th / 4, kk, w⟩ : TO) M = leaveX ⟨true, ln, th, 0, ow, b, th / 4, kk, w⟩ M from rfl]
    unfold leaveX at hq ⊢
    obtain rfl | rfl | rfl | rfl | rfl | rfl : ln = 1 ∨ ln = 2 ∨ ln = 3 ∨ ln = 4 ∨ ln = 5 ∨ ln = 6 := by omega
    · have hz : ¬ M.V (adT th 0) = 0 := by
        have := hown (by simp [AS.ob]; omega)
        simp [AS.ob] at this
        omega
      simp only [if_true, if_neg hz] at hq ⊢
      exact ⟨I.quiet hp rfl (fun _ _ _ => rfl) (fun _ _ _ => ⟨rfl, rfl⟩) ⟨hq, hth, fun _ h => by simp [AS.next] at h, fun _ _ => by simp [AS.next]⟩ (by rw [hcb]; simp [AS.cb, AS.next]) (by rw [hob]; simp [AS.ob, AS.next]), fun h => by simp at h, fun h => by simp at h⟩
    · have hz : M.V (adT th 1) = 0 := hI th m4 m5
      simp only [if_neg (show ¬ (2 : Int) = 1 by decide), if_true, if_pos hz] at hq ⊢
      exact ⟨I.quiet hp rfl (fun _ _ _ => rfl) (fun _ _ _ => ⟨rfl, rfl⟩) ⟨hq, hth, fun _ h => by simp [AS.next] at h, fun _ _ => by simp [AS.next]⟩ (by rw [hcb]; simp [AS.cb, AS.next]) (by rw [hob]; simp [AS.ob, AS.next]), fun h => by simp at h, fun h => by simp at h⟩
    · simp only [if_neg (show ¬ (3 : Int) = 1 by decide), if_neg (show ¬ (3 : Int) = 2 by decide), if_true] at hq ⊢
      exact ⟨I.quiet hp (setV_other (neNT ⟨m4, m5⟩ (by decide)) 0) (fun l g0 g1 => setV_other (neKT ⟨g0, g1⟩ ⟨m4, m5⟩ (by decide)) 0) (fun t g0 g1 => ⟨setV_other (neTT ⟨g0, g1⟩ (by decide) ⟨m4, m5⟩ (by decide) (.inr (by decide))) 0, setV_other (neTT ⟨g0, g1⟩ (by decide) ⟨m4, m5⟩ (by decide) (.inr (by decide))) 0⟩) ⟨hq, hth, fun _ h => by simp [AS.next] at h, fun _ _ => by simp [AS.next]⟩ (by rw [hcb]; simp [AS.cb, AS.next]) (by rw [hob]; simp [AS.ob, AS.next]), fun h => by simp at h, fun h => by simp at h⟩
    · simp only [if_neg (show ¬ (4 : Int) = 1 by decide), if_neg (show ¬ (4 : Int) = 2 by decide), if_neg (show ¬ (4 : Int) = 3 by decide), if_true] at hq ⊢
      exact ⟨I.owns (t := th) (v := 0) hp m4 m5 rfl ⟨hq, hth, fun _ h => by simp [AS.next] at h, fun _ _ => by simp [AS.next]⟩ (by rw [hcb]; simp [AS.cb, AS.next]) (.inr ⟨by rw [hob]; simp [AS.ob], by simp [AS.ob, AS.next], rfl⟩), fun h => by simp at h, fun h => by simp at h⟩
    · simp only [if_neg (show ¬ (5 : Int) = 1 by decide), if_neg (show ¬ (5 : Int) = 2 by decide), if_neg (show ¬ (5 : Int) = 3 by decide), if_neg (show ¬ (5 : Int) = 4 by decide), if_true] at hq ⊢
      exact ⟨I.quiet hp rfl (fun _ _ _ => rfl) (fun _ _ _ => ⟨rfl, rfl⟩) ⟨hq, hth, fun _ h => by simp [AS.next] at h, fun _ _ => by simp [AS.next]⟩ (by rw [hcb]; simp [AS.cb, AS.next]) (by rw [hob]; simp [AS.ob, AS.next]), fun h => by simp at h, fun h => by simp at h⟩
    · simp only [if_neg (show ¬ (6 : Int) = 1 by decide), if_neg (show ¬ (6 : Int) = 2 by decide), if_neg (show ¬ (6 : Int) = 3 by decide), if_neg (show ¬ (6 : Int) = 4 by decide), if_neg (show ¬ (6 : Int) = 5 by decide), if_true] at hq ⊢
      have hcas := casV_K (i := th / 4) hi M.V w
      split at hq
      · rename_i hc
        simp only [if_pos hc]
        rw [hcas] at hc
        have hw : M.V (adK (th / 4)) = w := of_decide_eq_true hc
        have hcm : (A p).cb = th / 4 := by rw [hcb]; simp [AS.cb]; omega
        have hcn : AS.cb (AS.next ⟨th, ⟨true, 6, th, 0, ow, b, th / 4, kk, w⟩⟩ ⟨true, 0, th, 0, ow, b, th / 4, kk, w⟩) = -1 := by simp [AS.cb, AS.next]
        have hpos := cnt8_pos hp hcm
        refine ⟨I.count (i := th / 4) hp hi.1 hi.2 ?_ ⟨hq, by simp [AS.next], fun h _ => by simp [AS.next] at h, fun h _ => by simp [AS.next] at h⟩ (by rw [hob]; simp [AS.ob, AS.next]) (.inr ⟨hcm, hcn⟩), fun _ h => by simp at h, fun _ _ => trivial⟩
        show csV M.V _ _ _ = _
        rw [csV_yes (by rw [hcas]; exact hc), cnt8_put hp, hcm, hcn, if_pos rfl, if_neg (show ¬ (-1 : Int) = th / 4 by omega)]
        have hK := I.K (th / 4) hi.1 hi.2
        have hin := cnt8_in A (th / 4)
        rw [hw] at hK ⊢
        unfold fewW
        rw [hK, (blk_back _ ⟨hin.1, by omega⟩).1, (blk_back _ ⟨hin.1, by omega⟩).2, if_neg (by omega)]
        congr 2
        omega
      · rename_i hc
        simp only [if_neg hc]
        have hc' := by simpa using hc
        refine ⟨I.quiet hp (by show csV M.V _ _ _ _ = _; rw [csV_no hc']) (fun _ _ _ => by show csV M.V _ _ _ _ = _; rw [csV_no hc']) (fun _ _ _ => by show csV M.V _ _ _ _ = _ ∧ csV M.V _ _ _ _ = _; rw [csV_no hc']; exact ⟨rfl, rfl⟩) ⟨hq, hth, fun _ h => by simp [AS.next] at h, fun _ _ => by simp [AS.next]⟩ (by rw [hcb]; simp [AS.cb, AS.next]) (by rw [hob]; simp [AS.ob, AS.next]), fun h => by simp at h, fun h => by simp at h⟩
end
end Go.Proofs.YtffkjdmpeeagoaaDoor
namespace Go.Proofs.YtffkjdmpeeagoaaDoor
open Go.RowKit Go.Maps

section
variable {A : Nat → AS} {p q : Nat} {a : AS} {i t n ever : Int} {M : MV} {V V' : Ad → Int} {k : BO}
theorem opn_back : blkN opnW = 0 ∧ blkC opnW = false := blk_back false (by decide)
theorem cld_back : blkN cldW = 0 ∧ blkC cldW = true := blk_back true (by decide)
theorem AOk.mono (h : AOk ever p a) {v : Int} (g : ever ≤ v) : AOk v p a := ⟨h.n, h.th, fun h0 h1 => by obtain ⟨h2, h3, h4, h5⟩ := h.j h0 h1; exact ⟨h2, h3, fun h6 => by have := h4 h6; omega, h5⟩, h.l⟩
theorem InvB.keep (I : InvB n ever V A k) {k' : BO} (h : k.ln ≠ 3) (h' : k'.ln ≠ 3) (hk : KOk n k') : InvB n ever V A k' :=
  ⟨I.N, I.n14, I.K, I.shut, I.never, I.gone, fun i h0 h1 _ => I.here i h0 h1 fun g => h g.1, fun _ h3 => absurd h3 h', I.own, I.free, I.I, I.a, hk⟩
theorem InvB.beginK (I : InvB n ever V A k) (h : k.ln = 0) (lv : Bool) : InvB n ever V A (newB lv) := by
  refine I.keep (by omega) (by simp [newB]) ?_
  unfold KOk newB
  cases lv <;> simp
/-- How many blocks there are changes. -/
theorem InvB.count1 (I : InvB n ever V A k) {n' ever' : Int} {k' : BO} (hv : V' = setV V adN n') (h14 : 1 ≤ n' ∧ n' ≤ ever' ∧ ever' ≤ 4) (he : ever ≤ ever') (hg : ∀ i, n' ≤ i → i < ever' → blkC (V (adK i)) = true)
    (hh : ∀ i, 0 ≤ i → i < n' → ¬ (k'.ln = 3 ∧ i = n' - 1) → blkC (V (adK i)) = false) (hl : k'.lv = true → k'.ln = 3 → blkC (V (adK (n' - 1))) = true) (hk : KOk n' k') : InvB n' ever' V' A k' := by
  have hn := I.n14
  have hK : ∀ l, 0 ≤ l → l < 4 → V' (adK l) = V (adK l) := fun l g0 g1 => by rw [hv]; exact setV_other (Ne.symm (neNK ⟨g0, g1⟩)) _
  have hT : ∀ s f, 0 ≤ s → s < 16 → 0 ≤ f → f < 10 → V' (adT s f) = V (adT s f) := fun s f g0 g1 g2 g3 => by rw [hv]; exact setV_other (Ne.symm (neNT ⟨g0, g1⟩ ⟨g2, g3⟩)) _
  refine ⟨by rw [hv]; exact setV_same mayN _, h14, fun i g0 g1 => ?_, fun i g0 g1 g2 => ?_, fun i g0 g1 => ?_, fun i g0 g1 => ?_, fun i g0 g1 g2 => ?_, fun g0 g1 => ?_, fun q hq g0 => ?_, fun s g0 g1 g2 => ?_, fun s g0 g1 => ?_, fun q hq => (I.a q hq).mono he, hk⟩
  · rw [hK i g0 g1]
    exact I.K i g0 g1
  · rw [hK i g0 g1] at g2
    exact I.shut i g0 g1 g2
  · rw [hK i (by omega) g1]
    exact I.never i (by omega) g1
  · rw [hK i (by omega) (by omega)]
    exact hg i g0 g1
  · rw [hK i g0 (by omega)]
    exact hh i g0 g1 g2
  · rw [hK (n' - 1) (by omega) (by omega)]
    exact hl g0 g1
  · rw [hT _ 0 g0 ((I.a q hq).ob_in).2 (by decide) (by decide)]
    exact I.own q hq g0
  · rw [hT s 0 g0 g1 (by decide) (by decide)]
    exact I.free s g0 g1 g2
  · rw [hT s 1 g0 g1 (by decide) (by decide)]
    exact I.I s g0 g1
/-- The last block, that nobody joined, opens or closes. -/
theorem InvB.flips (I : InvB n ever V A k) {k' : BO} {c : Bool} (hv : V' = setV V (adK (n - 1)) (blockW 0 c)) (h0 : cnt8 A (n - 1) = 0)
    (hh : ∀ i, 0 ≤ i → i < n - 1 → blkC (V (adK i)) = false) (hc : k'.ln ≠ 3 → c = false) (hl : k'.lv = true → k'.ln = 3 → c = true) (hk : KOk n k') : InvB n ever V' A k' := by
  have hn := I.n14
  have hm : 0 ≤ n - 1 ∧ n - 1 < 4 := by omega
  have hi : V' (adK (n - 1)) = blockW 0 c := by rw [hv]; exact setV_same (mayK hm) _
  have hC : blkC (V' (adK (n - 1))) = c := by rw [hi]; exact (blk_back c (by decide)).2
  have hK : ∀ l, 0 ≤ l → l < 4 → l ≠ n - 1 → V' (adK l) = V (adK l) := fun l g0 g1 g => by rw [hv]; exact setV_other (neKK ⟨g0, g1⟩ hm g) _
  have hT : ∀ s f, 0 ≤ s → s < 16 → 0 ≤ f → f < 10 → V' (adT s f) = V (adT s f) := fun s f g0 g1 g2 g3 => by rw [hv]; exact setV_other (Ne.symm (neKT hm ⟨g0, g1⟩ ⟨g2, g3⟩)) _
  refine ⟨by rw [hv, setV_other (neNK hm)]; exact I.N, hn, fun i g0 g1 => ?_, fun i g0 g1 g2 => ?_, fun i g0 g1 => ?_, fun i g0 g1 => ?_, fun i g0 g1 g2 => ?_, fun g0 g1 => ?_, fun q hq g0 => ?_, fun s g0 g1 g2 => ?_, fun s g0 g1 => ?_, I.a, hk⟩
  · by_cases g : i = n - 1
    · rw [g, hC, hi, h0]
    · rw [hK i g0 g1 g]
      exact I.K i g0 g1
  · by_cases g : i = n - 1
    · rw [g, h0]
    · rw [hK i g0 g1 g] at g2
      exact I.shut i g0 g1 g2
  · rw [hK i (by omega) g1 (by omega)]
    exact I.never i g0 g1
  · rw [hK i (by omega) (by omega) (by omega)]
    exact I.gone i g0 g1
  · by_cases g : i = n - 1
    · rw [g, hC]
      exact hc fun h3 => g2 ⟨h3, g⟩
    · rw [hK i g0 (by omega) g]
      exact hh i g0 (by omega)
  · rw [hC]
    exact hl g0 g1
  · rw [hT _ 0 g0 ((I.a q hq).ob_in).2 (by decide) (by decide)]
    exact I.own q hq g0
  · rw [hT s 0 g0 g1 (by decide) (by decide)]
    exact I.free s g0 g1 g2
  · rw [hT s 1 g0 g1 (by decide) (by decide)]
    exact I.I s g0 g1
def mx (a b : Int) : Int := if a < b then b else a
theorem mx_le {a b : Int} (h : b ≤ a) : mx a b = a := by unfold mx; rw [if_neg (by omega)]
/-- The keeper's step. -/
theorem InvB.kept (I : InvB n ever M.V A k) (h0 : k.ln ≠ 0) : InvB ((kX k M).2.V adN) (mx ever ((kX k M).2.V adN)) (kX k M).2.V A (kX k M).1 ∧ ((kX k M).1.ln = 0 ∨ (kX k M).1.ln = k.ln + 1) := by
  have hn := I.n14
  have hk := I.k
  obtain ⟨lv, ln, e, b⟩ := k
  unfold KOk at hk
  simp only at hk h0
  have hN := I.N
  have he : mx ever n = ever := mx_le hn.2.1
  have hcN := casV_may mayN M.V
  rcases hk with hk | ⟨rfl, hk⟩ | ⟨rfl, hk⟩
  · exact absurd hk h0
  · rw [show kX (⟨false, ln, e, b⟩ : BO) M = moreX ⟨false, ln, e, b⟩ M from rfl]
    unfold moreX
    rcases hk with rfl | ⟨rfl, rfl, h4⟩ | ⟨rfl, rfl, h2⟩
    · simp only [if_true]
      rw [show (ldM M adN).V = M.V from rfl, hN, he]
      split
      · exact ⟨I.keep (by simp) (by simp) (by simp [KOk]), .inl (by simp)⟩
      · refine ⟨I.keep (by simp) (by simp) ?_, .inr rfl⟩
        exact .inr (.inl ⟨rfl, .inr (.inl ⟨rfl, rfl, by omega⟩)⟩)
    · have hc : casV M.V adN b = true := by rw [hcN, hN]; simp
      have hV : (csM M adN b (b + 1)).V = setV M.V adN (b + 1) := csV_yes hc
      simp only [if_neg (show ¬ (2 : Int) = 1 by decide), if_true, hc]
      rw [hV, setV_same mayN]
      refine ⟨I.count1 rfl (by unfold mx; split <;> omega) (by unfold mx; split <;> omega) (fun i g0 g1 => ?_) (fun i g0 g1 g2 => I.here i g0 ?_ fun g => by simp at g) (fun g => by simp at g) ?_, .inr rfl⟩
      · refine I.gone i (by omega) ?_
        unfold mx at g1
        split at g1 <;> omega
      · simp only [true_and] at g2
        omega
      · exact .inr (.inl ⟨rfl, .inr (.inr ⟨rfl, by show b = b + 1 - 1; omega, by omega⟩)⟩)
    · have hm : 0 ≤ n - 1 ∧ n - 1 < 4 := by omega
      have hcas := casV_K hm M.V cldW
      have hK := I.K (n - 1) hm.1 hm.2
      have hS := I.shut (n - 1) hm.1 hm.2
      simp only [if_neg (show ¬ (3 : Int) = 1 by decide), if_neg (show ¬ (3 : Int) = 2 by decide), if_true]
      have hNV : (csM M (adK (n - 1)) cldW opnW).V adN = n := by
        show csV M.V _ _ _ _ = _
        unfold csV
        split
        · rw [setV_other (neNK hm), hN]
        · exact hN
      rw [hNV, he]
      refine ⟨?_, .inl (by simp)⟩
      by_cases hw : M.V (adK (n - 1)) = cldW
      · have hz : cnt8 A (n - 1) = 0 := hS (by rw [hw]; exact cld_back.2)
        refine I.flips (c := false) (csV_yes (by rw [hcas, hw]; simp)) hz (fun i g0 g1 => I.here i g0 (by omega) (by simp only; omega)) (fun _ => rfl) (fun g => by simp at g) (by simp [KOk])
      · rw [show (csM M (adK (n - 1)) cldW opnW).V = M.V from csV_no (by rw [hcas]; simpa using hw)]
        have hz : blkC (M.V (adK (n - 1))) = false := by
          cases hb : blkC (M.V (adK (n - 1))) with
          | false => rfl
          | true =>
            rw [hb, hS hb] at hK
            exact absurd hK hw
        refine ⟨I.N, I.n14, I.K, I.shut, I.never, I.gone, fun i g0 g1 _ => ?_, fun g => by simp at g, I.own, I.free, I.I, I.a, by simp [KOk]⟩
        by_cases g : i = n - 1
        · rw [g, hz]
        · exact I.here i g0 g1 (by simp only; omega)
  · rw [show kX (⟨true, ln, e, b⟩ : BO) M = lessX ⟨true, ln, e, b⟩ M from rfl]
    unfold lessX
    rcases hk with rfl | ⟨rfl | rfl, rfl, h2⟩
    · simp only [if_true]
      rw [show (ldM M adN).V = M.V from rfl, hN, he]
      split
      · exact ⟨I.keep (by simp) (by simp) (by simp [KOk]), .inl (by simp)⟩
      · rw [if_neg (by omega)]
        refine ⟨I.keep (by simp) (by simp) ?_, .inr rfl⟩
        exact .inr (.inr ⟨rfl, .inr ⟨.inl rfl, rfl, by omega⟩⟩)
    · have hm : 0 ≤ b - 1 ∧ b - 1 < 4 := by omega
      have hcas := casV_K hm M.V opnW
      have hK := I.K (b - 1) hm.1 hm.2
      simp only [if_neg (show ¬ (2 : Int) = 1 by decide), if_true]
      have hNV : (csM M (adK (b - 1)) opnW cldW).V adN = b := by
        show csV M.V _ _ _ _ = _
        unfold csV
        split
        · rw [setV_other (neNK hm), hN]
        · exact hN
      rw [hNV, he]
      by_cases hw : M.V (adK (b - 1)) = opnW
      · have hc : casV M.V (adK (b - 1)) opnW = true := by rw [hcas, hw]; simp
        rw [if_pos hc]
        have hz : cnt8 A (b - 1) = 0 := by
          have hin := cnt8_in A (b - 1)
          rw [hw] at hK
          have := congrArg blkN hK
          rw [opn_back.1, (blk_back _ ⟨hin.1, by omega⟩).1] at this
          exact this.symm
        refine ⟨I.flips (c := true) (csV_yes hc) hz (fun i g0 g1 => I.here i g0 (by omega) (by simp only; omega)) (fun g => by simp at g) (fun _ _ => rfl) ?_, .inr rfl⟩
        exact .inr (.inr ⟨rfl, .inr ⟨.inr rfl, rfl, by omega⟩⟩)
      · have hc : casV M.V (adK (b - 1)) opnW = false := by rw [hcas]; simpa using hw
        rw [if_neg (by rw [hc]; decide), show (csM M (adK (b - 1)) opnW cldW).V = M.V from csV_no hc]
        exact ⟨I.keep (by simp) (by simp) (by simp [KOk]), .inl (by simp)⟩
    · have hc : casV M.V adN b = true := by rw [hcN, hN]; simp
      have hV : (csM M adN b (b - 1)).V = setV M.V adN (b - 1) := csV_yes hc
      simp only [if_neg (show ¬ (3 : Int) = 1 by decide), if_neg (show ¬ (3 : Int) = 2 by decide), if_true, hc]
      rw [hV, setV_same mayN, mx_le (by omega)]
      refine ⟨I.count1 rfl (by omega) (Int.le_refl _) (fun i g0 g1 => ?_) (fun i g0 g1 g2 => I.here i g0 (by omega) (by simp only; omega)) (fun _ g => by simp at g) (by simp [KOk]), .inl (by simp)⟩
      by_cases g : i = b - 1
      · rw [g]
        exact I.less rfl rfl
      · exact I.gone i (by omega) g1
/-- An actor's act: it begins something, if nothing is under way, and takes a step. -/
theorem InvB.acted (I : InvB n ever M.V A k) (hp : p < 8) (hu : ∀ x, U64 (M.V x)) : InvB n ever (tX ((A p).begin p) M).2.V (putAS A p (AS.next (A p) (tX ((A p).begin p) M).1)) k
    ∧ ((tX ((A p).begin p) M).1.ln = 0 → (tX ((A p).begin p) M).1.lv = false → (tX ((A p).begin p) M).1.e = 0 → 0 ≤ (tX ((A p).begin p) M).1.th ∧ (tX ((A p).begin p) M).1.th < 4 * n) ∧ ((tX ((A p).begin p) M).1.ln = 0 → (tX ((A p).begin p) M).1.lv = true → (tX ((A p).begin p) M).1.e = 0) := by
  have hb := ((I.a p hp).begin hp).2.2.2
  have h := (I.begin hp).stept hp hu (by rw [putAS_same]; exact hb)
  unfold Stept at h
  rw [putAS_same] at h
  obtain ⟨h1, h2, h3⟩ := h
  refine ⟨?_, h2, h3⟩
  have e : putAS (putAS A p ⟨(A p).th, (A p).begin p⟩) p (AS.next ⟨(A p).th, (A p).begin p⟩ (tX ((A p).begin p) M).1) = putAS A p (AS.next (A p) (tX ((A p).begin p) M).1) := by
    funext q
    by_cases hq : q = p
    · rw [hq, putAS_same, putAS_same]
      rfl
    · rw [putAS_other hq, putAS_other hq, putAS_other hq]
  rw [← e]
  exact h1
/-- At first: so many blocks, nobody joined, nothing is under way. -/
theorem InvB.first (h : 1 ≤ n ∧ n ≤ 4) (hN : V adN = n) (hz : ∀ x, x ≠ adN → V x = 0) {o : TO} (ho : o.ln = 0) (hno : TNum o) {k : BO} (hk : k.ln = 0) : InvB n n V (fun _ => ⟨-1, o⟩) k := by
  have hcb : (⟨-1, o⟩ : AS).cb = -1 := by simp [AS.cb, ho]
  have hob : (⟨-1, o⟩ : AS).ob = -1 := by simp [AS.ob, ho]
  have hcnt : ∀ i, 0 ≤ i → cnt8 (fun _ => (⟨-1, o⟩ : AS)) i = 0 := fun i hi => by
    unfold cnt8
    simp only [hcb]
    rw [if_neg (by omega)]
    rfl
  have e0 : (0 : Int) = opnW := by unfold opnW; decide
  have hK : ∀ i, 0 ≤ i → i < 4 → V (adK i) = opnW := fun i g0 g1 => by rw [hz _ (Ne.symm (neNK ⟨g0, g1⟩))]; exact e0
  have hC : ∀ i, 0 ≤ i → i < 4 → blkC (V (adK i)) = false := fun i g0 g1 => by rw [hK i g0 g1]; exact opn_back.2
  refine ⟨hN, by omega, fun i g0 g1 => ?_, fun i g0 g1 g2 => ?_, fun i g0 g1 => ⟨hC i (by omega) g1, hcnt i (by omega)⟩, fun i g0 g1 => by omega, fun i g0 g1 _ => hC i g0 (by omega), fun _ g => by omega, fun q hq g => ?_, fun s g0 g1 _ => hz _ (Ne.symm (neNT ⟨g0, g1⟩ (by decide))), fun s g0 g1 => hz _ (Ne.symm (neNT ⟨g0, g1⟩ (by decide))), fun q hq => ⟨hno, by simp, fun g => absurd ho g, fun g => absurd ho g⟩, .inl hk⟩
  · rw [hC i g0 g1, hcnt i g0, hK i g0 g1]
    rfl
  · exact hcnt i g0
  · rw [hob] at g
    omega
end
end Go.Proofs.YtffkjdmpeeagoaaDoor
namespace Go.Proofs.YtffkjdmpeeagoaaDoor
open Go.RowKit Go.Maps

/-- It ends in just so many steps. -/
inductive EndsK : BO → MV → Nat → BO → MV → Prop
  | one {o : BO} {M : MV} (h : (kX o M).1.ln = 0) : EndsK o M 1 (kX o M).1 (kX o M).2
  | more {o : BO} {M : MV} {n : Nat} {o' : BO} {M' : MV} (h : (kX o M).1.ln ≠ 0) (k : EndsK (kX o M).1 (kX o M).2 n o' M') : EndsK o M (n + 1) o' M'
theorem EndsK.last {o o' o1 : BO} {M M' M1 : MV} (h : kX o M = (o1, M1)) (h0 : o1.ln = 0) (e1 : o1 = o') (e2 : M1 = M') : EndsK o M 1 o' M' := by
  subst e1 e2
  have := EndsK.one (o := o) (M := M) (by rw [h]; exact h0)
  rw [h] at this
  exact this
theorem EndsK.step {o o' o1 : BO} {M M' M1 : MV} {n : Nat} (h : kX o M = (o1, M1)) (h0 : o1.ln ≠ 0) (k : EndsK o1 M1 n o' M') : EndsK o M (n + 1) o' M' := by
  refine .more (by rw [h]; exact h0) ?_
  rw [h]
  exact k
theorem EndsK.st {o o' : BO} {M M' : MV} {n : Nat} (h : EndsK o M n o' M') : M'.s.st ≤ M.s.st + n := by
  induction h with
  | @one o M h => have := kX_st o M; push_cast; omega
  | @more o M n o' M' h k ih => have := kX_st o M; push_cast; omega
theorem EndsK.pos {o o' : BO} {M M' : MV} {n : Nat} (h : EndsK o M n o' M') : 1 ≤ n := by cases h <;> omega
theorem EndsK.over {o o' : BO} {M M' : MV} {n : Nat} (h : EndsK o M n o' M') : o'.ln = 0 := by
  induction h with
  | one h => exact h
  | more _ _ ih => exact ih
theorem kX_m (a b c : Int) (M : MV) : kX ⟨false, a, b, c⟩ M = moreX ⟨false, a, b, c⟩ M := rfl
theorem kX_l (a b c : Int) (M : MV) : kX ⟨true, a, b, c⟩ M = lessX ⟨true, a, b, c⟩ M := rfl
section
variable {n i : Int} {M : MV} {V : Ad → Int}
/-- What a More, a Less leaves. -/
def moreV (V : Ad → Int) (n : Int) : Ad → Int := if V (adK n) = cldW then setV (setV V adN (n + 1)) (adK n) opnW else setV V adN (n + 1)
def lessV (V : Ad → Int) (n : Int) : Ad → Int := setV (setV V (adK (n - 1)) cldW) adN (n - 1)
theorem more_alone (hn : 1 ≤ n ∧ n < 4) (hN : M.V adN = n) : ∃ o' M', EndsK (newB false) M 3 o' M' ∧ o'.e = 0 ∧ M'.V = moreV M.V n := by
  have hm : 0 ≤ n ∧ n < 4 := by omega
  obtain ⟨M1, e1⟩ : ∃ M1, M1 = ldM M adN := ⟨_, rfl⟩
  have v1 : M1.V = M.V := by rw [e1]; rfl
  have hc : casV M1.V adN n = true := by rw [casV_may mayN, v1, hN]; simp
  obtain ⟨M2, e2⟩ : ∃ M2, M2 = csM M1 adN n (n + 1) := ⟨_, rfl⟩
  have v2 : M2.V = setV M.V adN (n + 1) := by rw [e2]; show csV M1.V _ _ _ = _; rw [csV_yes hc, v1]
  obtain ⟨M3, e3⟩ : ∃ M3, M3 = csM M2 (adK n) cldW opnW := ⟨_, rfl⟩
  have hK : M2.V (adK n) = M.V (adK n) := by rw [v2]; exact setV_other (Ne.symm (neNK hm)) _
  refine ⟨⟨false, 0, 0, n⟩, M3, EndsK.step (o1 := ⟨false, 2, 0, n⟩) (M1 := M1) ?_ (by simp) (EndsK.step (o1 := ⟨false, 3, 0, n⟩) (M1 := M2) ?_ (by simp) (EndsK.last (o1 := ⟨false, 0, 0, n⟩) (M1 := M3) ?_ rfl rfl rfl)), rfl, ?_⟩
  · rw [e1]
    unfold newB
    rw [kX_m]
    unfold moreX
    simp only [if_true, hN, if_neg (show ¬ 4 ≤ n by omega)]
  · rw [e2]
    rw [kX_m]
    unfold moreX
    simp only [if_neg (show ¬ (2 : Int) = 1 by decide), if_true, hc]
  · rw [e3]
    rw [kX_m]
    unfold moreX
    simp only [if_neg (show ¬ (3 : Int) = 1 by decide), if_neg (show ¬ (3 : Int) = 2 by decide), if_true]
  · rw [e3]
    show csV M2.V _ _ _ = _
    unfold moreV
    have hcas := casV_K hm M2.V cldW
    rw [hK] at hcas
    split
    · rename_i h
      rw [csV_yes (by rw [hcas, h]; simp), v2]
    · rename_i h
      rw [csV_no (by rw [hcas]; simpa using h), v2]
theorem more_full (hn : 4 ≤ n) (hN : M.V adN = n) : ∃ o' M', EndsK (newB false) M 1 o' M' ∧ o'.e = 5 ∧ M'.V = M.V := by
  refine ⟨⟨false, 0, 5, n⟩, ldM M adN, EndsK.last (o1 := ⟨false, 0, 5, n⟩) (M1 := ldM M adN) ?_ rfl rfl rfl, rfl, rfl⟩
  unfold newB
  rw [kX_m]
  unfold moreX
  simp only [if_true, hN, if_pos hn]
theorem less_one (hn : n ≤ 1) (hN : M.V adN = n) : ∃ o' M', EndsK (newB true) M 1 o' M' ∧ o'.e = 4 ∧ M'.V = M.V := by
  refine ⟨⟨true, 0, 4, n⟩, ldM M adN, EndsK.last (o1 := ⟨true, 0, 4, n⟩) (M1 := ldM M adN) ?_ rfl rfl rfl, rfl, rfl⟩
  unfold newB
  rw [kX_l]
  unfold lessX
  simp only [if_true, hN, if_pos hn]
theorem less_alone (hn : 2 ≤ n ∧ n ≤ 4) (hN : M.V adN = n) (ho : M.V (adK (n - 1)) = opnW) : ∃ o' M', EndsK (newB true) M 3 o' M' ∧ o'.e = 0 ∧ M'.V = lessV M.V n := by
  have hm : 0 ≤ n - 1 ∧ n - 1 < 4 := by omega
  obtain ⟨M1, e1⟩ : ∃ M1, M1 = ldM M adN := ⟨_, rfl⟩
  have v1 : M1.V = M.V := by rw [e1]; rfl
  have hc : casV M1.V (adK (n - 1)) opnW = true := by rw [casV_K hm, v1, ho]; simp
  obtain ⟨M2, e2⟩ : ∃ M2, M2 = csM M1 (adK (n - 1)) opnW cldW := ⟨_, rfl⟩
  have v2 : M2.V = setV M.V (adK (n - 1)) cldW := by rw [e2]; show csV M1.V _ _ _ = _; rw [csV_yes hc, v1]
  have hc2 : casV M2.V adN n = true := by rw [casV_may mayN, v2, setV_other (neNK hm), hN]; simp
  obtain ⟨M3, e3⟩ : ∃ M3, M3 = csM M2 adN n (n - 1) := ⟨_, rfl⟩
  have v3 : M3.V = lessV M.V n := by rw [e3]; show csV M2.V _ _ _ = _; rw [csV_yes hc2, v2]; rfl
  refine ⟨⟨true, 0, 0, n⟩, M3, EndsK.step (o1 := ⟨true, 2, 0, n⟩) (M1 := M1) ?_ (by simp) (EndsK.step (o1 := ⟨true, 3, 0, n⟩) (M1 := M2) ?_ (by simp) (EndsK.last (o1 := ⟨true, 0, 0, n⟩) (M1 := M3) ?_ rfl rfl rfl)), rfl, v3⟩
  · rw [e1]
    unfold newB
    rw [kX_l]
    unfold lessX
    simp only [if_true, hN, if_neg (show ¬ n ≤ 1 by omega), if_neg (show ¬ 4 < n by omega)]
  · rw [e2]
    rw [kX_l]
    unfold lessX
    simp only [if_neg (show ¬ (2 : Int) = 1 by decide), if_true, hc]
  · rw [e3]
    rw [kX_l]
    unfold lessX
    simp only [if_neg (show ¬ (3 : Int) = 1 by decide), if_neg (show ¬ (3 : Int) = 2 by decide), if_true, hc2]
theorem less_busy (hn : 2 ≤ n ∧ n ≤ 4) (hN : M.V adN = n) (ho : M.V (adK (n - 1)) ≠ opnW) : ∃ o' M', EndsK (newB true) M 2 o' M' ∧ o'.e = 7 ∧ M'.V = M.V := by
  have hm : 0 ≤ n - 1 ∧ n - 1 < 4 := by omega
  obtain ⟨M1, e1⟩ : ∃ M1, M1 = ldM M adN := ⟨_, rfl⟩
  have v1 : M1.V = M.V := by rw [e1]; rfl
  have hc : casV M1.V (adK (n - 1)) opnW = false := by rw [casV_K hm, v1]; simpa using ho
  refine ⟨⟨true, 0, 7, n⟩, csM M1 (adK (n - 1)) opnW cldW, EndsK.step (o1 := ⟨true, 2, 0, n⟩) (M1 := M1) ?_ (by simp) (EndsK.last (o1 := ⟨true, 0, 7, n⟩) (M1 := csM M1 (adK (n - 1)) opnW cldW) ?_ rfl rfl rfl), rfl, ?_⟩
  · rw [e1]
    unfold newB
    rw [kX_l]
    unfold lessX
    simp only [if_true, hN, if_neg (show ¬ n ≤ 1 by omega), if_neg (show ¬ 4 < n by omega)]
  · rw [kX_l]
    unfold lessX
    simp only [if_neg (show ¬ (2 : Int) = 1 by decide), if_true, if_neg (show ¬ casV M1.V (adK (n - 1)) opnW = true by rw [hc]; decide)]
  · show csV M1.V _ _ _ = _
    rw [csV_no hc, v1]
/-- A table that nobody joins: so many blocks, open; those beyond are closed or never were. -/
structure Row11 (n : Int) (V : Ad → Int) : Prop where
  n14 : 1 ≤ n ∧ n ≤ 4
  N : V adN = n
  here : ∀ i, 0 ≤ i → i < n → V (adK i) = opnW
  gone : ∀ i, n ≤ i → i < 4 → V (adK i) = opnW ∨ V (adK i) = cldW
theorem Row11.first (h : 1 ≤ n ∧ n ≤ 4) (hN : V adN = n) (hz : ∀ x, x ≠ adN → V x = 0) : Row11 n V := by
  have e0 : (0 : Int) = opnW := by unfold opnW; decide
  have hK : ∀ i, 0 ≤ i → i < 4 → V (adK i) = opnW := fun i g0 g1 => by rw [hz _ (Ne.symm (neNK ⟨g0, g1⟩))]; exact e0
  exact ⟨h, hN, fun i g0 g1 => hK i g0 (by omega), fun i g0 g1 => .inl (hK i (by omega) g1)⟩
theorem Row11.more (R : Row11 n V) (h : n < 4) : Row11 (n + 1) (moreV V n) := by
  have hn := R.n14
  have hm : 0 ≤ n ∧ n < 4 := by omega
  have hK : ∀ i, 0 ≤ i → i < 4 → i ≠ n → moreV V n (adK i) = V (adK i) := fun i g0 g1 g => by
    unfold moreV
    split
    · rw [setV_other (neKK ⟨g0, g1⟩ hm g), setV_other (Ne.symm (neNK ⟨g0, g1⟩))]
    · rw [setV_other (Ne.symm (neNK ⟨g0, g1⟩))]
  refine ⟨by omega, ?_, fun i g0 g1 => ?_, fun i g0 g1 => ?_⟩
  · unfold moreV
    split
    · rw [setV_other (neNK hm), setV_same mayN]
    · rw [setV_same mayN]
  · by_cases g : i = n
    · rw [g]
      unfold moreV
      split
      · exact setV_same (mayK hm) _
      · rename_i hc
        rw [setV_other (Ne.symm (neNK hm))]
        rcases R.gone n (Int.le_refl _) h with hw | hw
        · exact hw
        · exact absurd hw hc
    · rw [hK i g0 (by omega) g]
      exact R.here i g0 (by omega)
  · rw [hK i (by omega) g1 (by omega)]
    exact R.gone i (by omega) g1
theorem Row11.less (R : Row11 n V) (h : 1 < n) : Row11 (n - 1) (lessV V n) := by
  have hn := R.n14
  have hm : 0 ≤ n - 1 ∧ n - 1 < 4 := by omega
  have hK : ∀ i, 0 ≤ i → i < 4 → i ≠ n - 1 → lessV V n (adK i) = V (adK i) := fun i g0 g1 g => by
    unfold lessV
    rw [setV_other (Ne.symm (neNK ⟨g0, g1⟩)), setV_other (neKK ⟨g0, g1⟩ hm g)]
  refine ⟨by omega, setV_same mayN _, fun i g0 g1 => ?_, fun i g0 g1 => ?_⟩
  · rw [hK i g0 (by omega) (by omega)]
    exact R.here i g0 (by omega)
  · by_cases g : i = n - 1
    · rw [g]
      unfold lessV
      rw [setV_other (Ne.symm (neNK hm)), setV_same (mayK hm)]
      exact .inr rfl
    · rw [hK i (by omega) g1 g]
      exact R.gone i (by omega) g1
end
end Go.Proofs.YtffkjdmpeeagoaaDoor
namespace Go.Proofs.YtffkjdmpeeagoaaDoor
open Go.RowKit Go.Maps

/-- So many blocks, all but the last one full; behind that many steps of the Join. -/
structure Ahd (n : Int) (s : Nat) (V : Ad → Int) : Prop where
  n14 : 1 ≤ n ∧ n ≤ 4
  N : V adN = n
  full : ∀ i, 0 ≤ i → i < n - 1 → V (adK i) = blockW 4 false
  last : V (adK (n - 1)) = if (s : Int) = n + 2 then blockW 1 false else opnW
  own : ∀ t, 0 ≤ t → t < 16 → V (adT t 0) = 0
/-- .. the last block is gone. -/
structure Sh (n : Int) (V : Ad → Int) : Prop where
  n14 : 2 ≤ n ∧ n ≤ 4
  N : V adN = n - 1
  full : ∀ i, 0 ≤ i → i < n - 1 → V (adK i) = blockW 4 false
  last : V (adK (n - 1)) = cldW
  own : ∀ t, 0 ≤ t → t < 16 → V (adT t 0) = 0
/-- The Join behind that many steps. -/
structure JStp (n : Int) (s : Nat) (ow : Int) (o : TO) : Prop where
  zero : s = 0 → o = newJ ow
  look : 1 ≤ (s : Int) → (s : Int) ≤ n → ∃ w, o = ⟨false, 2, -1, 0, ow + 1, n, s - 1, 0, w⟩
  cas : (s : Int) = n + 1 → o = ⟨false, 3, -1, 0, ow + 1, n, n - 1, 0, opnW⟩
  in_ : (s : Int) = n + 2 → o = ⟨false, 4, -1, 0, ow + 1, n, n - 1, 0, opnW⟩
section
variable {n i ow : Int} {s : Nat} {M : MV} {V : Ad → Int} {o : TO}
theorem full_back : blkN (blockW 4 false) = 4 ∧ blkC (blockW 4 false) = false := blk_back false (by decide)
theorem one_back : blkN (blockW 1 false) = 1 ∧ blkC (blockW 1 false) = false := blk_back false (by decide)
theorem newJ_eq (h : 0 ≤ ow) : newJ ow = ⟨false, 1, -1, 0, ow + 1, 0, 0, 0, 0⟩ := by unfold newJ; rw [if_neg (by omega)]
theorem tX_j (ln th e ow b i k w : Int) (M : MV) : tX ⟨false, ln, th, e, ow, b, i, k, w⟩ M = joinX ⟨false, ln, th, e, ow, b, i, k, w⟩ M := rfl
theorem Ahd.was (W : Ahd n s V) : blkN (V (adK (n - 1))) = if (s : Int) = n + 2 then 1 else 0 := by
  rw [W.last]
  split
  · exact one_back.1
  · exact opn_back.1
theorem Ahd.next (W : Ahd n s V) (h : (s : Int) ≤ n) : Ahd n (s + 1) V := ⟨W.n14, W.N, W.full, by rw [W.last, if_neg (by omega), if_neg (by push_cast; omega)], W.own⟩
theorem Ahd.back (W : Ahd n s V) (h : (s : Int) ≠ n + 2) : Ahd n 0 V := ⟨W.n14, W.N, W.full, by have := W.n14; rw [W.last, if_neg h, if_neg (by simp; omega)], W.own⟩
theorem JStp.first (h : 1 ≤ n) : JStp n 0 ow (newJ ow) := ⟨fun _ => rfl, fun h => by simp at h, fun h => by simp at h; omega, fun h => by simp at h; omega⟩
/-- A step of it. -/
theorem JStp.step (J : JStp n s ow o) (W : Ahd n s M.V) (how : 0 ≤ ow) (h : (s : Int) < n + 2) : JStp n (s + 1) ow (tX o M).1 ∧ Ahd n (s + 1) (tX o M).2.V ∧ (tX o M).1.ln ≠ 0 := by
  have hn := W.n14
  by_cases h0 : s = 0
  · have := J.zero h0
    subst this h0
    rw [newJ_eq how, tX_j]
    have hz : ¬ M.V adN = 0 := by rw [W.N]; omega
    have hle : (if 4 < M.V adN then 4 else M.V adN) = n := by rw [W.N, if_neg (by omega)]
    unfold joinX
    simp only [if_true, if_neg hz, hle]
    refine ⟨⟨fun h => by simp at h, fun _ _ => ⟨0, by simp⟩, fun h => by simp at h; omega, fun h => by simp at h; omega⟩, W.next (by simp; omega), by simp⟩
  · by_cases h1 : (s : Int) ≤ n
    · obtain ⟨w, rfl⟩ := J.look (by omega) h1
      rw [tX_j]
      unfold joinX
      simp only [if_neg (show ¬ (2 : Int) = 1 by decide), if_true]
      by_cases h2 : (s : Int) = n
      · have hw : M.V (adK ((s : Int) - 1)) = opnW := by rw [h2, W.last, if_neg (by omega)]
        rw [hw, if_pos ⟨opn_back.2, by rw [opn_back.1]; decide⟩]
        refine ⟨⟨fun h => by simp at h, fun _ h => by push_cast at h; omega, fun _ => by simp [h2], fun h => by push_cast at h; omega⟩, W.next h1, by simp⟩
      · have hw : M.V (adK ((s : Int) - 1)) = blockW 4 false := W.full _ (by omega) (by omega)
        rw [hw, if_neg (by rw [full_back.1]; intro h; exact absurd h.2 (by decide)), if_neg (by omega)]
        refine ⟨⟨fun h => by simp at h, fun _ _ => ⟨blockW 4 false, by push_cast; congr 1; omega⟩, fun h => by push_cast at h; omega, fun h => by push_cast at h; omega⟩, W.next h1, by simp⟩
    · have h2 : (s : Int) = n + 1 := by omega
      have := J.cas h2
      subst this
      rw [tX_j]
      unfold joinX
      have hm : 0 ≤ n - 1 ∧ n - 1 < 4 := by omega
      have hw : M.V (adK (n - 1)) = opnW := by rw [W.last, if_neg (by omega)]
      have hc : casV M.V (adK (n - 1)) opnW = true := by rw [casV_K hm, hw]; simp
      simp only [if_neg (show ¬ (3 : Int) = 1 by decide), if_neg (show ¬ (3 : Int) = 2 by decide), if_true, hc]
      have hV : (csM M (adK (n - 1)) opnW (addW opnW)).V = setV M.V (adK (n - 1)) (blockW 1 false) := by
        show csV M.V _ _ _ = _
        rw [csV_yes hc]
        unfold addW
        rw [opn_back.1, opn_back.2]
        rfl
      refine ⟨⟨fun h => by simp at h, fun _ h => by push_cast at h; omega, fun h => by push_cast at h; omega, fun _ => rfl⟩, ?_, by simp⟩
      rw [hV]
      refine ⟨hn, by rw [setV_other (neNK hm)]; exact W.N, fun i g0 g1 => by rw [setV_other (neKK ⟨g0, by omega⟩ hm (by omega))]; exact W.full i g0 g1, by rw [setV_same (mayK hm), if_pos (by push_cast; omega)], fun t g0 g1 => by rw [setV_other (Ne.symm (neKT hm ⟨g0, g1⟩ (by decide)))]; exact W.own t g0 g1⟩
/-- It goes on, and joins. -/
theorem JStp.joins (J : JStp n s ow o) (W : Ahd n s M.V) (how : 0 ≤ ow) (h : (s : Int) ≤ n + 2) : ∃ N o' M', Ends o M N o' M' ∧ N ≤ 16 ∧ o'.th = 4 * (n - 1) ∧ o'.e = 0 := by
  have hn := W.n14
  have key : ∀ (j s : Nat) (o : TO) (M : MV), (s : Int) + j = n + 2 → JStp n s ow o → Ahd n s M.V → ∃ o' M', Ends o M (j + 10) o' M' ∧ o'.th = 4 * (n - 1) ∧ o'.e = 0 := by
    intro j
    induction j with
    | zero =>
      intro s o M hs J W
      have hm : 0 ≤ n - 1 ∧ n - 1 < 4 := by omega
      have ht : 0 ≤ 4 * (n - 1) + 0 ∧ 4 * (n - 1) + 0 < 16 := by omega
      have := J.in_ (by simpa using hs)
      subst this
      obtain ⟨Mw, w1, w2, w3⟩ := wipe_run (ow := ow + 1) ht n (n - 1) opnW 0 9 1 ⟨setV M.V (adT (4 * (n - 1) + 0) 0) (ow + 1), M.s⟩ (by decide) (by decide) rfl
      obtain ⟨M', e1, _⟩ := take_run (th := -1) (ow := ow + 1) (k0 := 0) hm (by decide) n opnW 0 (N := 9) (o' := ⟨false, 0, 4 * (n - 1) + 0, 0, ow + 1, n, n - 1, 10, opnW⟩) (V' := Mw.V) 0 0 M (by decide) (by decide) rfl (W.own _ ht.1 ht.2) (fun l g1 g2 => by omega) (fun M2 hM2 => by
        obtain ⟨M3, x1, x2, x3⟩ := wipe_run (ow := ow + 1) ht n (n - 1) opnW 0 9 1 M2 (by decide) (by decide) rfl
        refine ⟨M3, x1, funext fun x => ?_⟩
        by_cases hx : ∀ f, 1 ≤ f → f < 10 → x ≠ adT (4 * (n - 1) + 0) f
        · rw [x3 x hx, w3 x hx, hM2]
        · have hx' : ∃ f, 1 ≤ f ∧ f < 10 ∧ x = adT (4 * (n - 1) + 0) f := by
            apply Classical.byContradiction
            intro hno
            exact hx fun f a1 a2 a3 => hno ⟨f, a1, a2, a3⟩
          obtain ⟨f, a1, a2, rfl⟩ := hx'
          rw [x2 f a1 a2, w2 f a1 a2])
      exact ⟨_, M', e1, by show 4 * (n - 1) + 0 = _; omega, rfl⟩
    | succ j ih =>
      intro s o M hs J W
      obtain ⟨J2, W2, h3⟩ := J.step W how (by omega)
      obtain ⟨o', M', e1, e2, e3⟩ := ih (s + 1) _ _ (by push_cast at hs ⊢; omega) J2 W2
      exact ⟨o', M', by rw [show j + 1 + 10 = j + 10 + 1 by omega]; exact .more h3 e1, e2, e3⟩
  obtain ⟨o', M', e1, e2, e3⟩ := key (n + 2 - s).toNat s o M (by omega) J W
  exact ⟨_, o', M', e1, by omega, e2, e3⟩
/-- A look where no block has room. -/
theorem nowhere {k : Int} (j : Nat) : ∀ (i w : Int) (M : MV), 0 ≤ i → i < n → (n - i).toNat = j + 1 → (∀ l, 0 ≤ l → l < n → ¬ Room M.V l) → ∃ o' M', Ends ⟨false, 2, -1, 0, ow + 1, n, i, k, w⟩ M (j + 1) o' M' ∧ o'.th = -1 ∧ o'.e = 5 ∧ M'.V = M.V := by
  induction j with
  | zero =>
    intro i w M h0 h1 h2 hr
    have h5 := hr i h0 h1
    unfold Room at h5
    have h6 : i + 1 = n := by omega
    refine ⟨⟨false, 0, -1, 5, ow + 1, n, i + 1, k, M.V (adK i)⟩, ldM M (adK i), Ends.last (o1 := ⟨false, 0, -1, 5, ow + 1, n, i + 1, k, M.V (adK i)⟩) (M1 := ldM M (adK i)) ?_ rfl rfl rfl, rfl, rfl, rfl⟩
    unfold tX joinX
    simp only [if_neg (show ¬ (2 : Int) = 1 by decide), if_true, if_neg h5, if_pos h6]
    rfl
  | succ j ih =>
    intro i w M h0 h1 h2 hr
    have h5 := hr i h0 h1
    unfold Room at h5
    have h6 : ¬ i + 1 = n := by omega
    obtain ⟨o', M', e1, e2⟩ := ih (i + 1) (M.V (adK i)) (ldM M (adK i)) (by omega) (by omega) (by omega) hr
    refine ⟨o', M', Ends.step (o1 := ⟨false, 2, -1, 0, ow + 1, n, i + 1, k, M.V (adK i)⟩) (M1 := ldM M (adK i)) ?_ (by simp) e1, e2⟩
    unfold tX joinX
    simp only [if_neg (show ¬ (2 : Int) = 1 by decide), if_true, if_neg h5, if_neg h6]
    rfl
theorem Sh.noroom (S : Sh n V) {l : Int} (h0 : 0 ≤ l) (h1 : l < n) : ¬ Room V l := by
  unfold Room
  by_cases h : l = n - 1
  · rw [h, S.last, cld_back.2]
    intro g
    cases g.1
  · rw [S.full l h0 (by omega), full_back.1]
    intro g
    exact absurd g.2 (by decide)
/-- It goes on, and passes the block by that is gone. -/
theorem JStp.passes (J : JStp n s ow o) (S : Sh n M.V) (how : 0 ≤ ow) (h : (s : Int) ≤ n + 1) : ∃ N o' M', Ends o M N o' M' ∧ N ≤ 16 ∧ o'.th = -1 ∧ o'.e = 5 ∧ M'.V = M.V := by
  have hn := S.n14
  have hr : ∀ l, 0 ≤ l → l < n → ¬ Room M.V l := fun l => S.noroom
  by_cases h0 : s = 0
  · have := J.zero h0
    subst this
    obtain ⟨o', M', e1, e2, e3, e4⟩ := full_alone (n := n - 1) (by omega) S.N how (fun l g0 g1 => hr l g0 (by omega))
    exact ⟨_, o', M', e1, by omega, e2, e3, e4⟩
  · by_cases h1 : (s : Int) ≤ n
    · obtain ⟨w, rfl⟩ := J.look (by omega) h1
      obtain ⟨o', M', e1, e2⟩ := nowhere (n := n) (k := 0) (n - s).toNat ((s : Int) - 1) w M (by omega) (by omega) (by omega) hr
      exact ⟨_, o', M', e1, by omega, e2⟩
    · have := J.cas (by omega)
      subst this
      have hm : 0 ≤ n - 1 ∧ n - 1 < 4 := by omega
      have hc : casV M.V (adK (n - 1)) opnW = false := by
        rw [casV_K hm, S.last]
        exact decide_eq_false fun h => absurd (congrArg blkC h) (by rw [cld_back.2, opn_back.2]; decide)
      have hV : (csM M (adK (n - 1)) opnW (addW opnW)).V = M.V := csV_no hc
      obtain ⟨o', M', e1, e2, e3, e4⟩ := nowhere (n := n) (k := 0) 0 (n - 1) opnW (csM M (adK (n - 1)) opnW (addW opnW)) (by omega) (by omega) (by omega) (by rw [hV]; exact hr)
      refine ⟨_, o', M', Ends.step (o1 := ⟨false, 2, -1, 0, ow + 1, n, n - 1, 0, opnW⟩) (M1 := csM M (adK (n - 1)) opnW (addW opnW)) ?_ (by simp) e1, by omega, e2, e3, by rw [e4, hV]⟩
      rw [tX_j]
      unfold joinX
      simp only [if_neg (show ¬ (3 : Int) = 1 by decide), if_neg (show ¬ (3 : Int) = 2 by decide), if_true, if_neg (show ¬ casV M.V (adK (n - 1)) opnW = true by rw [hc]; decide)]
/-- A Less: the last block goes. -/
theorem Ahd.less (W : Ahd n s V) (h2 : 2 ≤ n) : Sh n (lessV V n) := by
  have hn := W.n14
  have hm : 0 ≤ n - 1 ∧ n - 1 < 4 := by omega
  refine ⟨by omega, setV_same mayN _, fun i g0 g1 => ?_, ?_, fun t g0 g1 => ?_⟩
  · unfold lessV
    rw [setV_other (Ne.symm (neNK ⟨g0, by omega⟩)), setV_other (neKK ⟨g0, by omega⟩ hm (by omega))]
    exact W.full i g0 g1
  · unfold lessV
    rw [setV_other (Ne.symm (neNK hm)), setV_same (mayK hm)]
  · unfold lessV
    rw [setV_other (Ne.symm (neNT ⟨g0, g1⟩ (by decide))), setV_other (Ne.symm (neKT hm ⟨g0, g1⟩ (by decide)))]
    exact W.own t g0 g1
/-- A More: it comes again. -/
theorem Sh.more (S : Sh n V) : Ahd n 0 (moreV V (n - 1)) := by
  have hn := S.n14
  have hm : 0 ≤ n - 1 ∧ n - 1 < 4 := by omega
  unfold moreV
  rw [if_pos S.last]
  refine ⟨by omega, by rw [setV_other (neNK hm), setV_same mayN]; omega, fun i g0 g1 => ?_, by rw [setV_same (mayK hm), if_neg (by simp; omega)], fun t g0 g1 => ?_⟩
  · rw [setV_other (neKK ⟨g0, by omega⟩ hm (by omega)), setV_other (Ne.symm (neNK ⟨g0, by omega⟩))]
    exact S.full i g0 g1
  · rw [setV_other (Ne.symm (neKT hm ⟨g0, g1⟩ (by decide))), setV_other (Ne.symm (neNT ⟨g0, g1⟩ (by decide)))]
    exact S.own t g0 g1
end
end Go.Proofs.YtffkjdmpeeagoaaDoor
