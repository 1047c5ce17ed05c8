/-
  An actor's step and the keeper's keep what holds before each act; no condition.
-/
import Derived.Test.YtffkjdmpeeagoaaDoorBP2
namespace Go.Proofs.YtffkjdmpeeagoaaDoor
open Go.RowKit Go.Maps

section
variable {A : Nat → AS} {p q : Nat} {a : AS} {i t n ever : Int} {M : MV} {V V' : Ad → Int} {k : BO}
/-- Something begins. -/
theorem AOk.begin (h : AOk ever p a) (hp : p < 8) : AOk ever p ⟨a.th, a.begin p⟩ ∧ (⟨a.th, a.begin p⟩ : AS).cb = a.cb ∧ (⟨a.th, a.begin p⟩ : AS).ob = a.ob ∧ (a.begin p).ln ≠ 0 := by
  have ht := h.th
  unfold AS.begin
  by_cases h0 : a.o.ln = 0
  · rw [if_pos h0]
    by_cases h1 : a.th < 0
    · rw [if_pos h1]
      have e : newJ (p : Int) = ⟨false, 1, -1, 0, p + 1, 0, 0, 0, 0⟩ := by unfold newJ; rw [if_neg (by omega)]
      have hn := TNum.newJ (n := (p : Int)) (small64 (by omega) (by omega))
      rw [e] at hn ⊢
      refine ⟨⟨hn, ht, fun _ _ => ⟨by simp only; omega, rfl, fun h => by simp at h, fun h => by simp at h⟩, fun _ h => by simp at h⟩, ?_, ?_, by simp⟩
      · simp [AS.cb, h0, h1]
      · simp [AS.ob, h0]; omega
    · rw [if_neg h1]
      have e : newL a.th = ⟨true, 1, a.th, 0, 0, 0, a.th / 4, 0, 0⟩ := newL_eq (by omega)
      have hn := TNum.newL a.th
      rw [e] at hn ⊢
      refine ⟨⟨hn, ht, fun _ h => by simp at h, fun _ _ => rfl⟩, ?_, ?_, by simp⟩
      · simp [AS.cb, h0]
      · simp [AS.ob, h0]
  · rw [if_neg h0]
    exact ⟨h, rfl, rfl, h0⟩
theorem InvB.begin (I : InvB n ever V A k) (hp : p < 8) : InvB n ever V (putAS A p ⟨(A p).th, (A p).begin p⟩) k := by
  obtain ⟨h1, h2, h3, _⟩ := (I.a p hp).begin hp
  exact I.quiet hp rfl (fun _ _ _ => rfl) (fun _ _ _ => ⟨rfl, rfl⟩) h1 h2 h3
/-- What an actor's step leaves, and that it is as the law asks. -/
def Stept (n ever : Int) (A : Nat → AS) (k : BO) (p : Nat) (th : Int) (r : TO × MV) : Prop :=
  InvB n ever r.2.V (putAS A p (AS.next ⟨th, (A p).o⟩ r.1)) k ∧ (r.1.ln = 0 → r.1.lv = false → r.1.e = 0 → 0 ≤ r.1.th ∧ r.1.th < 4 * n) ∧ (r.1.ln = 0 → r.1.lv = true → r.1.e = 0)
theorem casV_may {x : Ad} (h : mayB x.k x.a x.f = true) (V : Ad → Int) (u : Int) : casV V x u = decide (V x = u) := by unfold casV; rw [h]; rfl
theorem csV_no {x : Ad} {u v : Int} (h : casV V x u = false) : csV V x u v = V := by unfold csV; rw [h]; rfl
theorem csV_yes {x : Ad} {u v : Int} (h : casV V x u = true) : csV V x u v = setV V x v := by unfold csV; rw [if_pos h]
set_option maxHeartbeats 2000000 in
theorem InvB.stept (I : InvB n ever M.V A k) (hp : p < 8) (hu : ∀ x, U64 (M.V x)) (h0 : (A p).o.ln ≠ 0) : Stept n ever A k p (A p).th (tX (A p).o M) := by
  have hn := I.n14
  have hA := I.a p hp
  have hq := hA.n.step (M := M) hu
  obtain ⟨⟨th, ⟨lv, ln, oth, e, ow, b, i, kk, w⟩⟩, hAp⟩ : ∃ a, A p = a := ⟨_, rfl⟩
  have hcb : (A p).cb = AS.cb ⟨th, ⟨lv, ln, oth, e, ow, b, i, kk, w⟩⟩ := by rw [hAp]
  have hob : (A p).ob = AS.ob ⟨th, ⟨lv, ln, oth, e, ow, b, i, kk, w⟩⟩ := by rw [hAp]
  have hown := I.own p hp
  have hlt := I.cb_lt hp
  rw [hcb] at hlt
  rw [hob] at hown
  rw [hAp] at hA hq h0
  unfold Stept
  rw [hAp]
  obtain ⟨hn1, hth, hj, hl⟩ := hA
  have hn1' := hn1
  obtain ⟨n1, n2, n3, n4, n5⟩ := hn1'
  simp only at n1 n2 n3 n4 n5 hth hj hl h0
  have hsame : ∀ i, 0 ≤ i → i < 4 → M.V (adK i) = M.V (adK i) := fun _ _ _ => rfl
  cases lv with
  | false =>
    obtain ⟨j1, j2, j3, j4⟩ := hj h0 rfl
    have n3 := n3 rfl
    have n4 := n4 rfl
    unfold JNum at n3
    have hI := I.I
    obtain ⟨m0, m1, m2⟩ := n3
    obtain ⟨m3, m4, m5, m6, m7, m8, m9, m10, m11⟩ := m2 h0
    subst j1
    subst m3
    show InvB n ever (joinX _ M).2.V _ k ∧ ((joinX _ M).1.ln = 0 → (joinX _ M).1.lv = false → _) ∧ _
    change TNum (joinX _ M).1 at hq
    rw [show tX (⟨false, ln, oth, 0, ow, b, i, kk, w⟩ : TO) M = joinX ⟨false, ln, oth, 0, ow, b, i, kk, w⟩ M from rfl]
    unfold joinX at hq ⊢
    obtain rfl | rfl | rfl | rfl | rfl | rfl | rfl : ln = 1 ∨ ln = 2 ∨ ln = 3 ∨ ln = 4 ∨ ln = 5 ∨ ln = 6 ∨ ln = 7 := by clear m7 m8 m9 m10 m11 n4 j3 j4 hlt hown; omega
    · clear m7 m8 m9 m10 m11 n4 j3 j4 hlt hown
      have hz : ¬ M.V adN = 0 := by rw [I.N]; omega
      have hle : (if 4 < M.V adN then 4 else M.V adN) = n := by rw [I.N, if_neg (by omega)]
      simp only [if_true, if_neg hz, hle] at hq ⊢
      refine ⟨I.quiet hp rfl (fun _ _ _ => rfl) (fun _ _ _ => ⟨rfl, rfl⟩) ⟨hq, hth, fun _ _ => ⟨rfl, j2, fun _ => hn.2.1, fun h => by simp [AS.next] at h⟩, fun _ h => by simp [AS.next] at h⟩ (by rw [hcb]; simp [AS.cb, AS.next]) (by rw [hob]; simp [AS.ob, AS.next]), fun h => by simp at h, fun h => by simp at h⟩
    · simp only [if_neg (show ¬ (2 : Int) = 1 by decide), if_true] at hq ⊢
      have j3' := j3 (.inl rfl)
      clear m7 m8 m9 m10 m11 n4 j3 j4 hlt hown
      split at hq
      · rename_i hc
        simp only [if_pos hc]
        exact ⟨I.quiet hp rfl (fun _ _ _ => rfl) (fun _ _ _ => ⟨rfl, rfl⟩) ⟨hq, hth, fun _ _ => ⟨rfl, j2, fun _ => j3', fun h => by simp [AS.next] at h⟩, fun _ h => by simp [AS.next] at h⟩ (by rw [hcb]; simp [AS.cb, AS.next]) (by rw [hob]; simp [AS.ob, AS.next]), fun h => by simp at h, fun h => by simp at h⟩
      · rename_i hc
        simp only [if_neg hc]
        split at hq
        · rename_i hc2
          simp only [if_pos hc2]
          exact ⟨I.quiet hp rfl (fun _ _ _ => rfl) (fun _ _ _ => ⟨rfl, rfl⟩) ⟨hq, hth, fun h _ => by simp [AS.next] at h, fun h _ => by simp [AS.next] at h⟩ (by rw [hcb]; simp [AS.cb, AS.next]) (by rw [hob]; simp [AS.ob, AS.next]), fun _ _ h => by simp at h, fun _ h => by simp at h⟩
        · rename_i hc2
          simp only [if_neg hc2]
          exact ⟨I.quiet hp rfl (fun _ _ _ => rfl) (fun _ _ _ => ⟨rfl, rfl⟩) ⟨hq, hth, fun _ _ => ⟨rfl, j2, fun _ => j3', fun h => by simp [AS.next] at h⟩, fun _ h => by simp [AS.next] at h⟩ (by rw [hcb]; simp [AS.cb, AS.next]) (by rw [hob]; simp [AS.ob, AS.next]), fun h => by simp at h, fun h => by simp at h⟩
    · simp only [if_neg (show ¬ (3 : Int) = 1 by decide), if_neg (show ¬ (3 : Int) = 2 by decide), if_true] at hq ⊢
      have j3' := j3 (.inr rfl)
      have m8' := m8 (.inr rfl)
      have n4' := n4 rfl
      clear m7 m8 m9 m10 m11 n4 j3 j4 hlt hown
      have hcas := casV_K (i := i) ⟨m5, m6⟩ M.V w
      split at hq
      · rename_i hc
        simp only [if_pos hc]
        rw [hcas] at hc
        have hw : M.V (adK i) = w := of_decide_eq_true hc
        obtain ⟨c1, c2⟩ := n4'
        have hcm : (A p).cb = -1 := by rw [hcb]; simp [AS.cb]
        have hcn : AS.cb (AS.next ⟨-1, ⟨false, 3, oth, 0, ow, b, i, kk, w⟩⟩ ⟨false, 4, oth, 0, ow, b, i, 0, w⟩) = i := by simp [AS.cb, AS.next]
        refine ⟨I.count (i := i) hp m5 m6 ?_ ⟨hq, hth, fun _ _ => ⟨rfl, j2, fun h => by simp [AS.next] at h, fun h => by simp [AS.next] at h⟩, fun _ h => by simp [AS.next] at h⟩ (by rw [hob]; simp [AS.ob, AS.next]) (.inl ⟨hcm, hcn, by rw [hw]; exact c1, by omega⟩), fun h => by simp at h, fun h => by simp at h⟩
        show csV M.V _ _ _ = _
        rw [csV_yes (by rw [hcas]; exact hc), cnt8_put hp, hcm, hcn, if_pos rfl, if_neg (show ¬ (-1 : Int) = i by omega)]
        have hK := I.K i m5 m6
        have hin := cnt8_in A i
        rw [hw] at hK ⊢
        unfold addW
        rw [hK, (blk_back _ ⟨hin.1, by omega⟩).1, (blk_back _ ⟨hin.1, by omega⟩).2]
        congr 2
        omega
      · rename_i hc
        simp only [if_neg hc]
        have hc' := by simpa using hc
        refine ⟨I.quiet hp (by show csV M.V _ _ _ _ = _; rw [csV_no hc']) (fun _ _ _ => by show csV M.V _ _ _ _ = _; rw [csV_no hc']) (fun _ _ _ => by show csV M.V _ _ _ _ = _ ∧ csV M.V _ _ _ _ = _; rw [csV_no hc']; exact ⟨rfl, rfl⟩) ⟨hq, hth, fun _ _ => ⟨rfl, j2, fun _ => j3', fun h => by simp [AS.next] at h⟩, fun _ h => by simp [AS.next] at h⟩ (by rw [hcb]; simp [AS.cb, AS.next]) (by rw [hob]; simp [AS.ob, AS.next]), fun h => by simp at h, fun h => by simp at h⟩
    · simp only [if_neg (show ¬ (4 : Int) = 1 by decide), if_neg (show ¬ (4 : Int) = 2 by decide), if_neg (show ¬ (4 : Int) = 3 by decide), if_true] at hq ⊢
      obtain ⟨k1, k2⟩ := m9 rfl
      clear m7 m8 m9 m10 m11 n4 j3 j4 hlt hown
      have ht : 0 ≤ 4 * i + kk ∧ 4 * i + kk < 16 := by omega
      have hcas := casV_T (t := 4 * i + kk) (k := 0) ht (by decide) M.V 0
      split at hq
      · rename_i hc
        simp only [if_pos hc]
        rw [hcas] at hc
        have hw : M.V (adT (4 * i + kk) 0) = 0 := of_decide_eq_true hc
        refine ⟨I.owns (t := 4 * i + kk) hp ht.1 ht.2 (v := ow) ?_ ⟨hq, hth, fun _ _ => ⟨rfl, j2, fun h => by simp [AS.next] at h, fun _ => by simp [AS.next]; omega⟩, fun _ h => by simp [AS.next] at h⟩ (by rw [hcb]; simp [AS.cb, AS.next]) (.inl ⟨by rw [hob]; simp [AS.ob], by simp [AS.ob, AS.next], j2, hw⟩), fun h => by simp at h, fun h => by simp at h⟩
        show csV M.V _ _ _ = _
        rw [csV_yes (by rw [hcas]; exact hc)]
      · rename_i hc
        simp only [if_neg hc]
        have hc' := by simpa using hc
        have hV : (csM M (adT (4 * i + kk) 0) 0 ow).V = M.V := by show csV M.V _ _ _ = _; rw [csV_no hc']
        split at hq
        · rename_i hc2
          simp only [if_pos hc2]
          exact ⟨I.quiet hp (by rw [hV]) (fun _ _ _ => by rw [hV]) (fun _ _ _ => by rw [hV]; exact ⟨rfl, rfl⟩) ⟨hq, hth, fun _ _ => ⟨rfl, j2, fun h => by simp [AS.next] at h, fun h => by simp [AS.next] at h⟩, fun _ h => by simp [AS.next] at h⟩ (by rw [hcb]; simp [AS.cb, AS.next]) (by rw [hob]; simp [AS.ob, AS.next]), fun h => by simp at h, fun h => by simp at h⟩
        · rename_i hc2
          simp only [if_neg hc2]
          exact ⟨I.quiet hp (by rw [hV]) (fun _ _ _ => by rw [hV]) (fun _ _ _ => by rw [hV]; exact ⟨rfl, rfl⟩) ⟨hq, hth, fun _ _ => ⟨rfl, j2, fun h => by simp [AS.next] at h, fun h => by simp [AS.next] at h⟩, fun _ h => by simp [AS.next] at h⟩ (by rw [hcb]; simp [AS.cb, AS.next]) (by rw [hob]; simp [AS.ob, AS.next]), fun h => by simp at h, fun h => by simp at h⟩
    · simp only [if_neg (show ¬ (5 : Int) = 1 by decide), if_neg (show ¬ (5 : Int) = 2 by decide), if_neg (show ¬ (5 : Int) = 3 by decide), if_neg (show ¬ (5 : Int) = 4 by decide), if_true] at hq ⊢
      obtain ⟨k1, k2, k3, k4⟩ := m10 rfl
      have j4' := j4 rfl
      clear m7 m8 m9 m10 m11 n4 j3 j4 hown
      have hV : ∀ x, (∀ f, 1 ≤ f → f < 10 → x ≠ adT oth f) → (stM M (adT oth kk) 0).V x = M.V x := fun x hx => setV_other (hx kk k3 k4) 0
      have hVN := hV adN fun f _ _ => neNT ⟨k1, k2⟩ ⟨by omega, by omega⟩
      have hVK : ∀ l, 0 ≤ l → l < 4 → (stM M (adT oth kk) 0).V (adK l) = M.V (adK l) := fun l g0 g1 => hV _ fun f _ _ => neKT ⟨g0, g1⟩ ⟨k1, k2⟩ ⟨by omega, by omega⟩
      have hVT : ∀ t, 0 ≤ t → t < 16 → (stM M (adT oth kk) 0).V (adT t 0) = M.V (adT t 0) ∧ (stM M (adT oth kk) 0).V (adT t 1) = M.V (adT t 1) := fun t g0 g1 => by
        refine ⟨hV _ fun f _ _ => neTT ⟨g0, g1⟩ (by decide) ⟨k1, k2⟩ ⟨by omega, by omega⟩ (.inr (by omega)), ?_⟩
        by_cases hs : t = oth ∧ kk = 1
        · obtain ⟨rfl, rfl⟩ := hs
          rw [hI t g0 g1]
          exact setV_same (mayT ⟨g0, g1⟩ (by decide)) 0
        · exact setV_other (neTT ⟨g0, g1⟩ (by decide) ⟨k1, k2⟩ ⟨by omega, by omega⟩ (by omega)) 0
      split at hq
      · rename_i hc
        simp only [if_pos hc]
        have hlt' : i < n := hlt (by simp [AS.cb]; exact m5)
        clear hlt
        refine ⟨I.quiet hp hVN hVK hVT ⟨hq, by simp [AS.next]; omega, fun h _ => by simp [AS.next] at h, fun h _ => by simp [AS.next] at h⟩ ?_ (by rw [hob]; simp [AS.ob, AS.next]), fun _ _ _ => ⟨k1, by show oth < 4 * n; omega⟩, fun _ h => by simp at h⟩
        rw [hcb]
        simp [AS.cb, AS.next]
        omega
      · rename_i hc
        simp only [if_neg hc]
        exact ⟨I.quiet hp hVN hVK hVT ⟨hq, hth, fun _ _ => ⟨rfl, j2, fun h => by simp [AS.next] at h, fun _ => j4'⟩, fun _ h => by simp [AS.next] at h⟩ (by rw [hcb]; simp [AS.cb, AS.next]) (by rw [hob]; simp [AS.ob, AS.next]), fun h => by simp at h, fun h => by simp at h⟩
    · simp only [if_neg (show ¬ (6 : Int) = 1 by decide), if_neg (show ¬ (6 : Int) = 2 by decide), if_neg (show ¬ (6 : Int) = 3 by decide), if_neg (show ¬ (6 : Int) = 4 by decide), if_neg (show ¬ (6 : Int) = 5 by decide), if_true] at hq ⊢
      exact ⟨I.quiet hp rfl (fun _ _ _ => rfl) (fun _ _ _ => ⟨rfl, rfl⟩) ⟨hq, hth, fun _ _ => ⟨rfl, j2, fun h => by simp [AS.next] at h, fun h => by simp [AS.next] at h⟩, fun _ h => by simp [AS.next] at h⟩ (by rw [hcb]; simp [AS.cb, AS.next]) (by rw [hob]; simp [AS.ob, AS.next]), fun h => by simp at h, fun h => by simp at h⟩
    · simp only [if_neg (show ¬ (7 : Int) = 1 by decide), if_neg (show ¬ (7 : Int) = 2 by decide), if_neg (show ¬ (7 : Int) = 3 by decide), if_neg (show ¬ (7 : Int) = 4 by decide), if_neg (show ¬ (7 : Int) = 5 by decide), if_neg (show ¬ (7 : Int) = 6 by decide), if_true] at hq ⊢
      clear m7 m8 m9 m10 m11 n4 j3 j4 hlt hown
      have hcas := casV_K (i := i) ⟨m5, m6⟩ M.V w
      split at hq
      · rename_i hc
        simp only [if_pos hc]
        rw [hcas] at hc
        have hw : M.V (adK i) = w := of_decide_eq_true hc
        have hcm : (A p).cb = i := by rw [hcb]; simp [AS.cb]
        have hcn : AS.cb (AS.next ⟨-1, ⟨false, 7, oth, 0, ow, b, i, kk, w⟩⟩ ⟨false, 0, oth, 7, ow, b, i, kk, w⟩) = -1 := by simp [AS.cb, AS.next]
        have hpos := cnt8_pos hp hcm
        refine ⟨I.count (i := i) hp m5 m6 ?_ ⟨hq, hth, fun h _ => by simp [AS.next] at h, fun h _ => by simp [AS.next] at h⟩ (by rw [hob]; simp [AS.ob, AS.next]) (.inr ⟨hcm, hcn⟩), fun _ _ h => by simp at h, fun _ h => by simp at h⟩
        show csV M.V _ _ _ = _
        rw [csV_yes (by rw [hcas]; exact hc), cnt8_put hp, hcm, hcn, if_pos rfl, if_neg (show ¬ (-1 : Int) = i by omega)]
        have hK := I.K i m5 m6
        have hin := cnt8_in A i
        rw [hw] at hK ⊢
        unfold fewW
        rw [hK, (blk_back _ ⟨hin.1, by omega⟩).1, (blk_back _ ⟨hin.1, by omega⟩).2, if_neg (by omega)]
        congr 2
        omega
      · rename_i hc
        simp only [if_neg hc]
        have hc' := by simpa using hc
        refine ⟨I.quiet hp (by show csV M.V _ _ _ _ = _; rw [csV_no hc']) (fun _ _ _ => by show csV M.V _ _ _ _ = _; rw [csV_no hc']) (fun _ _ _ => by show csV M.V _ _ _ _ = _ ∧ csV M.V _ _ _ _ = _; rw [csV_no hc']; exact ⟨rfl, rfl⟩) ⟨hq, hth, fun _ _ => ⟨rfl, j2, fun h => by simp [AS.next] at h, fun h => by simp [AS.next] at h⟩, fun _ h => by simp [AS.next] at h⟩ (by rw [hcb]; simp [AS.cb, AS.next]) (by rw [hob]; simp [AS.ob, AS.next]), fun h => by simp at h, fun h => by simp at h⟩
  | true =>
    have hl' := hl h0 rfl
    have n5 := n5 rfl
    unfold LNum at n5
    have hI := I.I
    obtain ⟨m0, m1, m2⟩ := n5
    obtain ⟨m3, m4, m5, m6⟩ := m2 h0
    subst hl'
    subst m3
    subst m6
    have hi : 0 ≤ th / 4 ∧ th / 4 < 4 := by omega
    show InvB n ever (leaveX _ M).2.V _ k ∧ ((leaveX _ M).1.ln = 0 → (leaveX _ M).1.lv = false → _) ∧ _
    change TNum (leaveX _ M).1 at hq
    rw [show tX (⟨true, ln, th, 0, ow, b, th / 4, kk, w⟩ : TO) M = leaveX ⟨true, ln, th, 0, ow, b, th / 4, kk, w⟩ M from rfl]
    unfold leaveX at hq ⊢
    obtain rfl | rfl | rfl | rfl | rfl | rfl : ln = 1 ∨ ln = 2 ∨ ln = 3 ∨ ln = 4 ∨ ln = 5 ∨ ln = 6 := by omega
    · have hz : ¬ M.V (adT th 0) = 0 := by
        have := hown (by simp [AS.ob]; omega)
        simp [AS.ob] at this
        omega
      simp only [if_true, if_neg hz] at hq ⊢
      exact ⟨I.quiet hp rfl (fun _ _ _ => rfl) (fun _ _ _ => ⟨rfl, rfl⟩) ⟨hq, hth, fun _ h => by simp [AS.next] at h, fun _ _ => by simp [AS.next]⟩ (by rw [hcb]; simp [AS.cb, AS.next]) (by rw [hob]; simp [AS.ob, AS.next]), fun h => by simp at h, fun h => by simp at h⟩
    · have hz : M.V (adT th 1) = 0 := hI th m4 m5
      simp only [if_neg (show ¬ (2 : Int) = 1 by decide), if_true, if_pos hz] at hq ⊢
      exact ⟨I.quiet hp rfl (fun _ _ _ => rfl) (fun _ _ _ => ⟨rfl, rfl⟩) ⟨hq, hth, fun _ h => by simp [AS.next] at h, fun _ _ => by simp [AS.next]⟩ (by rw [hcb]; simp [AS.cb, AS.next]) (by rw [hob]; simp [AS.ob, AS.next]), fun h => by simp at h, fun h => by simp at h⟩
    · simp only [if_neg (show ¬ (3 : Int) = 1 by decide), if_neg (show ¬ (3 : Int) = 2 by decide), if_true] at hq ⊢
      exact ⟨I.quiet hp (setV_other (neNT ⟨m4, m5⟩ (by decide)) 0) (fun l g0 g1 => setV_other (neKT ⟨g0, g1⟩ ⟨m4, m5⟩ (by decide)) 0) (fun t g0 g1 => ⟨setV_other (neTT ⟨g0, g1⟩ (by decide) ⟨m4, m5⟩ (by decide) (.inr (by decide))) 0, setV_other (neTT ⟨g0, g1⟩ (by decide) ⟨m4, m5⟩ (by decide) (.inr (by decide))) 0⟩) ⟨hq, hth, fun _ h => by simp [AS.next] at h, fun _ _ => by simp [AS.next]⟩ (by rw [hcb]; simp [AS.cb, AS.next]) (by rw [hob]; simp [AS.ob, AS.next]), fun h => by simp at h, fun h => by simp at h⟩
    · simp only [if_neg (show ¬ (4 : Int) = 1 by decide), if_neg (show ¬ (4 : Int) = 2 by decide), if_neg (show ¬ (4 : Int) = 3 by decide), if_true] at hq ⊢
      exact ⟨I.owns (t := th) (v := 0) hp m4 m5 rfl ⟨hq, hth, fun _ h => by simp [AS.next] at h, fun _ _ => by simp [AS.next]⟩ (by rw [hcb]; simp [AS.cb, AS.next]) (.inr ⟨by rw [hob]; simp [AS.ob], by simp [AS.ob, AS.next], rfl⟩), fun h => by simp at h, fun h => by simp at h⟩
    · simp only [if_neg (show ¬ (5 : Int) = 1 by decide), if_neg (show ¬ (5 : Int) = 2 by decide), if_neg (show ¬ (5 : Int) = 3 by decide), if_neg (show ¬ (5 : Int) = 4 by decide), if_true] at hq ⊢
      exact ⟨I.quiet hp rfl (fun _ _ _ => rfl) (fun _ _ _ => ⟨rfl, rfl⟩) ⟨hq, hth, fun _ h => by simp [AS.next] at h, fun _ _ => by simp [AS.next]⟩ (by rw [hcb]; simp [AS.cb, AS.next]) (by rw [hob]; simp [AS.ob, AS.next]), fun h => by simp at h, fun h => by simp at h⟩
    · simp only [if_neg (show ¬ (6 : Int) = 1 by decide), if_neg (show ¬ (6 : Int) = 2 by decide), if_neg (show ¬ (6 : Int) = 3 by decide), if_neg (show ¬ (6 : Int) = 4 by decide), if_neg (show ¬ (6 : Int) = 5 by decide), if_true] at hq ⊢
      have hcas := casV_K (i := th / 4) hi M.V w
      split at hq
      · rename_i hc
        simp only [if_pos hc]
        rw [hcas] at hc
        have hw : M.V (adK (th / 4)) = w := of_decide_eq_true hc
        have hcm : (A p).cb = th / 4 := by rw [hcb]; simp [AS.cb]; omega
        have hcn : AS.cb (AS.next ⟨th, ⟨true, 6, th, 0, ow, b, th / 4, kk, w⟩⟩ ⟨true, 0, th, 0, ow, b, th / 4, kk, w⟩) = -1 := by simp [AS.cb, AS.next]
        have hpos := cnt8_pos hp hcm
        refine ⟨I.count (i := th / 4) hp hi.1 hi.2 ?_ ⟨hq, by simp [AS.next], fun h _ => by simp [AS.next] at h, fun h _ => by simp [AS.next] at h⟩ (by rw [hob]; simp [AS.ob, AS.next]) (.inr ⟨hcm, hcn⟩), fun _ h => by simp at h, fun _ _ => trivial⟩
        show csV M.V _ _ _ = _
        rw [csV_yes (by rw [hcas]; exact hc), cnt8_put hp, hcm, hcn, if_pos rfl, if_neg (show ¬ (-1 : Int) = th / 4 by omega)]
        have hK := I.K (th / 4) hi.1 hi.2
        have hin := cnt8_in A (th / 4)
        rw [hw] at hK ⊢
        unfold fewW
        rw [hK, (blk_back _ ⟨hin.1, by omega⟩).1, (blk_back _ ⟨hin.1, by omega⟩).2, if_neg (by omega)]
        congr 2
        omega
      · rename_i hc
        simp only [if_neg hc]
        have hc' := by simpa using hc
        refine ⟨I.quiet hp (by show csV M.V _ _ _ _ = _; rw [csV_no hc']) (fun _ _ _ => by show csV M.V _ _ _ _ = _; rw [csV_no hc']) (fun _ _ _ => by show csV M.V _ _ _ _ = _ ∧ csV M.V _ _ _ _ = _; rw [csV_no hc']; exact ⟨rfl, rfl⟩) ⟨hq, hth, fun _ h => by simp [AS.next] at h, fun _ _ => by simp [AS.next]⟩ (by rw [hcb]; simp [AS.cb, AS.next]) (by rw [hob]; simp [AS.ob, AS.next]), fun h => by simp at h, fun h => by simp at h⟩
end
end Go.Proofs.YtffkjdmpeeagoaaDoor
