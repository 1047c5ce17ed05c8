/-
  Package tables: a step of a Join and of a Leave does what the chapter's does; condition: the operation and the memory lie as they say, numbers of their kinds.
-/
import Derived.Test.YtffkjdmpeeagoaaDoorTB5
namespace Go.Proofs.YtffkjdmpeeagoaaDoor
open Go.RowKit Go.Maps

/-- The program's number of a line. -/
def nxJ (l : Int) : Int := if l = 0 then 0 else if l ≤ 5 then l + 2 else l - 5
def nxL (l : Int) : Int := if l = 0 then 0 else if l ≤ 4 then l + 2 else l - 4
/-- The program's Join says what the chapter's does. -/
def JOk (o : TO) (bl th wd en ow bs fd : Int) (jd : Bool) : Prop :=
  (o.ln ≠ 0 → jd = false ∧ bl = o.i) ∧ (1 ≤ o.ln ∧ o.ln ≤ 4 → ow + 1 = o.ow ∧ 0 ≤ ow ∧ ow < 9223372036854775808 ∧ fd = 1) ∧ (o.ln = 2 ∨ o.ln = 3 → bs = o.b) ∧ (o.ln = 3 ∨ o.ln = 7 → wd = o.w) ∧ (o.ln = 4 → th = 4 * o.i + o.k) ∧ (o.ln = 5 → th = o.th ∧ fd = o.k) ∧ (o.ln = 6 ∨ o.ln = 7 → en = 7) ∧ (o.ln = 0 → (jd = true ∧ th = o.th ∧ o.e = 0) ∨ (jd = false ∧ en = o.e ∧ o.th = -1))
def LOk (o : TO) (bl th wd en : Int) : Prop := (o.ln ≠ 0 → bl = o.i ∧ th = o.th ∧ en = 0) ∧ (o.ln = 6 → wd = o.w) ∧ (o.ln = 0 → en = o.e)
def JRep (q : Nat) (o : TO) (w : World) : Prop := ∃ bl th wd en ow bs fd jd, Bq q 131 (PC (nxJ o.ln) bl th wd en (JT ow bs fd jd)) w ∧ JOk o bl th wd en ow bs fd jd
def LRep (q : Nat) (o : TO) (w : World) : Prop := ∃ bl th wd en, Bq q 142 (PC (nxL o.ln) bl th wd en []) w ∧ LOk o bl th wd en
/-- The program's operation. -/
def PRep (q : Nat) (o : TO) (w : World) : Prop := (o.lv = false ∧ JRep q o w) ∨ (o.lv = true ∧ LRep q o w)
def fnS (lv : Bool) : FuncId := if lv = true then 52 else 35
/-- Behind a step of the program's. -/
def PDone (p b q : Nat) (R : TO × MV) (w : World) (ee : Ending) (w' : World) : Prop := ee = .returned (.bool (R.1.ln == 0)) ∧ PRep q R.1 w' ∧ VX p b R.2 w' ∧ Onl p b [q] w w'
section
variable {p b q : Nat} {oth oe oow ob oi k owd bl th wd en ow bs fd : Int}
theorem JOk.m0f (h1 : en = oe) (h3 : oth = -1) : JOk ⟨false, 0, oth, oe, oow, ob, oi, k, owd⟩ bl th wd en ow bs fd false := ⟨(by dsimp only; intro h; omega), (by dsimp only; intro h; omega), (by dsimp only; intro h; omega), (by dsimp only; intro h; omega), (by dsimp only; intro h; omega), (by dsimp only; intro h; omega), (by dsimp only; intro h; omega), (fun _ => .inr ⟨rfl, h1, h3⟩)⟩
theorem JOk.m0t (h1 : th = oth) (h3 : oe = 0) : JOk ⟨false, 0, oth, oe, oow, ob, oi, k, owd⟩ bl th wd en ow bs fd true := ⟨(by dsimp only; intro h; omega), (by dsimp only; intro h; omega), (by dsimp only; intro h; omega), (by dsimp only; intro h; omega), (by dsimp only; intro h; omega), (by dsimp only; intro h; omega), (by dsimp only; intro h; omega), (fun _ => .inl ⟨rfl, h1, h3⟩)⟩
theorem JOk.m2 (h1 : bl = oi) (h2 : ow + 1 = oow ∧ 0 ≤ ow ∧ ow < 9223372036854775808 ∧ fd = 1) (h3 : bs = ob) : JOk ⟨false, 2, oth, oe, oow, ob, oi, k, owd⟩ bl th wd en ow bs fd false := ⟨(fun _ => ⟨rfl, h1⟩), (fun _ => h2), (fun _ => h3), (by dsimp only; intro h; omega), (by dsimp only; intro h; omega), (by dsimp only; intro h; omega), (by dsimp only; intro h; omega), (by dsimp only; intro h; omega)⟩
theorem JOk.m3 (h1 : bl = oi) (h2 : ow + 1 = oow ∧ 0 ≤ ow ∧ ow < 9223372036854775808 ∧ fd = 1) (h3 : bs = ob) (h4 : wd = owd) : JOk ⟨false, 3, oth, oe, oow, ob, oi, k, owd⟩ bl th wd en ow bs fd false := ⟨(fun _ => ⟨rfl, h1⟩), (fun _ => h2), (fun _ => h3), (fun _ => h4), (by dsimp only; intro h; omega), (by dsimp only; intro h; omega), (by dsimp only; intro h; omega), (by dsimp only; intro h; omega)⟩
theorem JOk.m4 (h1 : bl = oi) (h2 : ow + 1 = oow ∧ 0 ≤ ow ∧ ow < 9223372036854775808 ∧ fd = 1) (h5 : th = 4 * oi + k) : JOk ⟨false, 4, oth, oe, oow, ob, oi, k, owd⟩ bl th wd en ow bs fd false := ⟨(fun _ => ⟨rfl, h1⟩), (fun _ => h2), (by dsimp only; intro h; omega), (by dsimp only; intro h; omega), (fun _ => h5), (by dsimp only; intro h; omega), (by dsimp only; intro h; omega), (by dsimp only; intro h; omega)⟩
theorem JOk.m5 (h1 : bl = oi) (h5 : th = oth ∧ fd = k) : JOk ⟨false, 5, oth, oe, oow, ob, oi, k, owd⟩ bl th wd en ow bs fd false := ⟨(fun _ => ⟨rfl, h1⟩), (by dsimp only; intro h; omega), (by dsimp only; intro h; omega), (by dsimp only; intro h; omega), (by dsimp only; intro h; omega), (fun _ => h5), (by dsimp only; intro h; omega), (by dsimp only; intro h; omega)⟩
theorem JOk.m6 (h1 : bl = oi) (h5 : en = 7) : JOk ⟨false, 6, oth, oe, oow, ob, oi, k, owd⟩ bl th wd en ow bs fd false := ⟨(fun _ => ⟨rfl, h1⟩), (by dsimp only; intro h; omega), (by dsimp only; intro h; omega), (by dsimp only; intro h; omega), (by dsimp only; intro h; omega), (by dsimp only; intro h; omega), (fun _ => h5), (by dsimp only; intro h; omega)⟩
theorem JOk.m7 (h1 : bl = oi) (h5 : en = 7) (h4 : wd = owd) : JOk ⟨false, 7, oth, oe, oow, ob, oi, k, owd⟩ bl th wd en ow bs fd false := ⟨(fun _ => ⟨rfl, h1⟩), (by dsimp only; intro h; omega), (by dsimp only; intro h; omega), (fun _ => h4), (by dsimp only; intro h; omega), (by dsimp only; intro h; omega), (fun _ => h5), (by dsimp only; intro h; omega)⟩
end
section
variable {p b q : Nat} {n bl th wd en ow bs fd : Int} {jd : Bool} {o o' : TO} {M M' : MV} {w w' : World}
theorem PRep.same (h : PRep q o w) (hs : w'.heap[q]? = w.heap[q]?) : PRep q o w' := by
  rcases h with ⟨h, bl, th, wd, en, ow, bs, fd, jd, k, g⟩ | ⟨h, bl, th, wd, en, k, g⟩
  · exact .inl ⟨h, bl, th, wd, en, ow, bs, fd, jd, k.same hs, g⟩
  · exact .inr ⟨h, bl, th, wd, en, k.same hs, g⟩
theorem jdone {e : Ending} {b1 : Bool} {n' bl' th' wd' en' ow' bs' fd' : Int} {jd' : Bool} (he : e = .returned (.bool b1)) (A : At3 p b q 131 n' bl' th' wd' en' (JT ow' bs' fd' jd') M' w w') (hv : o'.lv = false) (hn : n' = nxJ o'.ln) (hb : b1 = (o'.ln == 0)) (g : JOk o' bl' th' wd' en' ow' bs' fd' jd') : PDone p b q (o', M') w e w' := by
  subst hn hb
  exact ⟨he, .inl ⟨hv, _, _, _, _, _, _, _, _, A.k, g⟩, A.f, A.o⟩
theorem ldone {e : Ending} {b1 : Bool} {n' bl' th' wd' en' : Int} (he : e = .returned (.bool b1)) (A : At3 p b q 142 n' bl' th' wd' en' [] M' w w') (hv : o'.lv = true) (hn : n' = nxL o'.ln) (hb : b1 = (o'.ln == 0)) (g : LOk o' bl' th' wd' en') : PDone p b q (o', M') w e w' := by
  subst hn hb
  exact ⟨he, .inr ⟨hv, _, _, _, _, A.k, g⟩, A.f, A.o⟩
set_option maxHeartbeats 4000000 in
theorem join_step (hq : 1 < q) (F : VX p b M w) (hs : M.s.st < 1000000) (ok : TNum o) (hv : o.lv = false) (R : JRep q o w) : Calls Tryd.prog 35 #[.pointer (some ⟨q, 0, none⟩), .pointer (some ⟨p, 0, none⟩)] w (PDone p b q (joinX o M) w) := by
  obtain ⟨bl, th, wd, en, ow, bs, fd, jd, k, g1, g2, g3, g4, g5, g6, g7, g8⟩ := R
  obtain ⟨lv, ln, oth, oe, oow, ob, oi, ok', owd⟩ := o
  obtain ⟨h1, h2, hj, hc, _⟩ := ok
  replace hj := hj hv
  replace hc := hc hv
  simp only at hv h1 h2 hj hc g1 g2 g3 g4 g5 g6 g7 g8 k
  subst hv
  unfold JNum at hj
  unfold joinX
  dsimp only
  obtain rfl | rfl | rfl | rfl | rfl | rfl | rfl | rfl : ln = 0 ∨ ln = 1 ∨ ln = 2 ∨ ln = 3 ∨ ln = 4 ∨ ln = 5 ∨ ln = 6 ∨ ln = 7 := by omega
  · rw [if_neg (show ¬ (0 : Int) = 1 by decide), if_neg (show ¬ (0 : Int) = 2 by decide), if_neg (show ¬ (0 : Int) = 3 by decide), if_neg (show ¬ (0 : Int) = 4 by decide), if_neg (show ¬ (0 : Int) = 5 by decide), if_neg (show ¬ (0 : Int) = 6 by decide), if_neg (show ¬ (0 : Int) = 7 by decide)]
    refine (stepJ_over (T := 131) _ k).mono ?_
    rintro e w' ⟨he, rfl⟩
    exact ⟨he, .inl ⟨rfl, _, _, _, _, _, _, _, _, k, g1, g2, g3, g4, g5, g6, g7, g8⟩, F, .refl _⟩
  · rw [if_pos rfl]
    obtain ⟨rfl, rfl⟩ := g1 (by decide)
    have HTH : oth = -1 := by omega
    have k : Bq q 131 (PC 3 _ _ _ _ _) w := k
    obtain rfl : bl = 0 := by omega
    have hu := F.u64 adN
    obtain ⟨u0, u1⟩ := hu
    by_cases h0 : M.V adN = 0
    · rw [if_pos h0]
      refine (stepJ_3 hq k (fun X hX => cnt_end hq (F.below hX) hs (k.below hX) h0)).mono ?_
      rintro e w' ⟨he, A⟩
      exact jdone he A rfl rfl rfl (JOk.m0f rfl HTH)
    · rw [if_neg h0]
      rcases (show (0 < M.V adN ∧ M.V adN < 4) ∨ M.V adN = 4 ∨ 4 < M.V adN by omega) with h | h | h
      · rw [if_neg (show ¬ 4 < M.V adN by omega)]
        refine (stepJ_3 hq k (fun X hX => cnt_few hq (F.below hX) hs (k.below hX) rfl h.1 h.2)).mono ?_
        rintro e w' ⟨he, A⟩
        exact jdone he A rfl rfl rfl (JOk.m2 rfl (g2 (by decide)) rfl)
      · rw [if_neg (show ¬ 4 < M.V adN by omega), h]
        refine (stepJ_3 hq k (fun X hX => cnt_four hq (F.below hX) hs (k.below hX) h)).mono ?_
        rintro e w' ⟨he, A⟩
        exact jdone he A rfl rfl rfl (JOk.m2 rfl (g2 (by decide)) rfl)
      · rw [if_pos h]
        refine (stepJ_3 hq k (fun X hX => cnt_many hq (F.below hX) hs (k.below hX) rfl h)).mono ?_
        rintro e w' ⟨he, A⟩
        exact jdone he A rfl rfl rfl (JOk.m2 rfl (g2 (by decide)) rfl)
  · rw [if_neg (show ¬ (2 : Int) = 1 by decide), if_pos rfl]
    obtain ⟨rfl, rfl⟩ := g1 (by decide)
    have HTH : oth = -1 := by omega
    have k : Bq q 131 (PC 4 _ _ _ _ _) w := k
    obtain rfl := g3 (.inl rfl)
    have hb : 0 ≤ bl ∧ bl < 4 := by omega
    by_cases hr : blkC (M.V (adK bl)) = false ∧ blkN (M.V (adK bl)) < 4
    · rw [if_pos hr]
      refine (stepJ_4 hq k (fun X hX => look_more hq (F.below hX) hs (k.below hX) hb rfl hr.1 hr.2)).mono ?_
      rintro e w' ⟨he, A⟩
      exact jdone he A rfl rfl rfl (JOk.m3 rfl (g2 (by decide)) rfl rfl)
    · rw [if_neg hr]
      by_cases hl : bl + 1 = bs
      · rw [if_pos hl]
        by_cases hc : blkC (M.V (adK bl)) = true
        · refine (stepJ_4 hq k (fun X hX => look_last_shut hq (F.below hX) hs (k.below hX) hb rfl hc hl)).mono ?_
          rintro e w' ⟨he, A⟩
          exact jdone he A rfl rfl rfl (JOk.m0f rfl HTH)
        · have hc2 : blkC (M.V (adK bl)) = false := by simpa using hc
          refine (stepJ_4 hq k (fun X hX => look_last_full hq (F.below hX) hs (k.below hX) hb rfl hc2 (fun h => hr ⟨hc2, h⟩) hl)).mono ?_
          rintro e w' ⟨he, A⟩
          exact jdone he A rfl rfl rfl (JOk.m0f rfl HTH)
      · rw [if_neg hl]
        by_cases hc : blkC (M.V (adK bl)) = true
        · refine (stepJ_4 hq k (fun X hX => look_on_shut hq (F.below hX) hs (k.below hX) hb rfl hc hl)).mono ?_
          rintro e w' ⟨he, A⟩
          exact jdone he A rfl rfl rfl (JOk.m2 rfl (g2 (by decide)) rfl)
        · have hc2 : blkC (M.V (adK bl)) = false := by simpa using hc
          refine (stepJ_4 hq k (fun X hX => look_on_full hq (F.below hX) hs (k.below hX) hb rfl hc2 (fun h => hr ⟨hc2, h⟩) hl)).mono ?_
          rintro e w' ⟨he, A⟩
          exact jdone he A rfl rfl rfl (JOk.m2 rfl (g2 (by decide)) rfl)
  · rw [if_neg (show ¬ (3 : Int) = 1 by decide), if_neg (show ¬ (3 : Int) = 2 by decide), if_pos rfl]
    obtain ⟨rfl, rfl⟩ := g1 (by decide)
    have k : Bq q 131 (PC 5 _ _ _ _ _) w := k
    obtain rfl := g3 (.inr rfl)
    obtain rfl := g4 (.inl rfl)
    have hb : 0 ≤ bl ∧ bl < 4 := by omega
    by_cases hq2 : casV M.V (adK bl) wd = true
    · rw [if_pos hq2]
      refine (stepJ_5 hq k (fun X hX => more_true hq (F.below hX) hs (k.below hX) hb h2 (hc rfl).2 hq2)).mono ?_
      rintro e w' ⟨he, A⟩
      exact jdone he A rfl rfl rfl (JOk.m4 rfl (g2 (by decide)) (by omega))
    · rw [if_neg hq2]
      have hq3 : casV M.V (adK bl) wd = false := by simpa using hq2
      refine (stepJ_5 hq k (fun X hX => more_false hq (F.below hX) hs (k.below hX) hb h2 (hc rfl).2 hq3)).mono ?_
      rintro e w' ⟨he, A⟩
      exact jdone he A rfl rfl rfl (JOk.m2 rfl (g2 (by decide)) rfl)
  · rw [if_neg (show ¬ (4 : Int) = 1 by decide), if_neg (show ¬ (4 : Int) = 2 by decide), if_neg (show ¬ (4 : Int) = 3 by decide), if_pos rfl]
    obtain ⟨rfl, rfl⟩ := g1 (by decide)
    have k : Bq q 131 (PC 6 _ _ _ _ _) w := k
    obtain rfl := g5 rfl
    obtain ⟨rfl, o1, o2, rfl⟩ := g2 (by decide)
    have ht : 0 ≤ 4 * bl + ok' ∧ 4 * bl + ok' < 16 := by omega
    by_cases hq2 : casV M.V (adT (4 * bl + ok') 0) 0 = true
    · rw [if_pos hq2]
      refine (stepJ_6 hq k (fun X hX => take_yes hq (F.below hX) hs (k.below hX) ht ⟨o1, o2⟩ hq2)).mono ?_
      rintro e w' ⟨he, A⟩
      exact jdone he A rfl rfl rfl (JOk.m5 rfl ⟨rfl, rfl⟩)
    · rw [if_neg hq2]
      have hq3 : casV M.V (adT (4 * bl + ok') 0) 0 = false := by simpa using hq2
      by_cases hl : ok' + 1 = 4
      · rw [if_pos hl]
        refine (stepJ_6 hq k (fun X hX => take_last hq (F.below hX) hs (k.below hX) ht ⟨o1, o2⟩ hq3 (by omega))).mono ?_
        rintro e w' ⟨he, A⟩
        exact jdone he A rfl rfl rfl (JOk.m6 rfl rfl)
      · rw [if_neg hl]
        refine (stepJ_6 hq k (fun X hX => take_next hq (F.below hX) hs (k.below hX) ht ⟨o1, o2⟩ hq3 (by omega))).mono ?_
        rintro e w' ⟨he, A⟩
        exact jdone he A rfl rfl rfl (JOk.m4 rfl ⟨rfl, o1, o2, rfl⟩ (by omega))
  · rw [if_neg (show ¬ (5 : Int) = 1 by decide), if_neg (show ¬ (5 : Int) = 2 by decide), if_neg (show ¬ (5 : Int) = 3 by decide), if_neg (show ¬ (5 : Int) = 4 by decide), if_pos rfl]
    obtain ⟨rfl, rfl⟩ := g1 (by decide)
    have HE : oe = 0 := by omega
    have k : Bq q 131 (PC 7 _ _ _ _ _) w := k
    obtain ⟨rfl, rfl⟩ := g6 rfl
    have ht : 0 ≤ th ∧ th < 16 := by omega
    have hf : 0 ≤ fd ∧ fd < 10 := by omega
    by_cases hl : fd + 1 = 10
    · rw [if_pos hl]
      refine (stepJ_7 hq k (fun X hX => wipe_last hq (F.below hX) hs (k.below hX) ht hf (by omega))).mono ?_
      rintro e w' ⟨he, A⟩
      exact jdone he A rfl rfl rfl (JOk.m0t rfl HE)
    · rw [if_neg hl]
      refine (stepJ_7 hq k (fun X hX => wipe_on hq (F.below hX) hs (k.below hX) ht hf (by omega))).mono ?_
      rintro e w' ⟨he, A⟩
      exact jdone he A rfl rfl rfl (JOk.m5 rfl ⟨rfl, rfl⟩)
  · rw [if_neg (show ¬ (6 : Int) = 1 by decide), if_neg (show ¬ (6 : Int) = 2 by decide), if_neg (show ¬ (6 : Int) = 3 by decide), if_neg (show ¬ (6 : Int) = 4 by decide), if_neg (show ¬ (6 : Int) = 5 by decide), if_pos rfl]
    obtain ⟨rfl, rfl⟩ := g1 (by decide)
    have k : Bq q 131 (PC 1 _ _ _ _ _) w := k
    have hb : 0 ≤ bl ∧ bl < 4 := by omega
    refine (stepJ_1 hq k (fun X hX => readP (by decide) hq (F.below hX) hs (k.below hX) hb)).mono ?_
    rintro e w' ⟨he, A⟩
    exact jdone he A rfl rfl rfl (JOk.m7 rfl (g7 (.inl rfl)) rfl)
  · rw [if_neg (show ¬ (7 : Int) = 1 by decide), if_neg (show ¬ (7 : Int) = 2 by decide), if_neg (show ¬ (7 : Int) = 3 by decide), if_neg (show ¬ (7 : Int) = 4 by decide), if_neg (show ¬ (7 : Int) = 5 by decide), if_neg (show ¬ (7 : Int) = 6 by decide), if_pos rfl]
    obtain ⟨rfl, rfl⟩ := g1 (by decide)
    have HTH : oth = -1 := by omega
    have k : Bq q 131 (PC 2 _ _ _ _ _) w := k
    obtain rfl := g4 (.inr rfl)
    have hb : 0 ≤ bl ∧ bl < 4 := by omega
    by_cases hq2 : casV M.V (adK bl) wd = true
    · rw [if_pos hq2]
      refine (stepJ_2 hq k (fun X hX => lessP_true (by decide) (F.below hX) hs (k.below hX) hb h2 hq2)).mono ?_
      rintro e w' ⟨he, A⟩
      exact jdone he A rfl rfl rfl (JOk.m0f (g7 (.inr rfl)) HTH)
    · rw [if_neg hq2]
      have hq3 : casV M.V (adK bl) wd = false := by simpa using hq2
      refine (stepJ_2 hq k (fun X hX => lessP_false (by decide) (F.below hX) hs (k.below hX) hb h2 hq3)).mono ?_
      rintro e w' ⟨he, A⟩
      exact jdone he A rfl rfl rfl (JOk.m6 rfl (g7 (.inr rfl)))
set_option maxHeartbeats 4000000 in
theorem leave_step (hq : 1 < q) (F : VX p b M w) (hs : M.s.st < 1000000) (ok : TNum o) (hv : o.lv = true) (R : LRep q o w) : Calls Tryd.prog 52 #[.pointer (some ⟨q, 0, none⟩), .pointer (some ⟨p, 0, none⟩)] w (PDone p b q (leaveX o M) w) := by
  obtain ⟨bl, th, wd, en, k, g1, g2, g3⟩ := R
  obtain ⟨lv, ln, oth, oe, oow, ob, oi, ok', owd⟩ := o
  obtain ⟨h1, h2, _, _, hj⟩ := ok
  replace hj := hj hv
  simp only at hv h1 h2 hj g1 g2 g3 k
  subst hv
  unfold LNum at hj
  unfold leaveX
  dsimp only
  obtain rfl | rfl | rfl | rfl | rfl | rfl | rfl : ln = 0 ∨ ln = 1 ∨ ln = 2 ∨ ln = 3 ∨ ln = 4 ∨ ln = 5 ∨ ln = 6 := by omega
  · rw [if_neg (show ¬ (0 : Int) = 1 by decide), if_neg (show ¬ (0 : Int) = 2 by decide), if_neg (show ¬ (0 : Int) = 3 by decide), if_neg (show ¬ (0 : Int) = 4 by decide), if_neg (show ¬ (0 : Int) = 5 by decide), if_neg (show ¬ (0 : Int) = 6 by decide)]
    refine (stepL_over (T := 142) _ k).mono ?_
    rintro e w' ⟨he, rfl⟩
    exact ⟨he, .inr ⟨rfl, _, _, _, _, k, g1, g2, g3⟩, F, .refl _⟩
  · rw [if_pos rfl]
    obtain ⟨rfl, rfl, rfl⟩ := g1 (by decide)
    have ht : 0 ≤ th ∧ th < 16 := by omega
    have hb : 0 ≤ bl ∧ bl < 4 := by omega
    have k : Bq q 142 (PC 3 _ _ _ _ _) w := k
    by_cases h0 : M.V (adT th 0) = 0
    · rw [if_pos h0]
      refine (stepL_3 hq k (fun X hX => ask_none hq (F.below hX) hs (k.below hX) ht h0)).mono ?_
      rintro e w' ⟨he, A⟩
      refine ldone he A rfl rfl rfl ?_
      clear A
      unfold LOk
      dsimp only
      refine ⟨?_, ?_, ?_⟩ <;> first | (intro h; exact absurd h (by decide)) | omega | simp
    · rw [if_neg h0]
      refine (stepL_3 hq k (fun X hX => ask_on hq (F.below hX) hs (k.below hX) ht rfl h0)).mono ?_
      rintro e w' ⟨he, A⟩
      refine ldone he A rfl rfl rfl ?_
      clear A
      unfold LOk
      dsimp only
      refine ⟨?_, ?_, ?_⟩ <;> first | (intro h; exact absurd h (by decide)) | omega | simp
  · rw [if_neg (show ¬ (2 : Int) = 1 by decide), if_pos rfl]
    obtain ⟨rfl, rfl, rfl⟩ := g1 (by decide)
    have ht : 0 ≤ th ∧ th < 16 := by omega
    have hb : 0 ≤ bl ∧ bl < 4 := by omega
    have k : Bq q 142 (PC 4 _ _ _ _ _) w := k
    by_cases h0 : M.V (adT th 1) = 0
    · rw [if_pos h0]
      refine (stepL_4 hq k (fun X hX => inside_on hq (F.below hX) hs (k.below hX) ht h0)).mono ?_
      rintro e w' ⟨he, A⟩
      refine ldone he A rfl rfl rfl ?_
      clear A
      unfold LOk
      dsimp only
      refine ⟨?_, ?_, ?_⟩ <;> first | (intro h; exact absurd h (by decide)) | omega | simp
    · rw [if_neg h0]
      refine (stepL_4 hq k (fun X hX => inside_bad hq (F.below hX) hs (k.below hX) ht rfl h0)).mono ?_
      rintro e w' ⟨he, A⟩
      refine ldone he A rfl rfl rfl ?_
      clear A
      unfold LOk
      dsimp only
      refine ⟨?_, ?_, ?_⟩ <;> first | (intro h; exact absurd h (by decide)) | omega | simp
  · rw [if_neg (show ¬ (3 : Int) = 1 by decide), if_neg (show ¬ (3 : Int) = 2 by decide), if_pos rfl]
    obtain ⟨rfl, rfl, rfl⟩ := g1 (by decide)
    have ht : 0 ≤ th ∧ th < 16 := by omega
    have hb : 0 ≤ bl ∧ bl < 4 := by omega
    have k : Bq q 142 (PC 5 _ _ _ _ _) w := k
    refine (stepL_5 hq k (fun X hX => unflag_any hq (F.below hX) hs (k.below hX) ht)).mono ?_
    rintro e w' ⟨he, A⟩
    refine ldone he A rfl rfl rfl ?_
    clear A
    unfold LOk
    dsimp only
    refine ⟨?_, ?_, ?_⟩ <;> first | (intro h; exact absurd h (by decide)) | omega | simp
  · rw [if_neg (show ¬ (4 : Int) = 1 by decide), if_neg (show ¬ (4 : Int) = 2 by decide), if_neg (show ¬ (4 : Int) = 3 by decide), if_pos rfl]
    obtain ⟨rfl, rfl, rfl⟩ := g1 (by decide)
    have ht : 0 ≤ th ∧ th < 16 := by omega
    have hb : 0 ≤ bl ∧ bl < 4 := by omega
    have k : Bq q 142 (PC 6 _ _ _ _ _) w := k
    refine (stepL_6 hq k (fun X hX => free_any hq (F.below hX) hs (k.below hX) ht)).mono ?_
    rintro e w' ⟨he, A⟩
    refine ldone he A rfl rfl rfl ?_
    clear A
    unfold LOk
    dsimp only
    refine ⟨?_, ?_, ?_⟩ <;> first | (intro h; exact absurd h (by decide)) | omega | simp
  · rw [if_neg (show ¬ (5 : Int) = 1 by decide), if_neg (show ¬ (5 : Int) = 2 by decide), if_neg (show ¬ (5 : Int) = 3 by decide), if_neg (show ¬ (5 : Int) = 4 by decide), if_pos rfl]
    obtain ⟨rfl, rfl, rfl⟩ := g1 (by decide)
    have ht : 0 ≤ th ∧ th < 16 := by omega
    have hb : 0 ≤ bl ∧ bl < 4 := by omega
    have k : Bq q 142 (PC 1 _ _ _ _ _) w := k
    refine (stepL_1 hq k (fun X hX => readP (by decide) hq (F.below hX) hs (k.below hX) hb)).mono ?_
    rintro e w' ⟨he, A⟩
    refine ldone he A rfl rfl rfl ?_
    clear A
    unfold LOk
    dsimp only
    refine ⟨?_, ?_, ?_⟩ <;> first | (intro h; exact absurd h (by decide)) | omega | simp
  · rw [if_neg (show ¬ (6 : Int) = 1 by decide), if_neg (show ¬ (6 : Int) = 2 by decide), if_neg (show ¬ (6 : Int) = 3 by decide), if_neg (show ¬ (6 : Int) = 4 by decide), if_neg (show ¬ (6 : Int) = 5 by decide), if_pos rfl]
    obtain ⟨rfl, rfl, rfl⟩ := g1 (by decide)
    have ht : 0 ≤ th ∧ th < 16 := by omega
    have hb : 0 ≤ bl ∧ bl < 4 := by omega
    have k : Bq q 142 (PC 2 _ _ _ _ _) w := k
    obtain rfl := g2 rfl
    by_cases hq2 : casV M.V (adK bl) wd = true
    · rw [if_pos hq2]
      refine (stepL_2 hq k (fun X hX => lessP_true (by decide) (F.below hX) hs (k.below hX) hb h2 hq2)).mono ?_
      rintro e w' ⟨he, A⟩
      refine ldone he A rfl rfl rfl ?_
      clear A
      unfold LOk
      dsimp only
      refine ⟨?_, ?_, ?_⟩ <;> first | (intro h; exact absurd h (by decide)) | omega | simp
    · rw [if_neg hq2]
      have hq3 : casV M.V (adK bl) wd = false := by simpa using hq2
      refine (stepL_2 hq k (fun X hX => lessP_false (by decide) (F.below hX) hs (k.below hX) hb h2 hq3)).mono ?_
      rintro e w' ⟨he, A⟩
      refine ldone he A rfl rfl rfl ?_
      clear A
      unfold LOk
      dsimp only
      refine ⟨?_, ?_, ?_⟩ <;> first | (intro h; exact absurd h (by decide)) | omega | simp
theorem prg_step (hq : 1 < q) (F : VX p b M w) (hs : M.s.st < 1000000) (ok : TNum o) (R : PRep q o w) : Calls Tryd.prog (fnS o.lv) #[.pointer (some ⟨q, 0, none⟩), .pointer (some ⟨p, 0, none⟩)] w (PDone p b q (tX o M) w) := by
  rcases R with ⟨h, R⟩ | ⟨h, R⟩
  · have e1 : tX o M = joinX o M := by unfold tX; rw [if_neg (by rw [h]; decide)]
    have e2 : fnS o.lv = 35 := by unfold fnS; rw [if_neg (by rw [h]; decide)]
    rw [e1, e2]
    exact join_step hq F hs ok h R
  · have e1 : tX o M = leaveX o M := by unfold tX; rw [if_pos h]
    have e2 : fnS o.lv = 52 := by unfold fnS; rw [if_pos h]
    rw [e1, e2]
    exact leave_step hq F hs ok h R
end
end Go.Proofs.YtffkjdmpeeagoaaDoor
