/-
  A Join that goes some steps ahead of a Less of the block that it looks for, in plain words; no condition.
-/
import Derived.Test.YtffkjdmpeeagoaaDoorBP5
namespace Go.Proofs.YtffkjdmpeeagoaaDoor
open Go.RowKit Go.Maps

/-- So many blocks, all but the last one full; behind that many steps of the Join. -/
structure Ahd (n : Int) (s : Nat) (V : Ad → Int) : Prop where
  n14 : 1 ≤ n ∧ n ≤ 4
  N : V adN = n
  full : ∀ i, 0 ≤ i → i < n - 1 → V (adK i) = blockW 4 false
  last : V (adK (n - 1)) = if (s : Int) = n + 2 then blockW 1 false else opnW
  own : ∀ t, 0 ≤ t → t < 16 → V (adT t 0) = 0
/-- .. the last block is gone. -/
structure Sh (n : Int) (V : Ad → Int) : Prop where
  n14 : 2 ≤ n ∧ n ≤ 4
  N : V adN = n - 1
  full : ∀ i, 0 ≤ i → i < n - 1 → V (adK i) = blockW 4 false
  last : V (adK (n - 1)) = cldW
  own : ∀ t, 0 ≤ t → t < 16 → V (adT t 0) = 0
/-- The Join behind that many steps. -/
structure JStp (n : Int) (s : Nat) (ow : Int) (o : TO) : Prop where
  zero : s = 0 → o = newJ ow
  look : 1 ≤ (s : Int) → (s : Int) ≤ n → ∃ w, o = ⟨false, 2, -1, 0, ow + 1, n, s - 1, 0, w⟩
  cas : (s : Int) = n + 1 → o = ⟨false, 3, -1, 0, ow + 1, n, n - 1, 0, opnW⟩
  in_ : (s : Int) = n + 2 → o = ⟨false, 4, -1, 0, ow + 1, n, n - 1, 0, opnW⟩
section
variable {n i ow : Int} {s : Nat} {M : MV} {V : Ad → Int} {o : TO}
theorem full_back : blkN (blockW 4 false) = 4 ∧ blkC (blockW 4 false) = false := blk_back false (by decide)
theorem one_back : blkN (blockW 1 false) = 1 ∧ blkC (blockW 1 false) = false := blk_back false (by decide)
theorem newJ_eq (h : 0 ≤ ow) : newJ ow = ⟨false, 1, -1, 0, ow + 1, 0, 0, 0, 0⟩ := by unfold newJ; rw [if_neg (by omega)]
theorem tX_j (ln th e ow b i k w : Int) (M : MV) : tX ⟨false, ln, th, e, ow, b, i, k, w⟩ M = joinX ⟨false, ln, th, e, ow, b, i, k, w⟩ M := rfl
theorem Ahd.was (W : Ahd n s V) : blkN (V (adK (n - 1))) = if (s : Int) = n + 2 then 1 else 0 := by
  rw [W.last]
  split
  · exact one_back.1
  · exact opn_back.1
theorem Ahd.next (W : Ahd n s V) (h : (s : Int) ≤ n) : Ahd n (s + 1) V := ⟨W.n14, W.N, W.full, by rw [W.last, if_neg (by omega), if_neg (by push_cast; omega)], W.own⟩
theorem Ahd.back (W : Ahd n s V) (h : (s : Int) ≠ n + 2) : Ahd n 0 V := ⟨W.n14, W.N, W.full, by have := W.n14; rw [W.last, if_neg h, if_neg (by simp; omega)], W.own⟩
theorem JStp.first (h : 1 ≤ n) : JStp n 0 ow (newJ ow) := ⟨fun _ => rfl, fun h => by simp at h, fun h => by simp at h; omega, fun h => by simp at h; omega⟩
/-- A step of it. -/
theorem JStp.step (J : JStp n s ow o) (W : Ahd n s M.V) (how : 0 ≤ ow) (h : (s : Int) < n + 2) : JStp n (s + 1) ow (tX o M).1 ∧ Ahd n (s + 1) (tX o M).2.V ∧ (tX o M).1.ln ≠ 0 := by
  have hn := W.n14
  by_cases h0 : s = 0
  · have := J.zero h0
    subst this h0
    rw [newJ_eq how, tX_j]
    have hz : ¬ M.V adN = 0 := by rw [W.N]; omega
    have hle : (if 4 < M.V adN then 4 else M.V adN) = n := by rw [W.N, if_neg (by omega)]
    unfold joinX
    simp only [if_true, if_neg hz, hle]
    refine ⟨⟨fun h => by simp at h, fun _ _ => ⟨0, by simp⟩, fun h => by simp at h; omega, fun h => by simp at h; omega⟩, W.next (by simp; omega), by simp⟩
  · by_cases h1 : (s : Int) ≤ n
    · obtain ⟨w, rfl⟩ := J.look (by omega) h1
      rw [tX_j]
      unfold joinX
      simp only [if_neg (show ¬ (2 : Int) = 1 by decide), if_true]
      by_cases h2 : (s : Int) = n
      · have hw : M.V (adK ((s : Int) - 1)) = opnW := by rw [h2, W.last, if_neg (by omega)]
        rw [hw, if_pos ⟨opn_back.2, by rw [opn_back.1]; decide⟩]
        refine ⟨⟨fun h => by simp at h, fun _ h => by push_cast at h; omega, fun _ => by simp [h2], fun h => by push_cast at h; omega⟩, W.next h1, by simp⟩
      · have hw : M.V (adK ((s : Int) - 1)) = blockW 4 false := W.full _ (by omega) (by omega)
        rw [hw, if_neg (by rw [full_back.1]; intro h; exact absurd h.2 (by decide)), if_neg (by omega)]
        refine ⟨⟨fun h => by simp at h, fun _ _ => ⟨blockW 4 false, by push_cast; congr 1; omega⟩, fun h => by push_cast at h; omega, fun h => by push_cast at h; omega⟩, W.next h1, by simp⟩
    · have h2 : (s : Int) = n + 1 := by omega
      have := J.cas h2
      subst this
      rw [tX_j]
      unfold joinX
      have hm : 0 ≤ n - 1 ∧ n - 1 < 4 := by omega
      have hw : M.V (adK (n - 1)) = opnW := by rw [W.last, if_neg (by omega)]
      have hc : casV M.V (adK (n - 1)) opnW = true := by rw [casV_K hm, hw]; simp
      simp only [if_neg (show ¬ (3 : Int) = 1 by decide), if_neg (show ¬ (3 : Int) = 2 by decide), if_true, hc]
      have hV : (csM M (adK (n - 1)) opnW (addW opnW)).V = setV M.V (adK (n - 1)) (blockW 1 false) := by
        show csV M.V _ _ _ = _
        rw [csV_yes hc]
        unfold addW
        rw [opn_back.1, opn_back.2]
        rfl
      refine ⟨⟨fun h => by simp at h, fun _ h => by push_cast at h; omega, fun h => by push_cast at h; omega, fun _ => rfl⟩, ?_, by simp⟩
      rw [hV]
      refine ⟨hn, by rw [setV_other (neNK hm)]; exact W.N, fun i g0 g1 => by rw [setV_other (neKK ⟨g0, by omega⟩ hm (by omega))]; exact W.full i g0 g1, by rw [setV_same (mayK hm), if_pos (by push_cast; omega)], fun t g0 g1 => by rw [setV_other (Ne.symm (neKT hm ⟨g0, g1⟩ (by decide)))]; exact W.own t g0 g1⟩
/-- It goes on, and joins. -/
theorem JStp.joins (J : JStp n s ow o) (W : Ahd n s M.V) (how : 0 ≤ ow) (h : (s : Int) ≤ n + 2) : ∃ N o' M', Ends o M N o' M' ∧ N ≤ 16 ∧ o'.th = 4 * (n - 1) ∧ o'.e = 0 := by
  have hn := W.n14
  have key : ∀ (j s : Nat) (o : TO) (M : MV), (s : Int) + j = n + 2 → JStp n s ow o → Ahd n s M.V → ∃ o' M', Ends o M (j + 10) o' M' ∧ o'.th = 4 * (n - 1) ∧ o'.e = 0 := by
    intro j
    induction j with
    | zero =>
      intro s o M hs J W
      have hm : 0 ≤ n - 1 ∧ n - 1 < 4 := by omega
      have ht : 0 ≤ 4 * (n - 1) + 0 ∧ 4 * (n - 1) + 0 < 16 := by omega
      have := J.in_ (by simpa using hs)
      subst this
      obtain ⟨Mw, w1, w2, w3⟩ := wipe_run (ow := ow + 1) ht n (n - 1) opnW 0 9 1 ⟨setV M.V (adT (4 * (n - 1) + 0) 0) (ow + 1), M.s⟩ (by decide) (by decide) rfl
      obtain ⟨M', e1, _⟩ := take_run (th := -1) (ow := ow + 1) (k0 := 0) hm (by decide) n opnW 0 (N := 9) (o' := ⟨false, 0, 4 * (n - 1) + 0, 0, ow + 1, n, n - 1, 10, opnW⟩) (V' := Mw.V) 0 0 M (by decide) (by decide) rfl (W.own _ ht.1 ht.2) (fun l g1 g2 => by omega) (fun M2 hM2 => by
        obtain ⟨M3, x1, x2, x3⟩ := wipe_run (ow := ow + 1) ht n (n - 1) opnW 0 9 1 M2 (by decide) (by decide) rfl
        refine ⟨M3, x1, funext fun x => ?_⟩
        by_cases hx : ∀ f, 1 ≤ f → f < 10 → x ≠ adT (4 * (n - 1) + 0) f
        · rw [x3 x hx, w3 x hx, hM2]
        · have hx' : ∃ f, 1 ≤ f ∧ f < 10 ∧ x = adT (4 * (n - 1) + 0) f := by
            apply Classical.byContradiction
            intro hno
            exact hx fun f a1 a2 a3 => hno ⟨f, a1, a2, a3⟩
          obtain ⟨f, a1, a2, rfl⟩ := hx'
          rw [x2 f a1 a2, w2 f a1 a2])
      exact ⟨_, M', e1, by show 4 * (n - 1) + 0 = _; omega, rfl⟩
    | succ j ih =>
      intro s o M hs J W
      obtain ⟨J2, W2, h3⟩ := J.step W how (by omega)
      obtain ⟨o', M', e1, e2, e3⟩ := ih (s + 1) _ _ (by push_cast at hs ⊢; omega) J2 W2
      exact ⟨o', M', by rw [show j + 1 + 10 = j + 10 + 1 by omega]; exact .more h3 e1, e2, e3⟩
  obtain ⟨o', M', e1, e2, e3⟩ := key (n + 2 - s).toNat s o M (by omega) J W
  exact ⟨_, o', M', e1, by omega, e2, e3⟩
/-- A look where no block has room. -/
theorem nowhere {k : Int} (j : Nat) : ∀ (i w : Int) (M : MV), 0 ≤ i → i < n → (n - i).toNat = j + 1 → (∀ l, 0 ≤ l → l < n → ¬ Room M.V l) → ∃ o' M', Ends ⟨false, 2, -1, 0, ow + 1, n, i, k, w⟩ M (j + 1) o' M' ∧ o'.th = -1 ∧ o'.e = 5 ∧ M'.V = M.V := by
  induction j with
  | zero =>
    intro i w M h0 h1 h2 hr
    have h5 := hr i h0 h1
    unfold Room at h5
    have h6 : i + 1 = n := by omega
    refine ⟨⟨false, 0, -1, 5, ow + 1, n, i + 1, k, M.V (adK i)⟩, ldM M (adK i), Ends.last (o1 := ⟨false, 0, -1, 5, ow + 1, n, i + 1, k, M.V (adK i)⟩) (M1 := ldM M (adK i)) ?_ rfl rfl rfl, rfl, rfl, rfl⟩
    unfold tX joinX
    simp only [if_neg (show ¬ (2 : Int) = 1 by decide), if_true, if_neg h5, if_pos h6]
    rfl
  | succ j ih =>
    intro i w M h0 h1 h2 hr
    have h5 := hr i h0 h1
    unfold Room at h5
    have h6 : ¬ i + 1 = n := by omega
    obtain ⟨o', M', e1, e2⟩ := ih (i + 1) (M.V (adK i)) (ldM M (adK i)) (by omega) (by omega) (by omega) hr
    refine ⟨o', M', Ends.step (o1 := ⟨false, 2, -1, 0, ow + 1, n, i + 1, k, M.V (adK i)⟩) (M1 := ldM M (adK i)) ?_ (by simp) e1, e2⟩
    unfold tX joinX
    simp only [if_neg (show ¬ (2 : Int) = 1 by decide), if_true, if_neg h5, if_neg h6]
    rfl
theorem Sh.noroom (S : Sh n V) {l : Int} (h0 : 0 ≤ l) (h1 : l < n) : ¬ Room V l := by
  unfold Room
  by_cases h : l = n - 1
  · rw [h, S.last, cld_back.2]
    intro g
    cases g.1
  · rw [S.full l h0 (by omega), full_back.1]
    intro g
    exact absurd g.2 (by decide)
/-- It goes on, and passes the block by that is gone. -/
theorem JStp.passes (J : JStp n s ow o) (S : Sh n M.V) (how : 0 ≤ ow) (h : (s : Int) ≤ n + 1) : ∃ N o' M', Ends o M N o' M' ∧ N ≤ 16 ∧ o'.th = -1 ∧ o'.e = 5 ∧ M'.V = M.V := by
  have hn := S.n14
  have hr : ∀ l, 0 ≤ l → l < n → ¬ Room M.V l := fun l => S.noroom
  by_cases h0 : s = 0
  · have := J.zero h0
    subst this
    obtain ⟨o', M', e1, e2, e3, e4⟩ := full_alone (n := n - 1) (by omega) S.N how (fun l g0 g1 => hr l g0 (by omega))
    exact ⟨_, o', M', e1, by omega, e2, e3, e4⟩
  · by_cases h1 : (s : Int) ≤ n
    · obtain ⟨w, rfl⟩ := J.look (by omega) h1
      obtain ⟨o', M', e1, e2⟩ := nowhere (n := n) (k := 0) (n - s).toNat ((s : Int) - 1) w M (by omega) (by omega) (by omega) hr
      exact ⟨_, o', M', e1, by omega, e2⟩
    · have := J.cas (by omega)
      subst this
      have hm : 0 ≤ n - 1 ∧ n - 1 < 4 := by omega
      have hc : casV M.V (adK (n - 1)) opnW = false := by
        rw [casV_K hm, S.last]
        exact decide_eq_false fun h => absurd (congrArg blkC h) (by rw [cld_back.2, opn_back.2]; decide)
      have hV : (csM M (adK (n - 1)) opnW (addW opnW)).V = M.V := csV_no hc
      obtain ⟨o', M', e1, e2, e3, e4⟩ := nowhere (n := n) (k := 0) 0 (n - 1) opnW (csM M (adK (n - 1)) opnW (addW opnW)) (by omega) (by omega) (by omega) (by rw [hV]; exact hr)
      refine ⟨_, o', M', Ends.step (o1 := ⟨false, 2, -1, 0, ow + 1, n, n - 1, 0, opnW⟩) (M1 := csM M (adK (n - 1)) opnW (addW opnW)) ?_ (by simp) e1, by omega, e2, e3, by rw [e4, hV]⟩
      rw [tX_j]
      unfold joinX
      simp only [if_neg (show ¬ (3 : Int) = 1 by decide), if_neg (show ¬ (3 : Int) = 2 by decide), if_true, if_neg (show ¬ casV M.V (adK (n - 1)) opnW = true by rw [hc]; decide)]
/-- A Less: the last block goes. -/
theorem Ahd.less (W : Ahd n s V) (h2 : 2 ≤ n) : Sh n (lessV V n) := by
  have hn := W.n14
  have hm : 0 ≤ n - 1 ∧ n - 1 < 4 := by omega
  refine ⟨by omega, setV_same mayN _, fun i g0 g1 => ?_, ?_, fun t g0 g1 => ?_⟩
  · unfold lessV
    rw [setV_other (Ne.symm (neNK ⟨g0, by omega⟩)), setV_other (neKK ⟨g0, by omega⟩ hm (by omega))]
    exact W.full i g0 g1
  · unfold lessV
    rw [setV_other (Ne.symm (neNK hm)), setV_same (mayK hm)]
  · unfold lessV
    rw [setV_other (Ne.symm (neNT ⟨g0, g1⟩ (by decide))), setV_other (Ne.symm (neKT hm ⟨g0, g1⟩ (by decide)))]
    exact W.own t g0 g1
/-- A More: it comes again. -/
theorem Sh.more (S : Sh n V) : Ahd n 0 (moreV V (n - 1)) := by
  have hn := S.n14
  have hm : 0 ≤ n - 1 ∧ n - 1 < 4 := by omega
  unfold moreV
  rw [if_pos S.last]
  refine ⟨by omega, by rw [setV_other (neNK hm), setV_same mayN]; omega, fun i g0 g1 => ?_, by rw [setV_same (mayK hm), if_neg (by simp; omega)], fun t g0 g1 => ?_⟩
  · rw [setV_other (neKK ⟨g0, by omega⟩ hm (by omega)), setV_other (Ne.symm (neNK ⟨g0, by omega⟩))]
    exact S.full i g0 g1
  · rw [setV_other (Ne.symm (neKT hm ⟨g0, g1⟩ (by decide))), setV_other (Ne.symm (neNT ⟨g0, g1⟩ (by decide)))]
    exact S.own t g0 g1
end
end Go.Proofs.YtffkjdmpeeagoaaDoor
