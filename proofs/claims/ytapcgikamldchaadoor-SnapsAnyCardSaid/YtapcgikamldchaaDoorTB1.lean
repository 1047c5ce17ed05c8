/-
  A Join and a Leave of the chapter in plain words, over a memory's words; addresses of blocks' and threads' words; no condition.
-/
import Derived.Test.YtapcgikamldchaaDoorB1
import Derived.Test.YtapcgikamldchaaDoorBack
namespace Go.Proofs.YtapcgikamldchaaDoor
open Go.RowKit Go.Maps

/-- How many blocks there are; a block's word; a thread's. -/
def adN : Ad := ⟨5, 0, 0, by decide, by decide, by decide⟩
def adK (i : Int) : Ad := if h : (Lit.int .i64 i).wf = true then ⟨7, i, 0, by decide, h, by decide⟩ else adN
def adT (t f : Int) : Ad := if h : (Lit.int .i64 t).wf = true ∧ (Lit.int .i64 f).wf = true then ⟨8, t, f, by decide, h.1, h.2⟩ else adN
theorem small64 {x : Int} (h0 : -1000 ≤ x) (h1 : x ≤ 1000) : (Lit.int .i64 x).wf = true := i64w_in (by omega) (by omega)
theorem adK_at {i : Int} (h : 0 ≤ i ∧ i < 4) : (adK i).k = 7 ∧ (adK i).a = i ∧ (adK i).f = 0 := by
  unfold adK
  rw [dif_pos (small64 (by omega) (by omega))]
  exact ⟨rfl, rfl, rfl⟩
theorem adT_at {t f : Int} (h : 0 ≤ t ∧ t < 16) (g : 0 ≤ f ∧ f < 10) : (adT t f).k = 8 ∧ (adT t f).a = t ∧ (adT t f).f = f := by
  unfold adT
  rw [dif_pos ⟨small64 (by omega) (by omega), small64 (by omega) (by omega)⟩]
  exact ⟨rfl, rfl, rfl⟩
theorem mayN : mayB adN.k adN.a adN.f = true := by decide
theorem mayK {i : Int} (h : 0 ≤ i ∧ i < 4) : mayB (adK i).k (adK i).a (adK i).f = true := by
  obtain ⟨h1, h2, h3⟩ := adK_at h
  rw [h1, h2, h3]
  simp [mayB, atRoom, fieldRoom, h.1, h.2]
theorem mayT {t f : Int} (h : 0 ≤ t ∧ t < 16) (g : 0 ≤ f ∧ f < 10) : mayB (adT t f).k (adT t f).a (adT t f).f = true := by
  obtain ⟨h1, h2, h3⟩ := adT_at h g
  rw [h1, h2, h3]
  simp [mayB, atRoom, fieldRoom, h.1, h.2, g.1, g.2]
theorem neNK {i : Int} (h : 0 ≤ i ∧ i < 4) : adN ≠ adK i := fun e => by have := congrArg Ad.k e; rw [(adK_at h).1] at this; exact absurd this (by decide)
theorem neNT {t f : Int} (h : 0 ≤ t ∧ t < 16) (g : 0 ≤ f ∧ f < 10) : adN ≠ adT t f := fun e => by have := congrArg Ad.k e; rw [(adT_at h g).1] at this; exact absurd this (by decide)
theorem neKT {i t f : Int} (h0 : 0 ≤ i ∧ i < 4) (h : 0 ≤ t ∧ t < 16) (g : 0 ≤ f ∧ f < 10) : adK i ≠ adT t f := fun e => by have := congrArg Ad.k e; rw [(adK_at h0).1, (adT_at h g).1] at this; exact absurd this (by decide)
theorem neKK {i j : Int} (h : 0 ≤ i ∧ i < 4) (g : 0 ≤ j ∧ j < 4) (n : i ≠ j) : adK i ≠ adK j := fun e => by have := congrArg Ad.a e; rw [(adK_at h).2.1, (adK_at g).2.1] at this; exact n this
theorem neTT {t f t' f' : Int} (h : 0 ≤ t ∧ t < 16) (g : 0 ≤ f ∧ f < 10) (h' : 0 ≤ t' ∧ t' < 16) (g' : 0 ≤ f' ∧ f' < 10) (n : t ≠ t' ∨ f ≠ f') : adT t f ≠ adT t' f' := fun e => by
  have e1 := congrArg Ad.a e
  have e2 := congrArg Ad.f e
  rw [(adT_at h g).2.1, (adT_at h' g').2.1] at e1
  rw [(adT_at h g).2.2, (adT_at h' g').2.2] at e2
  rcases n with n | n
  · exact n e1
  · exact n e2

/-- What a block's word says; of one more, of one less. -/
def blkN (w : Int) : Int := fld w 0 32
def blkC (w : Int) : Bool := fld w 32 1 != 0
def addW (w : Int) : Int := blockW (blkN w + 1) (blkC w)
def fewW (w : Int) : Int := blockW (if blkN w = 0 then 0 else blkN w - 1) (blkC w)
theorem blkN_in (w : Int) : 0 ≤ blkN w ∧ blkN w < 4294967296 := ⟨fld_nonneg w 0 32, by have := fld_lt w 0 32; rw [p32] at this; exact this⟩
theorem addW_u64 (w : Int) : U64 (addW w) := blockW_u64 _ _
theorem fewW_u64 (w : Int) : U64 (fewW w) := blockW_u64 _ _
theorem blk_back {j : Int} (c : Bool) (h : 0 ≤ j ∧ j < 4294967296) : blkN (blockW j c) = j ∧ blkC (blockW j c) = c := block_back j c h

/-- An operation, as the chapter has it: a Leave or a Join, its line (0: over), thread, error, the owner and 1, how many blocks, the block, what it counts, the word it read. -/
structure TO where
  lv : Bool
  ln : Int
  th : Int
  e : Int
  ow : Int
  b : Int
  i : Int
  k : Int
  w : Int
def joinX (o : TO) (M : MV) : TO × MV :=
  if o.ln = 1 then (if M.V adN = 0 then { o with ln := 0, e := 5, b := 0 } else { o with ln := 2, b := if 4 < M.V adN then 4 else M.V adN }, ldM M adN)
  else if o.ln = 2 then (if blkC (M.V (adK o.i)) = false ∧ blkN (M.V (adK o.i)) < 4 then { o with ln := 3, w := M.V (adK o.i) } else if o.i + 1 = o.b then { o with ln := 0, e := 5, i := o.i + 1, w := M.V (adK o.i) } else { o with ln := 2, i := o.i + 1, w := M.V (adK o.i) }, ldM M (adK o.i))
  else if o.ln = 3 then (if casV M.V (adK o.i) o.w = true then { o with ln := 4, k := 0 } else { o with ln := 2 }, csM M (adK o.i) o.w (addW o.w))
  else if o.ln = 4 then (if casV M.V (adT (4 * o.i + o.k) 0) 0 = true then { o with ln := 5, th := 4 * o.i + o.k, k := 1 } else if o.k + 1 = 4 then { o with ln := 6, k := o.k + 1 } else { o with ln := 4, k := o.k + 1 }, csM M (adT (4 * o.i + o.k) 0) 0 o.ow)
  else if o.ln = 5 then (if o.k + 1 = 10 then { o with ln := 0, k := o.k + 1 } else { o with ln := 5, k := o.k + 1 }, stM M (adT o.th o.k) 0)
  else if o.ln = 6 then ({ o with ln := 7, w := M.V (adK o.i) }, ldM M (adK o.i))
  else if o.ln = 7 then (if casV M.V (adK o.i) o.w = true then { o with ln := 0, e := 7 } else { o with ln := 6 }, csM M (adK o.i) o.w (fewW o.w))
  else (o, M)
def leaveX (o : TO) (M : MV) : TO × MV :=
  if o.ln = 1 then (if M.V (adT o.th 0) = 0 then { o with ln := 0, e := 6 } else { o with ln := 2 }, ldM M (adT o.th 0))
  else if o.ln = 2 then (if M.V (adT o.th 1) = 0 then { o with ln := 3 } else { o with ln := 0, e := 4 }, ldM M (adT o.th 1))
  else if o.ln = 3 then ({ o with ln := 4 }, stM M (adT o.th 6) 0)
  else if o.ln = 4 then ({ o with ln := 5 }, stM M (adT o.th 0) 0)
  else if o.ln = 5 then ({ o with ln := 6, w := M.V (adK o.i) }, ldM M (adK o.i))
  else if o.ln = 6 then (if casV M.V (adK o.i) o.w = true then { o with ln := 0 } else { o with ln := 5 }, csM M (adK o.i) o.w (fewW o.w))
  else (o, M)
def tX (o : TO) (M : MV) : TO × MV := if o.lv = true then leaveX o M else joinX o M
/-- New ones. -/
def newJ (n : Int) : TO := if n < 0 then ⟨false, 0, -1, 1, 0, 0, 0, 0, 0⟩ else ⟨false, 1, -1, 0, n + 1, 0, 0, 0, 0⟩
def newL (n : Int) : TO := if n < 0 ∨ 15 < n then ⟨true, 0, 0, 1, 0, 0, 0, 0, 0⟩ else ⟨true, 1, n, 0, 0, 0, n / 4, 0, 0⟩
/-- Its numbers are of their kinds. -/
def JNum (ln th e ow b i k : Int) : Prop := 0 ≤ ln ∧ ln ≤ 7 ∧ (ln ≠ 0 → e = 0 ∧ 1 ≤ ow ∧ 0 ≤ i ∧ i < 4 ∧ (ln = 1 → i = 0) ∧ (ln = 2 ∨ ln = 3 → i < b ∧ b ≤ 4) ∧ (ln = 4 → 0 ≤ k ∧ k < 4) ∧ (ln = 5 → 0 ≤ th ∧ th < 16 ∧ 1 ≤ k ∧ k < 10) ∧ (ln ≠ 5 → th = -1))
def LNum (ln th e i : Int) : Prop := 0 ≤ ln ∧ ln ≤ 6 ∧ (ln ≠ 0 → e = 0 ∧ 0 ≤ th ∧ th < 16 ∧ i = th / 4)
structure TNum (o : TO) : Prop where
  ow : U64 o.ow
  w : U64 o.w
  j : o.lv = false → JNum o.ln o.th o.e o.ow o.b o.i o.k
  c : o.lv = false → o.ln = 3 → blkC o.w = false ∧ blkN o.w < 4
  l : o.lv = true → LNum o.ln o.th o.e o.i
theorem u64_0' : U64 0 := ⟨by decide, by decide⟩
theorem TNum.mkJ {ln th e ow b i k w : Int} (h1 : U64 ow) (h2 : U64 w) (h : JNum ln th e ow b i k) (c : ln = 3 → blkC w = false ∧ blkN w < 4) : TNum ⟨false, ln, th, e, ow, b, i, k, w⟩ := ⟨h1, h2, fun _ => h, fun _ => c, (fun h => by cases h)⟩
theorem TNum.mkL {ln th e ow b i k w : Int} (h1 : U64 ow) (h2 : U64 w) (h : LNum ln th e i) : TNum ⟨true, ln, th, e, ow, b, i, k, w⟩ := ⟨h1, h2, (fun h => by cases h), (fun h => by cases h), fun _ => h⟩
theorem TNum.newJ {n : Int} (h : (Lit.int .i64 n).wf = true) : TNum (newJ n) := by
  have hn : n < 9223372036854775808 := by simp [Lit.wf, IntKind.min, IntKind.max, IntKind.signed, IntKind.bits] at h; omega
  unfold Go.Proofs.YtapcgikamldchaaDoor.newJ
  by_cases h0 : n < 0
  · rw [if_pos h0]
    exact .mkJ u64_0' u64_0' (by unfold JNum; omega) (fun h => by omega)
  · rw [if_neg h0]
    exact .mkJ ⟨by omega, by omega⟩ u64_0' (by unfold JNum; omega) (fun h => by omega)
theorem TNum.newL (n : Int) : TNum (newL n) := by
  unfold Go.Proofs.YtapcgikamldchaaDoor.newL
  by_cases h0 : n < 0 ∨ 15 < n
  · rw [if_pos h0]
    exact .mkL u64_0' u64_0' (by unfold LNum; omega)
  · rw [if_neg h0]
    exact .mkL u64_0' u64_0' (by unfold LNum; omega)
theorem TNum.step {o : TO} {M : MV} (ok : TNum o) (hu : ∀ x, U64 (M.V x)) : TNum (tX o M).1 := by
  obtain ⟨lv, ln, th, e, ow, b, i, k, w⟩ := o
  obtain ⟨h1, h2, hj, hc, hl⟩ := ok
  cases lv with
  | false =>
    have hj := hj rfl
    have hc := hc rfl
    simp only at h1 h2 hj hc
    show TNum (joinX _ M).1
    have hj0 := hj
    unfold JNum at hj0
    unfold joinX
    obtain rfl | rfl | rfl | rfl | rfl | rfl | rfl | rfl : ln = 0 ∨ ln = 1 ∨ ln = 2 ∨ ln = 3 ∨ ln = 4 ∨ ln = 5 ∨ ln = 6 ∨ ln = 7 := by omega
    · exact .mkJ h1 h2 hj hc
    · have := hu adN
      obtain ⟨c1, c2⟩ := this
      simp only [if_true]
      split
      · exact .mkJ h1 h2 (by unfold JNum; omega) (fun h => by omega)
      · refine .mkJ h1 h2 ?_ (fun h => by omega)
        unfold JNum
        split <;> omega
    · simp only [if_neg (show ¬ (2 : Int) = 1 by decide), if_true]
      split
      · rename_i hq
        exact .mkJ h1 (hu _) (by unfold JNum; omega) (fun _ => hq)
      · split
        · exact .mkJ h1 (hu _) (by unfold JNum; omega) (fun h => by omega)
        · exact .mkJ h1 (hu _) (by unfold JNum; omega) (fun h => by omega)
    · simp only [if_neg (show ¬ (3 : Int) = 1 by decide), if_neg (show ¬ (3 : Int) = 2 by decide), if_true]
      split
      · exact .mkJ h1 h2 (by unfold JNum; omega) (fun h => by omega)
      · exact .mkJ h1 h2 (by unfold JNum; omega) (fun h => by omega)
    · simp only [if_neg (show ¬ (4 : Int) = 1 by decide), if_neg (show ¬ (4 : Int) = 2 by decide), if_neg (show ¬ (4 : Int) = 3 by decide), if_true]
      split
      · exact .mkJ h1 h2 (by unfold JNum; omega) (fun h => by omega)
      · split
        · exact .mkJ h1 h2 (by unfold JNum; omega) (fun h => by omega)
        · exact .mkJ h1 h2 (by unfold JNum; omega) (fun h => by omega)
    · simp only [if_neg (show ¬ (5 : Int) = 1 by decide), if_neg (show ¬ (5 : Int) = 2 by decide), if_neg (show ¬ (5 : Int) = 3 by decide), if_neg (show ¬ (5 : Int) = 4 by decide), if_true]
      split
      · exact .mkJ h1 h2 (by unfold JNum; omega) (fun h => by omega)
      · exact .mkJ h1 h2 (by unfold JNum; omega) (fun h => by omega)
    · simp only [if_neg (show ¬ (6 : Int) = 1 by decide), if_neg (show ¬ (6 : Int) = 2 by decide), if_neg (show ¬ (6 : Int) = 3 by decide), if_neg (show ¬ (6 : Int) = 4 by decide), if_neg (show ¬ (6 : Int) = 5 by decide), if_true]
      exact .mkJ h1 (hu _) (by unfold JNum; omega) (fun h => by omega)
    · simp only [if_neg (show ¬ (7 : Int) = 1 by decide), if_neg (show ¬ (7 : Int) = 2 by decide), if_neg (show ¬ (7 : Int) = 3 by decide), if_neg (show ¬ (7 : Int) = 4 by decide), if_neg (show ¬ (7 : Int) = 5 by decide), if_neg (show ¬ (7 : Int) = 6 by decide), if_true]
      split
      · exact .mkJ h1 h2 (by unfold JNum; omega) (fun h => by omega)
      · exact .mkJ h1 h2 (by unfold JNum; omega) (fun h => by omega)
  | true =>
    have hl := hl rfl
    simp only at h1 h2 hl
    show TNum (leaveX _ M).1
    have hl0 := hl
    unfold LNum at hl0
    unfold leaveX
    obtain rfl | rfl | rfl | rfl | rfl | rfl | rfl : ln = 0 ∨ ln = 1 ∨ ln = 2 ∨ ln = 3 ∨ ln = 4 ∨ ln = 5 ∨ ln = 6 := by omega
    · exact .mkL h1 h2 hl
    · simp only [if_true]
      split
      · exact .mkL h1 h2 (by unfold LNum; omega)
      · exact .mkL h1 h2 (by unfold LNum; omega)
    · simp only [if_neg (show ¬ (2 : Int) = 1 by decide), if_true]
      split
      · exact .mkL h1 h2 (by unfold LNum; omega)
      · exact .mkL h1 h2 (by unfold LNum; omega)
    · simp only [if_neg (show ¬ (3 : Int) = 1 by decide), if_neg (show ¬ (3 : Int) = 2 by decide), if_true]
      exact .mkL h1 h2 (by unfold LNum; omega)
    · simp only [if_neg (show ¬ (4 : Int) = 1 by decide), if_neg (show ¬ (4 : Int) = 2 by decide), if_neg (show ¬ (4 : Int) = 3 by decide), if_true]
      exact .mkL h1 h2 (by unfold LNum; omega)
    · simp only [if_neg (show ¬ (5 : Int) = 1 by decide), if_neg (show ¬ (5 : Int) = 2 by decide), if_neg (show ¬ (5 : Int) = 3 by decide), if_neg (show ¬ (5 : Int) = 4 by decide), if_true]
      exact .mkL h1 (hu _) (by unfold LNum; omega)
    · simp only [if_neg (show ¬ (6 : Int) = 1 by decide), if_neg (show ¬ (6 : Int) = 2 by decide), if_neg (show ¬ (6 : Int) = 3 by decide), if_neg (show ¬ (6 : Int) = 4 by decide), if_neg (show ¬ (6 : Int) = 5 by decide), if_true]
      split
      · exact .mkL h1 h2 (by unfold LNum; omega)
      · exact .mkL h1 h2 (by unfold LNum; omega)
theorem tX_st (o : TO) (M : MV) : (tX o M).2.s.st ≤ M.s.st + 1 := by
  have l : ∀ x, (ldM M x).s.st ≤ M.s.st + 1 := fun x => by show M.s.st + 1 ≤ _; omega
  have s : ∀ x v, (stM M x v).s.st ≤ M.s.st + 1 := fun x v => by show M.s.st + 1 ≤ _; omega
  have c : ∀ x u v, (csM M x u v).s.st ≤ M.s.st + 1 := fun x u v => by show M.s.st + 1 ≤ _; omega
  unfold tX leaveX joinX
  split
  · repeat' split
    all_goals first | exact l _ | exact s _ _ | exact c _ _ _ | (show M.s.st ≤ _; omega)
  · repeat' split
    all_goals first | exact l _ | exact s _ _ | exact c _ _ _ | (show M.s.st ≤ _; omega)
end Go.Proofs.YtapcgikamldchaaDoor
