/-
  The document's step of layer 10 is the plain one's; an operation and the document's side by side: a step of the document's, then one of the program's; condition: both memories lie as they say and say the same, both operations as they say.
-/
import Derived.Test.YtodfjnpnfalioaaGreatDoorTB7
import Derived.Test.YtodfjnpnfalioaaGreatDoorTB8
namespace Go.Proofs.YtodfjnpnfalioaaGreatDoor
open Go.RowKit Go.Maps

section
variable {B p m b n c K : Nat} {o : TO} {D : DataW Unit} {s r : Acc8} {L : List (Ad × Int)} {M : MV} {E : List Nat} {w w' w1 w2 : World}
theorem OdS.tup {cs : List Value} {M' : MV} {ee : Ending} (h : OdS B p m b n c D s K E cs M' w ee w') : ee = .returned (.tuple #[]) := h.1
set_option maxHeartbeats 4000000 in
theorem ref_join (hBm : B ≤ m) (hc : c ≤ 900) (S : Say p m b n D L c M w) (h : Bk K 72 o.cells w) (hBK : B ≤ K) (ok : TNum o) (hv : o.lv = false) :
    Calls Tryz.prog 22 #[.pointer (some ⟨K, 0, none⟩), .pointer (some ⟨b, 0, none⟩)] w (OdS B p m b n c D M.s K [K] (joinX o M).1.cells (joinX o M).2 w) := by
  obtain ⟨lv, ln, oth, oe, oow, ob, oi, ok', owd⟩ := o
  obtain ⟨h1, h2, hj, hc3, _⟩ := ok
  replace hj := hj hv
  replace hc3 := hc3 hv
  simp only at hv h1 h2 hj hc3
  subst hv
  unfold JNum at hj
  unfold joinX
  dsimp only
  obtain rfl | rfl | rfl | rfl | rfl | rfl | rfl | rfl : ln = 0 ∨ ln = 1 ∨ ln = 2 ∨ ln = 3 ∨ ln = 4 ∨ ln = 5 ∨ ln = 6 ∨ ln = 7 := by omega
  · rw [if_neg (show ¬ (0 : Int) = 1 by decide), if_neg (show ¬ (0 : Int) = 2 by decide), if_neg (show ¬ (0 : Int) = 3 by decide), if_neg (show ¬ (0 : Int) = 4 by decide), if_neg (show ¬ (0 : Int) = 5 by decide), if_neg (show ¬ (0 : Int) = 6 by decide), if_neg (show ¬ (0 : Int) = 7 by decide)]
    exact r0 hBm hc S h hBK
  · rw [if_pos rfl]
    obtain ⟨u0, u1⟩ := S.u64 adN
    by_cases h0 : M.V adN = 0
    · rw [if_pos h0]
      exact r1_zero hBm hc S h hBK h0
    · rw [if_neg h0]
      by_cases h4 : 4 < M.V adN
      · rw [if_pos h4]
        exact r1_many (v := M.V adN) hBm hc S h hBK rfl h4
      · rw [if_neg h4]
        exact r1_few (v := M.V adN) hBm hc S h hBK rfl (by omega) (by omega)
  · rw [if_neg (show ¬ (2 : Int) = 1 by decide), if_pos rfl]
    have hi : 0 ≤ oi ∧ oi < 4 := by omega
    by_cases hr : blkC (M.V (adK oi)) = false ∧ blkN (M.V (adK oi)) < 4
    · rw [if_pos hr]
      exact r2_more hBm hc S h hBK hi rfl hr.1 hr.2
    · rw [if_neg hr]
      by_cases hl : oi + 1 = ob
      · rw [if_pos hl]
        by_cases hc2 : blkC (M.V (adK oi)) = true
        · exact r2_last_shut hBm hc S h hBK hi rfl hc2 hl
        · have hc3 : blkC (M.V (adK oi)) = false := by simpa using hc2
          exact r2_last_full hBm hc S h hBK hi rfl hc3 (fun h => hr ⟨hc3, h⟩) hl
      · rw [if_neg hl]
        by_cases hc2 : blkC (M.V (adK oi)) = true
        · exact r2_on_shut hBm hc S h hBK hi rfl hc2 hl
        · have hc3 : blkC (M.V (adK oi)) = false := by simpa using hc2
          exact r2_on_full hBm hc S h hBK hi rfl hc3 (fun h => hr ⟨hc3, h⟩) hl
  · rw [if_neg (show ¬ (3 : Int) = 1 by decide), if_neg (show ¬ (3 : Int) = 2 by decide), if_pos rfl]
    have hi : 0 ≤ oi ∧ oi < 4 := by omega
    by_cases hq : casV M.V (adK oi) owd = true
    · rw [if_pos hq]
      exact r3_yes hBm hc S h hBK hi h2 (hc3 rfl).2 hq
    · rw [if_neg hq]
      have hq2 : casV M.V (adK oi) owd = false := by simpa using hq
      exact r3_no hBm hc S h hBK hi h2 (hc3 rfl).2 hq2
  · rw [if_neg (show ¬ (4 : Int) = 1 by decide), if_neg (show ¬ (4 : Int) = 2 by decide), if_neg (show ¬ (4 : Int) = 3 by decide), if_pos rfl]
    have hi : 0 ≤ oi ∧ oi < 4 := by omega
    have hk : 0 ≤ ok' ∧ ok' < 4 := by omega
    have ht : 0 ≤ 4 * oi + ok' ∧ 4 * oi + ok' < 16 := by omega
    by_cases hq : casV M.V (adT (4 * oi + ok') 0) 0 = true
    · rw [if_pos hq]
      exact r4_yes hBm hc S h hBK hi hk ht hq
    · rw [if_neg hq]
      have hq2 : casV M.V (adT (4 * oi + ok') 0) 0 = false := by simpa using hq
      by_cases hl : ok' + 1 = 4
      · rw [if_pos hl]
        exact r4_last hBm hc S h hBK hi hk ht hq2 hl
      · rw [if_neg hl]
        exact r4_next hBm hc S h hBK hi hk ht hq2 hl
  · rw [if_neg (show ¬ (5 : Int) = 1 by decide), if_neg (show ¬ (5 : Int) = 2 by decide), if_neg (show ¬ (5 : Int) = 3 by decide), if_neg (show ¬ (5 : Int) = 4 by decide), if_pos rfl]
    have ht : 0 ≤ oth ∧ oth < 16 := by omega
    have hf : 0 ≤ ok' ∧ ok' < 10 := by omega
    by_cases hl : ok' + 1 = 10
    · rw [if_pos hl]
      exact r5_last hBm hc S h hBK ht hf hl
    · rw [if_neg hl]
      exact r5_on hBm hc S h hBK ht hf hl
  · rw [if_neg (show ¬ (6 : Int) = 1 by decide), if_neg (show ¬ (6 : Int) = 2 by decide), if_neg (show ¬ (6 : Int) = 3 by decide), if_neg (show ¬ (6 : Int) = 4 by decide), if_neg (show ¬ (6 : Int) = 5 by decide), if_pos rfl]
    have hi : 0 ≤ oi ∧ oi < 4 := by omega
    exact r6 hBm hc S h hBK hi rfl
  · rw [if_neg (show ¬ (7 : Int) = 1 by decide), if_neg (show ¬ (7 : Int) = 2 by decide), if_neg (show ¬ (7 : Int) = 3 by decide), if_neg (show ¬ (7 : Int) = 4 by decide), if_neg (show ¬ (7 : Int) = 5 by decide), if_neg (show ¬ (7 : Int) = 6 by decide), if_pos rfl]
    have hi : 0 ≤ oi ∧ oi < 4 := by omega
    by_cases hq : casV M.V (adK oi) owd = true
    · rw [if_pos hq]
      exact r7_yes hBm hc S h hBK hi h2 hq
    · rw [if_neg hq]
      have hq2 : casV M.V (adK oi) owd = false := by simpa using hq
      exact r7_no hBm hc S h hBK hi h2 hq2
set_option maxHeartbeats 4000000 in
theorem ref_leave (hBm : B ≤ m) (hc : c ≤ 900) (S : Say p m b n D L c M w) (h : Bk K 72 o.cells w) (hBK : B ≤ K) (ok : TNum o) (hv : o.lv = true) :
    Calls Tryz.prog 22 #[.pointer (some ⟨K, 0, none⟩), .pointer (some ⟨b, 0, none⟩)] w (OdS B p m b n c D M.s K [K] (leaveX o M).1.cells (leaveX o M).2 w) := by
  obtain ⟨lv, ln, oth, oe, oow, ob, oi, ok', owd⟩ := o
  obtain ⟨h1, h2, _, _, hj⟩ := ok
  replace hj := hj hv
  simp only at hv h1 h2 hj
  subst hv
  refine st_leave h ?_ (fun ee w' h => h.1)
  unfold LNum at hj
  unfold leaveX
  dsimp only
  obtain rfl | rfl | rfl | rfl | rfl | rfl | rfl : ln = 0 ∨ ln = 1 ∨ ln = 2 ∨ ln = 3 ∨ ln = 4 ∨ ln = 5 ∨ ln = 6 := by omega
  · rw [if_neg (show ¬ (0 : Int) = 1 by decide), if_neg (show ¬ (0 : Int) = 2 by decide), if_neg (show ¬ (0 : Int) = 3 by decide), if_neg (show ¬ (0 : Int) = 4 by decide), if_neg (show ¬ (0 : Int) = 5 by decide), if_neg (show ¬ (0 : Int) = 6 by decide)]
    exact l0 hBm hc S h hBK
  · rw [if_pos rfl]
    have ht : 0 ≤ oth ∧ oth < 16 := by omega
    by_cases h0 : M.V (adT oth 0) = 0
    · rw [if_pos h0]
      exact l1_none hBm hc S h hBK ht h0
    · rw [if_neg h0]
      exact l1_on hBm hc S h hBK ht rfl h0
  · rw [if_neg (show ¬ (2 : Int) = 1 by decide), if_pos rfl]
    have ht : 0 ≤ oth ∧ oth < 16 := by omega
    by_cases h0 : M.V (adT oth 1) = 0
    · rw [if_pos h0]
      exact l2_on hBm hc S h hBK ht h0
    · rw [if_neg h0]
      exact l2_bad hBm hc S h hBK ht rfl h0
  · rw [if_neg (show ¬ (3 : Int) = 1 by decide), if_neg (show ¬ (3 : Int) = 2 by decide), if_pos rfl]
    have ht : 0 ≤ oth ∧ oth < 16 := by omega
    exact l3 hBm hc S h hBK ht
  · rw [if_neg (show ¬ (4 : Int) = 1 by decide), if_neg (show ¬ (4 : Int) = 2 by decide), if_neg (show ¬ (4 : Int) = 3 by decide), if_pos rfl]
    have ht : 0 ≤ oth ∧ oth < 16 := by omega
    exact l4 hBm hc S h hBK ht
  · rw [if_neg (show ¬ (5 : Int) = 1 by decide), if_neg (show ¬ (5 : Int) = 2 by decide), if_neg (show ¬ (5 : Int) = 3 by decide), if_neg (show ¬ (5 : Int) = 4 by decide), if_pos rfl]
    have hi : 0 ≤ oi ∧ oi < 4 := by omega
    exact l5 hBm hc S h hBK hi rfl
  · rw [if_neg (show ¬ (6 : Int) = 1 by decide), if_neg (show ¬ (6 : Int) = 2 by decide), if_neg (show ¬ (6 : Int) = 3 by decide), if_neg (show ¬ (6 : Int) = 4 by decide), if_neg (show ¬ (6 : Int) = 5 by decide), if_pos rfl]
    have hi : 0 ≤ oi ∧ oi < 4 := by omega
    by_cases hq : casV M.V (adK oi) owd = true
    · rw [if_pos hq]
      exact l6_yes hBm hc S h hBK hi h2 hq
    · rw [if_neg hq]
      have hq2 : casV M.V (adK oi) owd = false := by simpa using hq
      exact l6_no hBm hc S h hBK hi h2 hq2
theorem ref_step (hBm : B ≤ m) (hc : c ≤ 900) (S : Say p m b n D L c M w) (h : Bk K 72 o.cells w) (hBK : B ≤ K) (ok : TNum o) :
    Calls Tryz.prog 22 #[.pointer (some ⟨K, 0, none⟩), .pointer (some ⟨b, 0, none⟩)] w (OdS B p m b n c D M.s K [K] (tX o M).1.cells (tX o M).2 w) := by
  cases hv : o.lv
  · have e : tX o M = joinX o M := by unfold tX; rw [if_neg (by rw [hv]; decide)]
    rw [e]
    exact ref_join hBm hc S h hBK ok hv
  · have e : tX o M = leaveX o M := by unfold tX; rw [if_pos hv]
    rw [e]
    exact ref_leave hBm hc S h hBK ok hv
/-- An operation of the law's: what it is (0: a Join, 1: a Leave), its block, the document's. -/
structure JO where
  kd : Nat
  q : Nat
  K : Nat
def JO.fp (x : JO) : List Nat := [x.q, x.K]
def JBk (B : Nat) (x : JO) (o : TO) (w : World) : Prop := TNum o ∧ ((x.kd = 0 ∧ o.lv = false) ∨ (x.kd = 1 ∧ o.lv = true)) ∧ PRep x.q o w ∧ Bk x.K 72 o.cells w ∧ B ≤ x.q ∧ B ≤ x.K
def JAt (B : Nat) (x : JO) (w : World) : Prop := ∃ o, JBk B x o w
def JO.sub (x x' : JO) (n : Nat) : Prop := x'.kd = x.kd ∧ x'.q = x.q ∧ x'.K = x.K ∧ ∀ y ∈ x'.fp, y ∈ x.fp ∨ n ≤ y
theorem JO.sub_refl (x : JO) (n : Nat) : x.sub x n := ⟨rfl, rfl, rfl, fun _ h => .inl h⟩
theorem PRep.ownX {q : Nat} (h : PRep q o w) (hB : B ≤ q) : OwnX B q w := by
  rcases h with ⟨_, bl, th, wd, en, ow, bs, fd, jd, k, _⟩ | ⟨_, bl, th, wd, en, k, _⟩
  · exact ⟨hB, _, _, k, by decide⟩
  · exact ⟨hB, _, _, k, by decide⟩
theorem PRep.neK {q : Nat} {cs : List Value} (h : PRep q o w) (k : Bk K 72 cs w) : q ≠ K := by
  rcases h with ⟨_, bl, th, wd, en, ow, bs, fd, jd, g, _⟩ | ⟨_, bl, th, wd, en, g, _⟩
  · exact g.ne (show Bq K 72 cs w from k) (by decide)
  · exact g.ne (show Bq K 72 cs w from k) (by decide)
theorem JBk.own {x : JO} (h : JBk B x o w) : ∀ y ∈ x.fp, OwnX B y w := fun y hy => by
  simp only [JO.fp, List.mem_cons, List.not_mem_nil, or_false] at hy
  rcases hy with rfl | rfl
  · exact h.2.2.1.ownX h.2.2.2.2.1
  · exact ⟨h.2.2.2.2.2, _, _, show Bq _ 72 _ w from h.2.2.2.1, by decide⟩
theorem JBk.same {x : JO} (h : JBk B x o w) (hs : ∀ y ∈ x.fp, w'.heap[y]? = w.heap[y]?) : JBk B x o w' :=
  ⟨h.1, h.2.1, h.2.2.1.same (hs _ (by simp [JO.fp])), h.2.2.2.1.same (hs _ (by simp [JO.fp])), h.2.2.2.2⟩
theorem JAt.own {x : JO} (h : JAt B x w) : ∀ y ∈ x.fp, OwnX B y w := by obtain ⟨o, h⟩ := h; exact h.own
theorem JAt.same {x : JO} (h : JAt B x w) (hs : ∀ y ∈ x.fp, w'.heap[y]? = w.heap[y]?) : JAt B x w' := by obtain ⟨o, h⟩ := h; exact ⟨o, h.same hs⟩
theorem JBk.below {x : JO} (h : JBk B x o w) (hb : Below w.heap.size w w') : JBk B x o w' := h.same fun y hy => hb.block y (h.own y hy).lt
theorem JAt.below {x : JO} (h : JAt B x w) (hb : Below w.heap.size w w') : JAt B x w' := by obtain ⟨o, h⟩ := h; exact ⟨o, h.below hb⟩
theorem tX_lv (o : TO) (M : MV) : (tX o M).1.lv = o.lv := by
  unfold tX leaveX joinX
  repeat' split
  all_goals rfl
/-- Behind both steps. -/
def JDone (B p m b c : Nat) (x : JO) (o' : TO) (w : World) (ee : Ending) (w2 : World) : Prop := ee = .returned (.bool (o'.ln == 0)) ∧ FxL B p b x.fp w w2 ∧ Both p m b (c + 1) w2 ∧ JBk B x o' w2
set_option maxHeartbeats 4000000 in
theorem joint {x : JO} (hB : 1 < B) (hBm : B ≤ m) (hc : c ≤ 900) (hb : Both p m b c w) (hl : Lay w) (hlm : LayM w) (J : JBk B x o w) :
    ∃ o', o'.lv = o.lv ∧ Calls Tryz.prog 22 #[.pointer (some ⟨x.K, 0, none⟩), .pointer (some ⟨b, 0, none⟩)] w fun ee w1 => ee = .returned (.tuple #[]) ∧ FxL B p b x.fp w w1 ∧ w1.cell? ⟨x.K, 1, none⟩ = some (.int .i64 o'.ln) ∧ w1.cell? ⟨x.K, 2, none⟩ = some (.int .i64 o'.th) ∧ w1.cell? ⟨x.K, 3, none⟩ = some (.int .i64 o'.e) ∧
      ∀ X, Below w1.heap.size w1 X → Calls Tryz.prog (fnS o'.lv) #[.pointer (some ⟨x.q, 0, none⟩), .pointer (some ⟨p, 0, none⟩)] X (JDone B p m b c x o' w) := by
  obtain ⟨n, D, L, M, S, hn, hs⟩ := hb.say hc
  have own := J.own
  obtain ⟨ok, hkd, Q, d, hq, hK⟩ := J
  have hqK := Q.neK d
  have hBw : B ≤ w.heap.size := Nat.le_trans hBm S.pr.m_le
  have inq : x.q ∈ x.fp := by simp [JO.fp]
  have inK : x.K ∈ x.fp := by simp [JO.fp]
  refine ⟨(tX o M).1, tX_lv o M, (ref_step hBm hc S d hK ok).mono ?_⟩
  rintro ee w0 ⟨rfl, L', A', O0⟩
  have f0 : FxL B p b x.fp w w0 := O0.f.more (fun y hy => by simp only [List.mem_cons, List.not_mem_nil, or_false] at hy; rw [hy]; exact inK)
  have hc9 := O0.k.c9
  refine ⟨rfl, f0, hc9.2.1, hc9.2.2.1, hc9.2.2.2.1, fun w1 hX => ?_⟩
  have f1 := f0.trans (.of_below hX (Nat.le_trans hBw f0.low.size))
  have f1K := O0.f.trans (.of_below hX (Nat.le_trans hBw f0.low.size))
  have P1 := O0.pr.below hX
  have d1 := O0.k.below hX
  have hsz := f1.low.size
  have sq : w1.heap[x.q]? = w.heap[x.q]? := (own x.q inq).fxl S.pr f1K (by simpa using hqK)
  have oq1 : OwnX B x.q w1 := (own x.q inq).same sq
  have F := S.vx hn P1 (f1.lay hB hl) (f1.laym hB hlm) (by omega)
  rw [tX_lv]
  refine (prg_step (by omega) F S.st1 ok (Q.same sq)).mono ?_
  rintro ee w2 ⟨rfl, Q', F2, on⟩
  have oK1 : OwnX B x.K w1 := ⟨hK, _, _, show Bq _ 72 _ w1 from d1, by decide⟩
  have sK : w2.heap[x.K]? = w1.heap[x.K]? := oK1.onl F on (by simpa using Ne.symm hqK)
  have f2 := (onl_fxl on F (B := B) (b := b) (by have := P1.mp; omega) hBm (fun y hy => by simp only [List.mem_cons, List.not_mem_nil, or_false] at hy; omega) (by omega)).more (E' := x.fp) (fun y hy => by simp only [List.mem_cons, List.not_mem_nil, or_false] at hy; rw [hy]; exact inq)
  have hst := tX_st o M
  refine ⟨rfl, f1.trans f2, Both.of_vx P1 A' F2 on (fun y hy => by simp only [List.mem_cons, List.not_mem_nil, or_false] at hy; rw [hy]; exact oq1) (by push_cast; omega), ok.step S.u64, ?_, Q', d1.same sK, hq, hK⟩
  rw [tX_lv]
  exact hkd
end
end Go.Proofs.YtodfjnpnfalioaaGreatDoor
