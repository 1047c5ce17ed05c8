/-
  The document's taker, line by line; condition: both memories say the same, the taker lies as it says.
-/
import Derived.Test.YtapcgikamldchaaDoorSD0
import Derived.Deep.DeepCutAuto
import Derived.Deep.RegionHeld3
namespace Go.Proofs.YtapcgikamldchaaDoor
open Go.RowKit Go.Maps

section
variable {B p m b n c K : Nat} {D : DataW Unit} {s8 : Acc8} {L : List (Ad × Int)} {M : MV} {w w' : World} {v : Value} {l r : List TH} {t : TH} {bl : Int}
theorem OwnH.cellAt {g N C : Nat} (h : OwnH w B (.slice (some ⟨g, 0, none⟩) N C) l) {k f : Nat} (hk : k < l.length) (hf : f < 10) : w.cell? ⟨g, k * 10 + f, none⟩ = some (.int .u64 ((l.getD k TH.zero).get f)) := by
  have h1 := h.see.at_ hk f hf
  rw [Nat.zero_add] at h1
  exact h1.trans (TH.cells_get _ hf)
theorem OwnH.free {g N C : Nat} (h : OwnH w B (.slice (some ⟨g, 0, none⟩) N C) l) (i : Nat) : w.frozen? ⟨g, i, none⟩ = false := by
  obtain ⟨_, cs, k⟩ := h.bq rfl
  exact k.free i
theorem OwnH.slice {v : Value} (h : OwnH w B v l) : ∃ A k, v = .slice A l.length k ∧ l.length ≤ k ∧ k ≤ 9223372036854775807 ∧ (0 < l.length → ∃ g, A = some ⟨g, 0, none⟩) := by
  obtain ⟨_, h⟩ := h
  rcases h with ⟨rfl, h0⟩ | ⟨g, cap, cur, rfl, _, hg, hc, hm, hs, ht⟩
  · exact ⟨none, 0, by rw [h0], by omega, by omega, fun k => by omega⟩
  · exact ⟨_, cap, rfl, hc, by unfold maxLen at hm; exact hm, fun _ => ⟨g, rfl⟩⟩
/-- What a line leaves. -/
def OdT (B p m b n c : Nat) (D : DataW Unit) (s8 : Acc8) (K : Nat) (v : Value) (s' : SG) (M' : MV) (w0 : World) (ee : Ending) (w' : World) : Prop :=
  ee = .returned (.tuple #[]) ∧ ∃ L' v', AftP L' (c + 1) M' ∧ OT B p m b n D s8 K (K :: v.ownBlock.toList) (RDt s' v') v' s'.l L' M'.s w0 w' ∧ (∀ x, v'.ownBlock = some x → v.ownBlock = some x ∨ w0.heap.size ≤ x)
theorem getD_last : (r ++ [t]).getD r.length TH.zero = t := by simp
set_option maxRecDepth 100000 in
set_option maxHeartbeats 4000000 in
theorem tk_over {fd : Nat} (hBm : B ≤ m) (S : Say p m b n D L c M w) (h : Bk K 38 (RDt ⟨0, l, bl, fd⟩ v) w) (R : OwnH w B v l) :
    Calls Tryd.prog 14 #[.pointer (some ⟨K, 0, none⟩), .pointer (some ⟨b, 0, none⟩)] w (OdT B p m b n c D M.s K v ⟨0, l, bl, fd⟩ M w) := by
  have hc0 := h.cell 0
  simp only [RDt, List.getElem?_cons_zero] at hc0
  have HS := Lib.hid (S.aft)
  have HO := Lib.hid (OT.start (E := K :: v.ownBlock.toList) h R S.pr (Nat.le_trans hBm S.pr.m_le))
  clear h R S hBm
  go_enter Tryd.func14, Tryd.ntmps14
  go_wp2_with fail
  go_end0
  exact ⟨rfl, _, _, HS.out, HO.out, fun _ h => .inl h⟩
set_option maxRecDepth 100000 in
set_option maxHeartbeats 4000000 in
theorem tk_one (hBm : B ≤ m) (hc : c ≤ 900) (S : Say p m b n D L c M w) (h : Bk K 38 (RDt SG.new v) w) (R : OwnH w B v []) (hBK : B ≤ K) :
    Calls Tryd.prog 14 #[.pointer (some ⟨K, 0, none⟩), .pointer (some ⟨b, 0, none⟩)] w (OdT B p m b n c D M.s K v (oneS (M.V adN)) (ldM M adN) w) := by
  have hu := S.u64 adN
  have hc0 := h.cell 0
  simp only [RDt, SG.new, List.getElem?_cons_zero] at hc0
  have HA := Lib.hid (S.aftLd adN)
  have HO := Lib.hid (OT.start (E := K :: v.ownBlock.toList) h R S.pr (Nat.le_trans hBm S.pr.m_le))
  have HS := Lib.hid S
  clear h R S
  go_enter Tryd.func14, Tryd.ntmps14
  go_wp2_with fail
  ((with_reducible refine (HS.out.ldD (x := adN) (k := 5) (a := 0) (f := 0) hc ⟨rfl, rfl, rfl⟩ rfl HO.out.pr).mono ?_); rintro ee w1 ⟨rfl, P1, f1⟩)
  have HO1 := Lib.hid (HO.out.fr hBm P1 f1)
  clear P1 f1 hc0
  generalize M.V adN = x at *
  have hx0 := hu.1
  have k0 := HO1.out.k.cell 0
  have k3 := HO1.out.k.cell 3
  have z0 := HO1.out.k.free 0
  have z3 := HO1.out.k.free 3
  simp only [RDt, SG.new, List.getElem?_cons_zero, List.getElem?_cons_succ] at k0 k3
  by_cases h4 : 4 < x
  · have e : oneS x = ⟨2, [], 4, 0⟩ := by
      unfold oneS
      rw [if_neg (by omega), show min x 4 = 4 by omega]
    have HE := Lib.hid e
    clear e
    go_wp2_with fail
    go_end0
    rw [HE.out]
    exact ⟨rfl, _, _, HA.out, (HO1.out.set hBK (by simp) 3 (.int .i64 4) rfl).set hBK (by simp) 0 (.int .i64 2) rfl, fun _ h => .inl h⟩
  · have hle : x ≤ 4 := by omega
    have hwr : IntKind.i64.wrap x = x := by simp [IntKind.wrap, IntKind.bits, IntKind.signed]; omega
    by_cases h0 : x = 0
    · subst h0
      have e : oneS 0 = ⟨0, [], 0, 0⟩ := by unfold oneS; rw [if_pos (by decide)]
      have HE := Lib.hid e
      clear e
      go_wp2_with fail
      go_end0
      rw [HE.out]
      exact ⟨rfl, _, _, HA.out, ((HO1.out.set hBK (by simp) 3 (.int .i64 0) rfl).set hBK (by simp) 0 (.int .i64 2) rfl).set hBK (by simp) 0 (.int .i64 0) rfl, fun _ h => .inl h⟩
    · have e : oneS x = ⟨2, [], x, 0⟩ := by
        unfold oneS
        rw [if_neg (by omega), show min x 4 = x by omega]
      have HE := Lib.hid e
      clear e
      go_wp2_with fail
      go_end0
      rw [HE.out]
      exact ⟨rfl, _, _, HA.out, (HO1.out.set hBK (by simp) 3 (.int .i64 x) rfl).set hBK (by simp) 0 (.int .i64 2) rfl, fun _ h => .inl h⟩
set_option maxRecDepth 100000 in
set_option maxHeartbeats 8000000 in
theorem tk_1 {g C : Nat} (hBm : B ≤ m) (hc : c ≤ 900) (S : Say p m b n D L c M w) (h : Bk K 38 (RDt ⟨2, r ++ [t], bl, 1⟩ (.slice (some ⟨g, 0, none⟩) (r ++ [t]).length C)) w) (R : OwnH w B (.slice (some ⟨g, 0, none⟩) (r ++ [t]).length C) (r ++ [t])) (hBK : B ≤ K) (hk : r.length < 16) (hb : 0 ≤ bl ∧ bl ≤ 4) (ho : t.o ≠ 0) :
    Calls Tryd.prog 14 #[.pointer (some ⟨K, 0, none⟩), .pointer (some ⟨b, 0, none⟩)] w (OdT B p m b n c D M.s K (.slice (some ⟨g, 0, none⟩) (r ++ [t]).length C) (twoS ⟨2, r ++ [t], bl, 1⟩ (M.V (adT (r.length : Int) 1))) (ldM M (adT (r.length : Int) 1)) w) := by
  have HA := Lib.hid (S.aftLd (adT (r.length : Int) 1))
  have hNl : (r ++ [t]).length = r.length + 1 := by simp
  have HO := Lib.hid (OT.start (E := K :: (Value.slice (some ⟨g, 0, none⟩) (r ++ [t]).length C).ownBlock.toList) h R S.pr (Nat.le_trans hBm S.pr.m_le))
  have HS := Lib.hid S
  have HC := Lib.hid (show (r ++ [t]).length ≤ C ∧ C ≤ 9223372036854775807 by obtain ⟨A, k, e, h1, h2, _⟩ := R.slice; injection e with _ _ e3; subst e3; exact ⟨h1, h2⟩)
  obtain ⟨c1, c2⟩ := HC.out
  have gK : ¬ g = K := fun e => by
    obtain ⟨_, cs, k⟩ := R.bq rfl
    exact k.ne (show Bq K _ _ w from h) (by decide) e
  have Kg : ¬ K = g := fun e => gK e.symm
  have hc0 := h.cell 0
  have hc1 := h.cell 1
  have hc4 := h.cell 4
  simp only [RDt, List.getElem?_cons_zero, List.getElem?_cons_succ] at hc0 hc1 hc4
  obtain ⟨N, hN⟩ : ∃ N, N = (r ++ [t]).length := ⟨_, rfl⟩
  obtain ⟨k, hkk⟩ : ∃ k, k = r.length := ⟨_, rfl⟩
  have HN := Lib.hid hN
  have HKK := Lib.hid hkk
  have e10 : (N : Int) - 1 = (k : Int) := by omega
  have w10 : IntKind.i64.wrap (k : Int) = (k : Int) := by simp [IntKind.wrap, IntKind.bits, IntKind.signed]; omega
  have q10 : (k : Int) < (N : Int) := by omega
  have p10 : (0 : Int) ≤ (k : Int) := by omega
  have hk16 : k < 16 := by omega
  have w11 : IntKind.i64.wrap ((k : Int) + 1) = (k : Int) + 1 := by simp [IntKind.wrap, IntKind.bits, IntKind.signed]; omega
  have w12 : IntKind.i64.wrap (4 * bl) = 4 * bl := by simp [IntKind.wrap, IntKind.bits, IntKind.signed]; omega
  rw [← hkk] at HA ⊢
  rw [← hN] at hc1 HO c1 ⊢
  have hcN : (N : Int) ≤ (C : Int) := by omega
  clear h R S hNl hN hkk HC hk
  go_enter Tryd.func14, Tryd.ntmps14
  go_wp2_with fail
  ((with_reducible refine (HS.out.ldD (x := adT (k : Int) 1) hc (adT_at (by omega) (by decide)) rfl HO.out.pr).mono ?_); rintro ee w1 ⟨rfl, P1, f1⟩)
  have HO1 := Lib.hid (HO.out.fr hBm P1 f1)
  clear P1 f1 hc0 hc1 hc4
  generalize M.V (adT (k : Int) 1) = x at *
  have k1 := HO1.out.k.cell 1
  have k4 := HO1.out.k.cell 4
  have yf := HO1.out.row.cellAt (k := k) (f := 1) (by rw [← HN.out]; omega) (by decide)
  have zf := HO1.out.row.free (k * 10 + 1)
  simp only [RDt, List.getElem?_cons_zero, List.getElem?_cons_succ] at k1 k4
  go_upto_region 35 with (fail)
  have HO2 := Lib.hid (HO1.out.put (by simp [Value.ownBlock]) (j := k) (f := 1) (by rw [← HN.out]; omega) (by decide) x)
  clear k1 k4 yf zf HO1
  generalize w1.setCell ⟨g, k * 10 + 1, none⟩ (.int .u64 x) = w2 at *
  have hrow : (r ++ [t]).set k (((r ++ [t]).getD k TH.zero).set 1 x) = r ++ [t.set 1 x] := by rw [HKK.out, getD_last, row_set]
  have HR := Lib.hid hrow
  rw [hrow] at HO2
  have k0 := HO2.out.k.cell 0
  have k3 := HO2.out.k.cell 3
  have k4 := HO2.out.k.cell 4
  have z0 := HO2.out.k.free 0
  have z4 := HO2.out.k.free 4
  simp only [RDt, List.getElem?_cons_zero, List.getElem?_cons_succ] at k0 k3 k4
  have hto : (t.set 1 x).o = t.o := set_o (by decide) (by decide) x
  have yo : w2.cell? ⟨g, k * 10, none⟩ = some (.int .u64 t.o) := by
    have h1 := HO2.out.row.cellAt (k := k) (f := 0) (by have := HN.out; simp at this ⊢; omega) (by decide)
    rw [HKK.out, getD_last] at h1
    rw [← HKK.out] at h1
    exact h1.trans (by rw [TH.get_o, hto])
  have HTO := Lib.hid hto
  clear hrow hto
  have e : twoS ⟨2, r ++ [t], bl, 1⟩ x = ⟨2, r ++ [t.set 1 x], bl, 2⟩ := two_more (by decide) (by decide) ho
  have HE := Lib.hid e
  clear e
  go_wp2_with fail
  go_end0
  rw [HE.out]
  exact ⟨rfl, _, _, HA.out, HO2.out.set hBK (by simp) 4 (.int .i64 2) rfl, fun _ h => .inl h⟩
set_option maxRecDepth 100000 in
set_option maxHeartbeats 8000000 in
theorem tk_2 {g C : Nat} (hBm : B ≤ m) (hc : c ≤ 900) (S : Say p m b n D L c M w) (h : Bk K 38 (RDt ⟨2, r ++ [t], bl, 2⟩ (.slice (some ⟨g, 0, none⟩) (r ++ [t]).length C)) w) (R : OwnH w B (.slice (some ⟨g, 0, none⟩) (r ++ [t]).length C) (r ++ [t])) (hBK : B ≤ K) (hk : r.length < 16) (hb : 0 ≤ bl ∧ bl ≤ 4) (ho : t.o ≠ 0) :
    Calls Tryd.prog 14 #[.pointer (some ⟨K, 0, none⟩), .pointer (some ⟨b, 0, none⟩)] w (OdT B p m b n c D M.s K (.slice (some ⟨g, 0, none⟩) (r ++ [t]).length C) (twoS ⟨2, r ++ [t], bl, 2⟩ (M.V (adT (r.length : Int) 2))) (ldM M (adT (r.length : Int) 2)) w) := by
  have HA := Lib.hid (S.aftLd (adT (r.length : Int) 2))
  have hNl : (r ++ [t]).length = r.length + 1 := by simp
  have HO := Lib.hid (OT.start (E := K :: (Value.slice (some ⟨g, 0, none⟩) (r ++ [t]).length C).ownBlock.toList) h R S.pr (Nat.le_trans hBm S.pr.m_le))
  have HS := Lib.hid S
  have HC := Lib.hid (show (r ++ [t]).length ≤ C ∧ C ≤ 9223372036854775807 by obtain ⟨A, k, e, h1, h2, _⟩ := R.slice; injection e with _ _ e3; subst e3; exact ⟨h1, h2⟩)
  obtain ⟨c1, c2⟩ := HC.out
  have gK : ¬ g = K := fun e => by
    obtain ⟨_, cs, k⟩ := R.bq rfl
    exact k.ne (show Bq K _ _ w from h) (by decide) e
  have Kg : ¬ K = g := fun e => gK e.symm
  have hc0 := h.cell 0
  have hc1 := h.cell 1
  have hc4 := h.cell 4
  simp only [RDt, List.getElem?_cons_zero, List.getElem?_cons_succ] at hc0 hc1 hc4
  obtain ⟨N, hN⟩ : ∃ N, N = (r ++ [t]).length := ⟨_, rfl⟩
  obtain ⟨k, hkk⟩ : ∃ k, k = r.length := ⟨_, rfl⟩
  have HN := Lib.hid hN
  have HKK := Lib.hid hkk
  have e10 : (N : Int) - 1 = (k : Int) := by omega
  have w10 : IntKind.i64.wrap (k : Int) = (k : Int) := by simp [IntKind.wrap, IntKind.bits, IntKind.signed]; omega
  have q10 : (k : Int) < (N : Int) := by omega
  have p10 : (0 : Int) ≤ (k : Int) := by omega
  have hk16 : k < 16 := by omega
  have w11 : IntKind.i64.wrap ((k : Int) + 1) = (k : Int) + 1 := by simp [IntKind.wrap, IntKind.bits, IntKind.signed]; omega
  have w12 : IntKind.i64.wrap (4 * bl) = 4 * bl := by simp [IntKind.wrap, IntKind.bits, IntKind.signed]; omega
  rw [← hkk] at HA ⊢
  rw [← hN] at hc1 HO c1 ⊢
  have hcN : (N : Int) ≤ (C : Int) := by omega
  clear h R S hNl hN hkk HC hk
  go_enter Tryd.func14, Tryd.ntmps14
  go_wp2_with fail
  ((with_reducible refine (HS.out.ldD (x := adT (k : Int) 2) hc (adT_at (by omega) (by decide)) rfl HO.out.pr).mono ?_); rintro ee w1 ⟨rfl, P1, f1⟩)
  have HO1 := Lib.hid (HO.out.fr hBm P1 f1)
  clear P1 f1 hc0 hc1 hc4
  generalize M.V (adT (k : Int) 2) = x at *
  have k1 := HO1.out.k.cell 1
  have k4 := HO1.out.k.cell 4
  have yf := HO1.out.row.cellAt (k := k) (f := 2) (by rw [← HN.out]; omega) (by decide)
  have zf := HO1.out.row.free (k * 10 + 2)
  simp only [RDt, List.getElem?_cons_zero, List.getElem?_cons_succ] at k1 k4
  go_upto_region 35 with (fail)
  have HO2 := Lib.hid (HO1.out.put (by simp [Value.ownBlock]) (j := k) (f := 2) (by rw [← HN.out]; omega) (by decide) x)
  clear k1 k4 yf zf HO1
  generalize w1.setCell ⟨g, k * 10 + 2, none⟩ (.int .u64 x) = w2 at *
  have hrow : (r ++ [t]).set k (((r ++ [t]).getD k TH.zero).set 2 x) = r ++ [t.set 2 x] := by rw [HKK.out, getD_last, row_set]
  have HR := Lib.hid hrow
  rw [hrow] at HO2
  have k0 := HO2.out.k.cell 0
  have k3 := HO2.out.k.cell 3
  have k4 := HO2.out.k.cell 4
  have z0 := HO2.out.k.free 0
  have z4 := HO2.out.k.free 4
  simp only [RDt, List.getElem?_cons_zero, List.getElem?_cons_succ] at k0 k3 k4
  have hto : (t.set 2 x).o = t.o := set_o (by decide) (by decide) x
  have yo : w2.cell? ⟨g, k * 10, none⟩ = some (.int .u64 t.o) := by
    have h1 := HO2.out.row.cellAt (k := k) (f := 0) (by have := HN.out; simp at this ⊢; omega) (by decide)
    rw [HKK.out, getD_last] at h1
    rw [← HKK.out] at h1
    exact h1.trans (by rw [TH.get_o, hto])
  have HTO := Lib.hid hto
  clear hrow hto
  have e : twoS ⟨2, r ++ [t], bl, 2⟩ x = ⟨2, r ++ [t.set 2 x], bl, 3⟩ := two_more (by decide) (by decide) ho
  have HE := Lib.hid e
  clear e
  go_wp2_with fail
  go_end0
  rw [HE.out]
  exact ⟨rfl, _, _, HA.out, HO2.out.set hBK (by simp) 4 (.int .i64 3) rfl, fun _ h => .inl h⟩
set_option maxRecDepth 100000 in
set_option maxHeartbeats 8000000 in
theorem tk_3 {g C : Nat} (hBm : B ≤ m) (hc : c ≤ 900) (S : Say p m b n D L c M w) (h : Bk K 38 (RDt ⟨2, r ++ [t], bl, 3⟩ (.slice (some ⟨g, 0, none⟩) (r ++ [t]).length C)) w) (R : OwnH w B (.slice (some ⟨g, 0, none⟩) (r ++ [t]).length C) (r ++ [t])) (hBK : B ≤ K) (hk : r.length < 16) (hb : 0 ≤ bl ∧ bl ≤ 4) (ho : t.o ≠ 0) :
    Calls Tryd.prog 14 #[.pointer (some ⟨K, 0, none⟩), .pointer (some ⟨b, 0, none⟩)] w (OdT B p m b n c D M.s K (.slice (some ⟨g, 0, none⟩) (r ++ [t]).length C) (twoS ⟨2, r ++ [t], bl, 3⟩ (M.V (adT (r.length : Int) 3))) (ldM M (adT (r.length : Int) 3)) w) := by
  have HA := Lib.hid (S.aftLd (adT (r.length : Int) 3))
  have hNl : (r ++ [t]).length = r.length + 1 := by simp
  have HO := Lib.hid (OT.start (E := K :: (Value.slice (some ⟨g, 0, none⟩) (r ++ [t]).length C).ownBlock.toList) h R S.pr (Nat.le_trans hBm S.pr.m_le))
  have HS := Lib.hid S
  have HC := Lib.hid (show (r ++ [t]).length ≤ C ∧ C ≤ 9223372036854775807 by obtain ⟨A, k, e, h1, h2, _⟩ := R.slice; injection e with _ _ e3; subst e3; exact ⟨h1, h2⟩)
  obtain ⟨c1, c2⟩ := HC.out
  have gK : ¬ g = K := fun e => by
    obtain ⟨_, cs, k⟩ := R.bq rfl
    exact k.ne (show Bq K _ _ w from h) (by decide) e
  have Kg : ¬ K = g := fun e => gK e.symm
  have hc0 := h.cell 0
  have hc1 := h.cell 1
  have hc4 := h.cell 4
  simp only [RDt, List.getElem?_cons_zero, List.getElem?_cons_succ] at hc0 hc1 hc4
  obtain ⟨N, hN⟩ : ∃ N, N = (r ++ [t]).length := ⟨_, rfl⟩
  obtain ⟨k, hkk⟩ : ∃ k, k = r.length := ⟨_, rfl⟩
  have HN := Lib.hid hN
  have HKK := Lib.hid hkk
  have e10 : (N : Int) - 1 = (k : Int) := by omega
  have w10 : IntKind.i64.wrap (k : Int) = (k : Int) := by simp [IntKind.wrap, IntKind.bits, IntKind.signed]; omega
  have q10 : (k : Int) < (N : Int) := by omega
  have p10 : (0 : Int) ≤ (k : Int) := by omega
  have hk16 : k < 16 := by omega
  have w11 : IntKind.i64.wrap ((k : Int) + 1) = (k : Int) + 1 := by simp [IntKind.wrap, IntKind.bits, IntKind.signed]; omega
  have w12 : IntKind.i64.wrap (4 * bl) = 4 * bl := by simp [IntKind.wrap, IntKind.bits, IntKind.signed]; omega
  rw [← hkk] at HA ⊢
  rw [← hN] at hc1 HO c1 ⊢
  have hcN : (N : Int) ≤ (C : Int) := by omega
  clear h R S hNl hN hkk HC hk
  go_enter Tryd.func14, Tryd.ntmps14
  go_wp2_with fail
  ((with_reducible refine (HS.out.ldD (x := adT (k : Int) 3) hc (adT_at (by omega) (by decide)) rfl HO.out.pr).mono ?_); rintro ee w1 ⟨rfl, P1, f1⟩)
  have HO1 := Lib.hid (HO.out.fr hBm P1 f1)
  clear P1 f1 hc0 hc1 hc4
  generalize M.V (adT (k : Int) 3) = x at *
  have k1 := HO1.out.k.cell 1
  have k4 := HO1.out.k.cell 4
  have yf := HO1.out.row.cellAt (k := k) (f := 3) (by rw [← HN.out]; omega) (by decide)
  have zf := HO1.out.row.free (k * 10 + 3)
  simp only [RDt, List.getElem?_cons_zero, List.getElem?_cons_succ] at k1 k4
  go_upto_region 35 with (fail)
  have HO2 := Lib.hid (HO1.out.put (by simp [Value.ownBlock]) (j := k) (f := 3) (by rw [← HN.out]; omega) (by decide) x)
  clear k1 k4 yf zf HO1
  generalize w1.setCell ⟨g, k * 10 + 3, none⟩ (.int .u64 x) = w2 at *
  have hrow : (r ++ [t]).set k (((r ++ [t]).getD k TH.zero).set 3 x) = r ++ [t.set 3 x] := by rw [HKK.out, getD_last, row_set]
  have HR := Lib.hid hrow
  rw [hrow] at HO2
  have k0 := HO2.out.k.cell 0
  have k3 := HO2.out.k.cell 3
  have k4 := HO2.out.k.cell 4
  have z0 := HO2.out.k.free 0
  have z4 := HO2.out.k.free 4
  simp only [RDt, List.getElem?_cons_zero, List.getElem?_cons_succ] at k0 k3 k4
  have hto : (t.set 3 x).o = t.o := set_o (by decide) (by decide) x
  have yo : w2.cell? ⟨g, k * 10, none⟩ = some (.int .u64 t.o) := by
    have h1 := HO2.out.row.cellAt (k := k) (f := 0) (by have := HN.out; simp at this ⊢; omega) (by decide)
    rw [HKK.out, getD_last] at h1
    rw [← HKK.out] at h1
    exact h1.trans (by rw [TH.get_o, hto])
  have HTO := Lib.hid hto
  clear hrow hto
  have e : twoS ⟨2, r ++ [t], bl, 3⟩ x = ⟨2, r ++ [t.set 3 x], bl, 4⟩ := two_more (by decide) (by decide) ho
  have HE := Lib.hid e
  clear e
  go_wp2_with fail
  go_end0
  rw [HE.out]
  exact ⟨rfl, _, _, HA.out, HO2.out.set hBK (by simp) 4 (.int .i64 4) rfl, fun _ h => .inl h⟩
set_option maxRecDepth 100000 in
set_option maxHeartbeats 8000000 in
theorem tk_4 {g C : Nat} (hBm : B ≤ m) (hc : c ≤ 900) (S : Say p m b n D L c M w) (h : Bk K 38 (RDt ⟨2, r ++ [t], bl, 4⟩ (.slice (some ⟨g, 0, none⟩) (r ++ [t]).length C)) w) (R : OwnH w B (.slice (some ⟨g, 0, none⟩) (r ++ [t]).length C) (r ++ [t])) (hBK : B ≤ K) (hk : r.length < 16) (hb : 0 ≤ bl ∧ bl ≤ 4) (ho : t.o ≠ 0) :
    Calls Tryd.prog 14 #[.pointer (some ⟨K, 0, none⟩), .pointer (some ⟨b, 0, none⟩)] w (OdT B p m b n c D M.s K (.slice (some ⟨g, 0, none⟩) (r ++ [t]).length C) (twoS ⟨2, r ++ [t], bl, 4⟩ (M.V (adT (r.length : Int) 4))) (ldM M (adT (r.length : Int) 4)) w) := by
  have HA := Lib.hid (S.aftLd (adT (r.length : Int) 4))
  have hNl : (r ++ [t]).length = r.length + 1 := by simp
  have HO := Lib.hid (OT.start (E := K :: (Value.slice (some ⟨g, 0, none⟩) (r ++ [t]).length C).ownBlock.toList) h R S.pr (Nat.le_trans hBm S.pr.m_le))
  have HS := Lib.hid S
  have HC := Lib.hid (show (r ++ [t]).length ≤ C ∧ C ≤ 9223372036854775807 by obtain ⟨A, k, e, h1, h2, _⟩ := R.slice; injection e with _ _ e3; subst e3; exact ⟨h1, h2⟩)
  obtain ⟨c1, c2⟩ := HC.out
  have gK : ¬ g = K := fun e => by
    obtain ⟨_, cs, k⟩ := R.bq rfl
    exact k.ne (show Bq K _ _ w from h) (by decide) e
  have Kg : ¬ K = g := fun e => gK e.symm
  have hc0 := h.cell 0
  have hc1 := h.cell 1
  have hc4 := h.cell 4
  simp only [RDt, List.getElem?_cons_zero, List.getElem?_cons_succ] at hc0 hc1 hc4
  obtain ⟨N, hN⟩ : ∃ N, N = (r ++ [t]).length := ⟨_, rfl⟩
  obtain ⟨k, hkk⟩ : ∃ k, k = r.length := ⟨_, rfl⟩
  have HN := Lib.hid hN
  have HKK := Lib.hid hkk
  have e10 : (N : Int) - 1 = (k : Int) := by omega
  have w10 : IntKind.i64.wrap (k : Int) = (k : Int) := by simp [IntKind.wrap, IntKind.bits, IntKind.signed]; omega
  have q10 : (k : Int) < (N : Int) := by omega
  have p10 : (0 : Int) ≤ (k : Int) := by omega
  have hk16 : k < 16 := by omega
  have w11 : IntKind.i64.wrap ((k : Int) + 1) = (k : Int) + 1 := by simp [IntKind.wrap, IntKind.bits, IntKind.signed]; omega
  have w12 : IntKind.i64.wrap (4 * bl) = 4 * bl := by simp [IntKind.wrap, IntKind.bits, IntKind.signed]; omega
  rw [← hkk] at HA ⊢
  rw [← hN] at hc1 HO c1 ⊢
  have hcN : (N : Int) ≤ (C : Int) := by omega
  clear h R S hNl hN hkk HC hk
  go_enter Tryd.func14, Tryd.ntmps14
  go_wp2_with fail
  ((with_reducible refine (HS.out.ldD (x := adT (k : Int) 4) hc (adT_at (by omega) (by decide)) rfl HO.out.pr).mono ?_); rintro ee w1 ⟨rfl, P1, f1⟩)
  have HO1 := Lib.hid (HO.out.fr hBm P1 f1)
  clear P1 f1 hc0 hc1 hc4
  generalize M.V (adT (k : Int) 4) = x at *
  have k1 := HO1.out.k.cell 1
  have k4 := HO1.out.k.cell 4
  have yf := HO1.out.row.cellAt (k := k) (f := 4) (by rw [← HN.out]; omega) (by decide)
  have zf := HO1.out.row.free (k * 10 + 4)
  simp only [RDt, List.getElem?_cons_zero, List.getElem?_cons_succ] at k1 k4
  go_upto_region 35 with (fail)
  have HO2 := Lib.hid (HO1.out.put (by simp [Value.ownBlock]) (j := k) (f := 4) (by rw [← HN.out]; omega) (by decide) x)
  clear k1 k4 yf zf HO1
  generalize w1.setCell ⟨g, k * 10 + 4, none⟩ (.int .u64 x) = w2 at *
  have hrow : (r ++ [t]).set k (((r ++ [t]).getD k TH.zero).set 4 x) = r ++ [t.set 4 x] := by rw [HKK.out, getD_last, row_set]
  have HR := Lib.hid hrow
  rw [hrow] at HO2
  have k0 := HO2.out.k.cell 0
  have k3 := HO2.out.k.cell 3
  have k4 := HO2.out.k.cell 4
  have z0 := HO2.out.k.free 0
  have z4 := HO2.out.k.free 4
  simp only [RDt, List.getElem?_cons_zero, List.getElem?_cons_succ] at k0 k3 k4
  have hto : (t.set 4 x).o = t.o := set_o (by decide) (by decide) x
  have yo : w2.cell? ⟨g, k * 10, none⟩ = some (.int .u64 t.o) := by
    have h1 := HO2.out.row.cellAt (k := k) (f := 0) (by have := HN.out; simp at this ⊢; omega) (by decide)
    rw [HKK.out, getD_last] at h1
    rw [← HKK.out] at h1
    exact h1.trans (by rw [TH.get_o, hto])
  have HTO := Lib.hid hto
  clear hrow hto
  have e : twoS ⟨2, r ++ [t], bl, 4⟩ x = ⟨2, r ++ [t.set 4 x], bl, 5⟩ := two_more (by decide) (by decide) ho
  have HE := Lib.hid e
  clear e
  go_wp2_with fail
  go_end0
  rw [HE.out]
  exact ⟨rfl, _, _, HA.out, HO2.out.set hBK (by simp) 4 (.int .i64 5) rfl, fun _ h => .inl h⟩
set_option maxRecDepth 100000 in
set_option maxHeartbeats 8000000 in
theorem tk_5 {g C : Nat} (hBm : B ≤ m) (hc : c ≤ 900) (S : Say p m b n D L c M w) (h : Bk K 38 (RDt ⟨2, r ++ [t], bl, 5⟩ (.slice (some ⟨g, 0, none⟩) (r ++ [t]).length C)) w) (R : OwnH w B (.slice (some ⟨g, 0, none⟩) (r ++ [t]).length C) (r ++ [t])) (hBK : B ≤ K) (hk : r.length < 16) (hb : 0 ≤ bl ∧ bl ≤ 4) (ho : t.o ≠ 0) :
    Calls Tryd.prog 14 #[.pointer (some ⟨K, 0, none⟩), .pointer (some ⟨b, 0, none⟩)] w (OdT B p m b n c D M.s K (.slice (some ⟨g, 0, none⟩) (r ++ [t]).length C) (twoS ⟨2, r ++ [t], bl, 5⟩ (M.V (adT (r.length : Int) 5))) (ldM M (adT (r.length : Int) 5)) w) := by
  have HA := Lib.hid (S.aftLd (adT (r.length : Int) 5))
  have hNl : (r ++ [t]).length = r.length + 1 := by simp
  have HO := Lib.hid (OT.start (E := K :: (Value.slice (some ⟨g, 0, none⟩) (r ++ [t]).length C).ownBlock.toList) h R S.pr (Nat.le_trans hBm S.pr.m_le))
  have HS := Lib.hid S
  have HC := Lib.hid (show (r ++ [t]).length ≤ C ∧ C ≤ 9223372036854775807 by obtain ⟨A, k, e, h1, h2, _⟩ := R.slice; injection e with _ _ e3; subst e3; exact ⟨h1, h2⟩)
  obtain ⟨c1, c2⟩ := HC.out
  have gK : ¬ g = K := fun e => by
    obtain ⟨_, cs, k⟩ := R.bq rfl
    exact k.ne (show Bq K _ _ w from h) (by decide) e
  have Kg : ¬ K = g := fun e => gK e.symm
  have hc0 := h.cell 0
  have hc1 := h.cell 1
  have hc4 := h.cell 4
  simp only [RDt, List.getElem?_cons_zero, List.getElem?_cons_succ] at hc0 hc1 hc4
  obtain ⟨N, hN⟩ : ∃ N, N = (r ++ [t]).length := ⟨_, rfl⟩
  obtain ⟨k, hkk⟩ : ∃ k, k = r.length := ⟨_, rfl⟩
  have HN := Lib.hid hN
  have HKK := Lib.hid hkk
  have e10 : (N : Int) - 1 = (k : Int) := by omega
  have w10 : IntKind.i64.wrap (k : Int) = (k : Int) := by simp [IntKind.wrap, IntKind.bits, IntKind.signed]; omega
  have q10 : (k : Int) < (N : Int) := by omega
  have p10 : (0 : Int) ≤ (k : Int) := by omega
  have hk16 : k < 16 := by omega
  have w11 : IntKind.i64.wrap ((k : Int) + 1) = (k : Int) + 1 := by simp [IntKind.wrap, IntKind.bits, IntKind.signed]; omega
  have w12 : IntKind.i64.wrap (4 * bl) = 4 * bl := by simp [IntKind.wrap, IntKind.bits, IntKind.signed]; omega
  rw [← hkk] at HA ⊢
  rw [← hN] at hc1 HO c1 ⊢
  have hcN : (N : Int) ≤ (C : Int) := by omega
  clear h R S hNl hN hkk HC hk
  go_enter Tryd.func14, Tryd.ntmps14
  go_wp2_with fail
  ((with_reducible refine (HS.out.ldD (x := adT (k : Int) 5) hc (adT_at (by omega) (by decide)) rfl HO.out.pr).mono ?_); rintro ee w1 ⟨rfl, P1, f1⟩)
  have HO1 := Lib.hid (HO.out.fr hBm P1 f1)
  clear P1 f1 hc0 hc1 hc4
  generalize M.V (adT (k : Int) 5) = x at *
  have k1 := HO1.out.k.cell 1
  have k4 := HO1.out.k.cell 4
  have yf := HO1.out.row.cellAt (k := k) (f := 5) (by rw [← HN.out]; omega) (by decide)
  have zf := HO1.out.row.free (k * 10 + 5)
  simp only [RDt, List.getElem?_cons_zero, List.getElem?_cons_succ] at k1 k4
  go_upto_region 35 with (fail)
  have HO2 := Lib.hid (HO1.out.put (by simp [Value.ownBlock]) (j := k) (f := 5) (by rw [← HN.out]; omega) (by decide) x)
  clear k1 k4 yf zf HO1
  generalize w1.setCell ⟨g, k * 10 + 5, none⟩ (.int .u64 x) = w2 at *
  have hrow : (r ++ [t]).set k (((r ++ [t]).getD k TH.zero).set 5 x) = r ++ [t.set 5 x] := by rw [HKK.out, getD_last, row_set]
  have HR := Lib.hid hrow
  rw [hrow] at HO2
  have k0 := HO2.out.k.cell 0
  have k3 := HO2.out.k.cell 3
  have k4 := HO2.out.k.cell 4
  have z0 := HO2.out.k.free 0
  have z4 := HO2.out.k.free 4
  simp only [RDt, List.getElem?_cons_zero, List.getElem?_cons_succ] at k0 k3 k4
  have hto : (t.set 5 x).o = t.o := set_o (by decide) (by decide) x
  have yo : w2.cell? ⟨g, k * 10, none⟩ = some (.int .u64 t.o) := by
    have h1 := HO2.out.row.cellAt (k := k) (f := 0) (by have := HN.out; simp at this ⊢; omega) (by decide)
    rw [HKK.out, getD_last] at h1
    rw [← HKK.out] at h1
    exact h1.trans (by rw [TH.get_o, hto])
  have HTO := Lib.hid hto
  clear hrow hto
  have e : twoS ⟨2, r ++ [t], bl, 5⟩ x = ⟨2, r ++ [t.set 5 x], bl, 6⟩ := two_more (by decide) (by decide) ho
  have HE := Lib.hid e
  clear e
  go_wp2_with fail
  go_end0
  rw [HE.out]
  exact ⟨rfl, _, _, HA.out, HO2.out.set hBK (by simp) 4 (.int .i64 6) rfl, fun _ h => .inl h⟩
set_option maxRecDepth 100000 in
set_option maxHeartbeats 8000000 in
theorem tk_6 {g C : Nat} (hBm : B ≤ m) (hc : c ≤ 900) (S : Say p m b n D L c M w) (h : Bk K 38 (RDt ⟨2, r ++ [t], bl, 6⟩ (.slice (some ⟨g, 0, none⟩) (r ++ [t]).length C)) w) (R : OwnH w B (.slice (some ⟨g, 0, none⟩) (r ++ [t]).length C) (r ++ [t])) (hBK : B ≤ K) (hk : r.length < 16) (hb : 0 ≤ bl ∧ bl ≤ 4) (ho : t.o ≠ 0) :
    Calls Tryd.prog 14 #[.pointer (some ⟨K, 0, none⟩), .pointer (some ⟨b, 0, none⟩)] w (OdT B p m b n c D M.s K (.slice (some ⟨g, 0, none⟩) (r ++ [t]).length C) (twoS ⟨2, r ++ [t], bl, 6⟩ (M.V (adT (r.length : Int) 6))) (ldM M (adT (r.length : Int) 6)) w) := by
  have HA := Lib.hid (S.aftLd (adT (r.length : Int) 6))
  have hNl : (r ++ [t]).length = r.length + 1 := by simp
  have HO := Lib.hid (OT.start (E := K :: (Value.slice (some ⟨g, 0, none⟩) (r ++ [t]).length C).ownBlock.toList) h R S.pr (Nat.le_trans hBm S.pr.m_le))
  have HS := Lib.hid S
  have HC := Lib.hid (show (r ++ [t]).length ≤ C ∧ C ≤ 9223372036854775807 by obtain ⟨A, k, e, h1, h2, _⟩ := R.slice; injection e with _ _ e3; subst e3; exact ⟨h1, h2⟩)
  obtain ⟨c1, c2⟩ := HC.out
  have gK : ¬ g = K := fun e => by
    obtain ⟨_, cs, k⟩ := R.bq rfl
    exact k.ne (show Bq K _ _ w from h) (by decide) e
  have Kg : ¬ K = g := fun e => gK e.symm
  have hc0 := h.cell 0
  have hc1 := h.cell 1
  have hc4 := h.cell 4
  simp only [RDt, List.getElem?_cons_zero, List.getElem?_cons_succ] at hc0 hc1 hc4
  obtain ⟨N, hN⟩ : ∃ N, N = (r ++ [t]).length := ⟨_, rfl⟩
  obtain ⟨k, hkk⟩ : ∃ k, k = r.length := ⟨_, rfl⟩
  have HN := Lib.hid hN
  have HKK := Lib.hid hkk
  have e10 : (N : Int) - 1 = (k : Int) := by omega
  have w10 : IntKind.i64.wrap (k : Int) = (k : Int) := by simp [IntKind.wrap, IntKind.bits, IntKind.signed]; omega
  have q10 : (k : Int) < (N : Int) := by omega
  have p10 : (0 : Int) ≤ (k : Int) := by omega
  have hk16 : k < 16 := by omega
  have w11 : IntKind.i64.wrap ((k : Int) + 1) = (k : Int) + 1 := by simp [IntKind.wrap, IntKind.bits, IntKind.signed]; omega
  have w12 : IntKind.i64.wrap (4 * bl) = 4 * bl := by simp [IntKind.wrap, IntKind.bits, IntKind.signed]; omega
  rw [← hkk] at HA ⊢
  rw [← hN] at hc1 HO c1 ⊢
  have hcN : (N : Int) ≤ (C : Int) := by omega
  clear h R S hNl hN hkk HC hk
  go_enter Tryd.func14, Tryd.ntmps14
  go_wp2_with fail
  ((with_reducible refine (HS.out.ldD (x := adT (k : Int) 6) hc (adT_at (by omega) (by decide)) rfl HO.out.pr).mono ?_); rintro ee w1 ⟨rfl, P1, f1⟩)
  have HO1 := Lib.hid (HO.out.fr hBm P1 f1)
  clear P1 f1 hc0 hc1 hc4
  generalize M.V (adT (k : Int) 6) = x at *
  have k1 := HO1.out.k.cell 1
  have k4 := HO1.out.k.cell 4
  have yf := HO1.out.row.cellAt (k := k) (f := 6) (by rw [← HN.out]; omega) (by decide)
  have zf := HO1.out.row.free (k * 10 + 6)
  simp only [RDt, List.getElem?_cons_zero, List.getElem?_cons_succ] at k1 k4
  go_upto_region 35 with (fail)
  have HO2 := Lib.hid (HO1.out.put (by simp [Value.ownBlock]) (j := k) (f := 6) (by rw [← HN.out]; omega) (by decide) x)
  clear k1 k4 yf zf HO1
  generalize w1.setCell ⟨g, k * 10 + 6, none⟩ (.int .u64 x) = w2 at *
  have hrow : (r ++ [t]).set k (((r ++ [t]).getD k TH.zero).set 6 x) = r ++ [t.set 6 x] := by rw [HKK.out, getD_last, row_set]
  have HR := Lib.hid hrow
  rw [hrow] at HO2
  have k0 := HO2.out.k.cell 0
  have k3 := HO2.out.k.cell 3
  have k4 := HO2.out.k.cell 4
  have z0 := HO2.out.k.free 0
  have z4 := HO2.out.k.free 4
  simp only [RDt, List.getElem?_cons_zero, List.getElem?_cons_succ] at k0 k3 k4
  have hto : (t.set 6 x).o = t.o := set_o (by decide) (by decide) x
  have yo : w2.cell? ⟨g, k * 10, none⟩ = some (.int .u64 t.o) := by
    have h1 := HO2.out.row.cellAt (k := k) (f := 0) (by have := HN.out; simp at this ⊢; omega) (by decide)
    rw [HKK.out, getD_last] at h1
    rw [← HKK.out] at h1
    exact h1.trans (by rw [TH.get_o, hto])
  have HTO := Lib.hid hto
  clear hrow hto
  have e : twoS ⟨2, r ++ [t], bl, 6⟩ x = ⟨2, r ++ [t.set 6 x], bl, 7⟩ := two_more (by decide) (by decide) ho
  have HE := Lib.hid e
  clear e
  go_wp2_with fail
  go_end0
  rw [HE.out]
  exact ⟨rfl, _, _, HA.out, HO2.out.set hBK (by simp) 4 (.int .i64 7) rfl, fun _ h => .inl h⟩
set_option maxRecDepth 100000 in
set_option maxHeartbeats 8000000 in
theorem tk_7 {g C : Nat} (hBm : B ≤ m) (hc : c ≤ 900) (S : Say p m b n D L c M w) (h : Bk K 38 (RDt ⟨2, r ++ [t], bl, 7⟩ (.slice (some ⟨g, 0, none⟩) (r ++ [t]).length C)) w) (R : OwnH w B (.slice (some ⟨g, 0, none⟩) (r ++ [t]).length C) (r ++ [t])) (hBK : B ≤ K) (hk : r.length < 16) (hb : 0 ≤ bl ∧ bl ≤ 4) (ho : t.o ≠ 0) :
    Calls Tryd.prog 14 #[.pointer (some ⟨K, 0, none⟩), .pointer (some ⟨b, 0, none⟩)] w (OdT B p m b n c D M.s K (.slice (some ⟨g, 0, none⟩) (r ++ [t]).length C) (twoS ⟨2, r ++ [t], bl, 7⟩ (M.V (adT (r.length : Int) 7))) (ldM M (adT (r.length : Int) 7)) w) := by
  have HA := Lib.hid (S.aftLd (adT (r.length : Int) 7))
  have hNl : (r ++ [t]).length = r.length + 1 := by simp
  have HO := Lib.hid (OT.start (E := K :: (Value.slice (some ⟨g, 0, none⟩) (r ++ [t]).length C).ownBlock.toList) h R S.pr (Nat.le_trans hBm S.pr.m_le))
  have HS := Lib.hid S
  have HC := Lib.hid (show (r ++ [t]).length ≤ C ∧ C ≤ 9223372036854775807 by obtain ⟨A, k, e, h1, h2, _⟩ := R.slice; injection e with _ _ e3; subst e3; exact ⟨h1, h2⟩)
  obtain ⟨c1, c2⟩ := HC.out
  have gK : ¬ g = K := fun e => by
    obtain ⟨_, cs, k⟩ := R.bq rfl
    exact k.ne (show Bq K _ _ w from h) (by decide) e
  have Kg : ¬ K = g := fun e => gK e.symm
  have hc0 := h.cell 0
  have hc1 := h.cell 1
  have hc4 := h.cell 4
  simp only [RDt, List.getElem?_cons_zero, List.getElem?_cons_succ] at hc0 hc1 hc4
  obtain ⟨N, hN⟩ : ∃ N, N = (r ++ [t]).length := ⟨_, rfl⟩
  obtain ⟨k, hkk⟩ : ∃ k, k = r.length := ⟨_, rfl⟩
  have HN := Lib.hid hN
  have HKK := Lib.hid hkk
  have e10 : (N : Int) - 1 = (k : Int) := by omega
  have w10 : IntKind.i64.wrap (k : Int) = (k : Int) := by simp [IntKind.wrap, IntKind.bits, IntKind.signed]; omega
  have q10 : (k : Int) < (N : Int) := by omega
  have p10 : (0 : Int) ≤ (k : Int) := by omega
  have hk16 : k < 16 := by omega
  have w11 : IntKind.i64.wrap ((k : Int) + 1) = (k : Int) + 1 := by simp [IntKind.wrap, IntKind.bits, IntKind.signed]; omega
  have w12 : IntKind.i64.wrap (4 * bl) = 4 * bl := by simp [IntKind.wrap, IntKind.bits, IntKind.signed]; omega
  rw [← hkk] at HA ⊢
  rw [← hN] at hc1 HO c1 ⊢
  have hcN : (N : Int) ≤ (C : Int) := by omega
  clear h R S hNl hN hkk HC hk
  go_enter Tryd.func14, Tryd.ntmps14
  go_wp2_with fail
  ((with_reducible refine (HS.out.ldD (x := adT (k : Int) 7) hc (adT_at (by omega) (by decide)) rfl HO.out.pr).mono ?_); rintro ee w1 ⟨rfl, P1, f1⟩)
  have HO1 := Lib.hid (HO.out.fr hBm P1 f1)
  clear P1 f1 hc0 hc1 hc4
  generalize M.V (adT (k : Int) 7) = x at *
  have k1 := HO1.out.k.cell 1
  have k4 := HO1.out.k.cell 4
  have yf := HO1.out.row.cellAt (k := k) (f := 7) (by rw [← HN.out]; omega) (by decide)
  have zf := HO1.out.row.free (k * 10 + 7)
  simp only [RDt, List.getElem?_cons_zero, List.getElem?_cons_succ] at k1 k4
  go_upto_region 35 with (fail)
  have HO2 := Lib.hid (HO1.out.put (by simp [Value.ownBlock]) (j := k) (f := 7) (by rw [← HN.out]; omega) (by decide) x)
  clear k1 k4 yf zf HO1
  generalize w1.setCell ⟨g, k * 10 + 7, none⟩ (.int .u64 x) = w2 at *
  have hrow : (r ++ [t]).set k (((r ++ [t]).getD k TH.zero).set 7 x) = r ++ [t.set 7 x] := by rw [HKK.out, getD_last, row_set]
  have HR := Lib.hid hrow
  rw [hrow] at HO2
  have k0 := HO2.out.k.cell 0
  have k3 := HO2.out.k.cell 3
  have k4 := HO2.out.k.cell 4
  have z0 := HO2.out.k.free 0
  have z4 := HO2.out.k.free 4
  simp only [RDt, List.getElem?_cons_zero, List.getElem?_cons_succ] at k0 k3 k4
  have hto : (t.set 7 x).o = t.o := set_o (by decide) (by decide) x
  have yo : w2.cell? ⟨g, k * 10, none⟩ = some (.int .u64 t.o) := by
    have h1 := HO2.out.row.cellAt (k := k) (f := 0) (by have := HN.out; simp at this ⊢; omega) (by decide)
    rw [HKK.out, getD_last] at h1
    rw [← HKK.out] at h1
    exact h1.trans (by rw [TH.get_o, hto])
  have HTO := Lib.hid hto
  clear hrow hto
  have e : twoS ⟨2, r ++ [t], bl, 7⟩ x = ⟨2, r ++ [t.set 7 x], bl, 8⟩ := two_more (by decide) (by decide) ho
  have HE := Lib.hid e
  clear e
  go_wp2_with fail
  go_end0
  rw [HE.out]
  exact ⟨rfl, _, _, HA.out, HO2.out.set hBK (by simp) 4 (.int .i64 8) rfl, fun _ h => .inl h⟩
set_option maxRecDepth 100000 in
set_option maxHeartbeats 8000000 in
theorem tk_8 {g C : Nat} (hBm : B ≤ m) (hc : c ≤ 900) (S : Say p m b n D L c M w) (h : Bk K 38 (RDt ⟨2, r ++ [t], bl, 8⟩ (.slice (some ⟨g, 0, none⟩) (r ++ [t]).length C)) w) (R : OwnH w B (.slice (some ⟨g, 0, none⟩) (r ++ [t]).length C) (r ++ [t])) (hBK : B ≤ K) (hk : r.length < 16) (hb : 0 ≤ bl ∧ bl ≤ 4) (ho : t.o ≠ 0) :
    Calls Tryd.prog 14 #[.pointer (some ⟨K, 0, none⟩), .pointer (some ⟨b, 0, none⟩)] w (OdT B p m b n c D M.s K (.slice (some ⟨g, 0, none⟩) (r ++ [t]).length C) (twoS ⟨2, r ++ [t], bl, 8⟩ (M.V (adT (r.length : Int) 8))) (ldM M (adT (r.length : Int) 8)) w) := by
  have HA := Lib.hid (S.aftLd (adT (r.length : Int) 8))
  have hNl : (r ++ [t]).length = r.length + 1 := by simp
  have HO := Lib.hid (OT.start (E := K :: (Value.slice (some ⟨g, 0, none⟩) (r ++ [t]).length C).ownBlock.toList) h R S.pr (Nat.le_trans hBm S.pr.m_le))
  have HS := Lib.hid S
  have HC := Lib.hid (show (r ++ [t]).length ≤ C ∧ C ≤ 9223372036854775807 by obtain ⟨A, k, e, h1, h2, _⟩ := R.slice; injection e with _ _ e3; subst e3; exact ⟨h1, h2⟩)
  obtain ⟨c1, c2⟩ := HC.out
  have gK : ¬ g = K := fun e => by
    obtain ⟨_, cs, k⟩ := R.bq rfl
    exact k.ne (show Bq K _ _ w from h) (by decide) e
  have Kg : ¬ K = g := fun e => gK e.symm
  have hc0 := h.cell 0
  have hc1 := h.cell 1
  have hc4 := h.cell 4
  simp only [RDt, List.getElem?_cons_zero, List.getElem?_cons_succ] at hc0 hc1 hc4
  obtain ⟨N, hN⟩ : ∃ N, N = (r ++ [t]).length := ⟨_, rfl⟩
  obtain ⟨k, hkk⟩ : ∃ k, k = r.length := ⟨_, rfl⟩
  have HN := Lib.hid hN
  have HKK := Lib.hid hkk
  have e10 : (N : Int) - 1 = (k : Int) := by omega
  have w10 : IntKind.i64.wrap (k : Int) = (k : Int) := by simp [IntKind.wrap, IntKind.bits, IntKind.signed]; omega
  have q10 : (k : Int) < (N : Int) := by omega
  have p10 : (0 : Int) ≤ (k : Int) := by omega
  have hk16 : k < 16 := by omega
  have w11 : IntKind.i64.wrap ((k : Int) + 1) = (k : Int) + 1 := by simp [IntKind.wrap, IntKind.bits, IntKind.signed]; omega
  have w12 : IntKind.i64.wrap (4 * bl) = 4 * bl := by simp [IntKind.wrap, IntKind.bits, IntKind.signed]; omega
  rw [← hkk] at HA ⊢
  rw [← hN] at hc1 HO c1 ⊢
  have hcN : (N : Int) ≤ (C : Int) := by omega
  clear h R S hNl hN hkk HC hk
  go_enter Tryd.func14, Tryd.ntmps14
  go_wp2_with fail
  ((with_reducible refine (HS.out.ldD (x := adT (k : Int) 8) hc (adT_at (by omega) (by decide)) rfl HO.out.pr).mono ?_); rintro ee w1 ⟨rfl, P1, f1⟩)
  have HO1 := Lib.hid (HO.out.fr hBm P1 f1)
  clear P1 f1 hc0 hc1 hc4
  generalize M.V (adT (k : Int) 8) = x at *
  have k1 := HO1.out.k.cell 1
  have k4 := HO1.out.k.cell 4
  have yf := HO1.out.row.cellAt (k := k) (f := 8) (by rw [← HN.out]; omega) (by decide)
  have zf := HO1.out.row.free (k * 10 + 8)
  simp only [RDt, List.getElem?_cons_zero, List.getElem?_cons_succ] at k1 k4
  go_upto_region 35 with (fail)
  have HO2 := Lib.hid (HO1.out.put (by simp [Value.ownBlock]) (j := k) (f := 8) (by rw [← HN.out]; omega) (by decide) x)
  clear k1 k4 yf zf HO1
  generalize w1.setCell ⟨g, k * 10 + 8, none⟩ (.int .u64 x) = w2 at *
  have hrow : (r ++ [t]).set k (((r ++ [t]).getD k TH.zero).set 8 x) = r ++ [t.set 8 x] := by rw [HKK.out, getD_last, row_set]
  have HR := Lib.hid hrow
  rw [hrow] at HO2
  have k0 := HO2.out.k.cell 0
  have k3 := HO2.out.k.cell 3
  have k4 := HO2.out.k.cell 4
  have z0 := HO2.out.k.free 0
  have z4 := HO2.out.k.free 4
  simp only [RDt, List.getElem?_cons_zero, List.getElem?_cons_succ] at k0 k3 k4
  have hto : (t.set 8 x).o = t.o := set_o (by decide) (by decide) x
  have yo : w2.cell? ⟨g, k * 10, none⟩ = some (.int .u64 t.o) := by
    have h1 := HO2.out.row.cellAt (k := k) (f := 0) (by have := HN.out; simp at this ⊢; omega) (by decide)
    rw [HKK.out, getD_last] at h1
    rw [← HKK.out] at h1
    exact h1.trans (by rw [TH.get_o, hto])
  have HTO := Lib.hid hto
  clear hrow hto
  have e : twoS ⟨2, r ++ [t], bl, 8⟩ x = ⟨2, r ++ [t.set 8 x], bl, 9⟩ := two_more (by decide) (by decide) ho
  have HE := Lib.hid e
  clear e
  go_wp2_with fail
  go_end0
  rw [HE.out]
  exact ⟨rfl, _, _, HA.out, HO2.out.set hBK (by simp) 4 (.int .i64 9) rfl, fun _ h => .inl h⟩
set_option maxRecDepth 100000 in
set_option maxHeartbeats 8000000 in
theorem tk_9 {g C : Nat} (hBm : B ≤ m) (hc : c ≤ 900) (S : Say p m b n D L c M w) (h : Bk K 38 (RDt ⟨2, r ++ [t], bl, 9⟩ (.slice (some ⟨g, 0, none⟩) (r ++ [t]).length C)) w) (R : OwnH w B (.slice (some ⟨g, 0, none⟩) (r ++ [t]).length C) (r ++ [t])) (hBK : B ≤ K) (hk : r.length < 16) (hb : 0 ≤ bl ∧ bl ≤ 4) (ho : t.o ≠ 0) :
    Calls Tryd.prog 14 #[.pointer (some ⟨K, 0, none⟩), .pointer (some ⟨b, 0, none⟩)] w (OdT B p m b n c D M.s K (.slice (some ⟨g, 0, none⟩) (r ++ [t]).length C) (twoS ⟨2, r ++ [t], bl, 9⟩ (M.V (adT (r.length : Int) 9))) (ldM M (adT (r.length : Int) 9)) w) := by
  have HA := Lib.hid (S.aftLd (adT (r.length : Int) 9))
  have hNl : (r ++ [t]).length = r.length + 1 := by simp
  have HO := Lib.hid (OT.start (E := K :: (Value.slice (some ⟨g, 0, none⟩) (r ++ [t]).length C).ownBlock.toList) h R S.pr (Nat.le_trans hBm S.pr.m_le))
  have HS := Lib.hid S
  have HC := Lib.hid (show (r ++ [t]).length ≤ C ∧ C ≤ 9223372036854775807 by obtain ⟨A, k, e, h1, h2, _⟩ := R.slice; injection e with _ _ e3; subst e3; exact ⟨h1, h2⟩)
  obtain ⟨c1, c2⟩ := HC.out
  have gK : ¬ g = K := fun e => by
    obtain ⟨_, cs, k⟩ := R.bq rfl
    exact k.ne (show Bq K _ _ w from h) (by decide) e
  have Kg : ¬ K = g := fun e => gK e.symm
  have hc0 := h.cell 0
  have hc1 := h.cell 1
  have hc4 := h.cell 4
  simp only [RDt, List.getElem?_cons_zero, List.getElem?_cons_succ] at hc0 hc1 hc4
  obtain ⟨N, hN⟩ : ∃ N, N = (r ++ [t]).length := ⟨_, rfl⟩
  obtain ⟨k, hkk⟩ : ∃ k, k = r.length := ⟨_, rfl⟩
  have HN := Lib.hid hN
  have HKK := Lib.hid hkk
  have e10 : (N : Int) - 1 = (k : Int) := by omega
  have w10 : IntKind.i64.wrap (k : Int) = (k : Int) := by simp [IntKind.wrap, IntKind.bits, IntKind.signed]; omega
  have q10 : (k : Int) < (N : Int) := by omega
  have p10 : (0 : Int) ≤ (k : Int) := by omega
  have hk16 : k < 16 := by omega
  have w11 : IntKind.i64.wrap ((k : Int) + 1) = (k : Int) + 1 := by simp [IntKind.wrap, IntKind.bits, IntKind.signed]; omega
  have w12 : IntKind.i64.wrap (4 * bl) = 4 * bl := by simp [IntKind.wrap, IntKind.bits, IntKind.signed]; omega
  rw [← hkk] at HA ⊢
  rw [← hN] at hc1 HO c1 ⊢
  have hcN : (N : Int) ≤ (C : Int) := by omega
  clear h R S hNl hN hkk HC hk
  go_enter Tryd.func14, Tryd.ntmps14
  go_wp2_with fail
  ((with_reducible refine (HS.out.ldD (x := adT (k : Int) 9) hc (adT_at (by omega) (by decide)) rfl HO.out.pr).mono ?_); rintro ee w1 ⟨rfl, P1, f1⟩)
  have HO1 := Lib.hid (HO.out.fr hBm P1 f1)
  clear P1 f1 hc0 hc1 hc4
  generalize M.V (adT (k : Int) 9) = x at *
  have k1 := HO1.out.k.cell 1
  have k4 := HO1.out.k.cell 4
  have yf := HO1.out.row.cellAt (k := k) (f := 9) (by rw [← HN.out]; omega) (by decide)
  have zf := HO1.out.row.free (k * 10 + 9)
  simp only [RDt, List.getElem?_cons_zero, List.getElem?_cons_succ] at k1 k4
  go_upto_region 35 with (fail)
  have HO2 := Lib.hid (HO1.out.put (by simp [Value.ownBlock]) (j := k) (f := 9) (by rw [← HN.out]; omega) (by decide) x)
  clear k1 k4 yf zf HO1
  generalize w1.setCell ⟨g, k * 10 + 9, none⟩ (.int .u64 x) = w2 at *
  have hrow : (r ++ [t]).set k (((r ++ [t]).getD k TH.zero).set 9 x) = r ++ [t.set 9 x] := by rw [HKK.out, getD_last, row_set]
  have HR := Lib.hid hrow
  rw [hrow] at HO2
  have k0 := HO2.out.k.cell 0
  have k3 := HO2.out.k.cell 3
  have k4 := HO2.out.k.cell 4
  have z0 := HO2.out.k.free 0
  have z4 := HO2.out.k.free 4
  simp only [RDt, List.getElem?_cons_zero, List.getElem?_cons_succ] at k0 k3 k4
  have hto : (t.set 9 x).o = t.o := set_o (by decide) (by decide) x
  have yo : w2.cell? ⟨g, k * 10, none⟩ = some (.int .u64 t.o) := by
    have h1 := HO2.out.row.cellAt (k := k) (f := 0) (by have := HN.out; simp at this ⊢; omega) (by decide)
    rw [HKK.out, getD_last] at h1
    rw [← HKK.out] at h1
    exact h1.trans (by rw [TH.get_o, hto])
  have HTO := Lib.hid hto
  clear hrow hto
  have e : twoS ⟨2, r ++ [t], bl, 9⟩ x = ⟨if (r.length : Int) + 1 = 4 * bl then 0 else 2, r ++ [t.set 9 x], bl, 0⟩ := two_last ho
  rw [← HKK.out] at e
  have HE := Lib.hid e
  clear e
  by_cases hq : (k : Int) + 1 = 4 * bl
  · rw [if_pos hq] at HE
    go_wp2_with fail
    go_end0
    rw [HE.out]
    exact ⟨rfl, _, _, HA.out, (HO2.out.set hBK (by simp) 4 (.int .i64 0) rfl).set hBK (by simp) 0 (.int .i64 0) rfl, fun _ h => .inl h⟩
  · rw [if_neg hq] at HE
    go_wp2_with fail
    go_end0
    rw [HE.out]
    exact ⟨rfl, _, _, HA.out, HO2.out.set hBK (by simp) 4 (.int .i64 0) rfl, fun _ h => .inl h⟩
end
end Go.Proofs.YtapcgikamldchaaDoor
