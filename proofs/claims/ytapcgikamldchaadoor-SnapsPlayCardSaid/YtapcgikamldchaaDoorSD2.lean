/-
  The document's taker: a thread begins; a step whole, a new one; condition: both memories say the same, the taker lies as it says.
  A step of the document's taker is the plain one's; a new one; condition: both memories say the same, the taker lies as it says.
-/
import Derived.Test.YtapcgikamldchaaDoorSD1
import Derived.Deep.RegionWith
namespace Go.Proofs.YtapcgikamldchaaDoor
open Go.RowKit Go.Maps

theorem row_seeH (w : World) (e : TH) : ∀ j u, e.cells[j]? = some u → (w.alloc (.cells e.cells.toArray 52)).cell? ((⟨w.heap.size, 0, none⟩ : Addr).add j) = some u := by
  intro j u hj
  have h9 := (Bq.new w e.cells 52).cell j
  by_cases h0 : j = 0
  · subst h0
    simpa [Addr.add] using h9.trans hj
  · simpa [Addr.add, h0] using h9.trans hj
theorem zero_see (w : World) : ∀ j u, TH.zero.cells[j]? = some u → (w.alloc (.cells #[.int .u64 0, .int .u64 0, .int .u64 0, .int .u64 0, .int .u64 0, .int .u64 0, .int .u64 0, .int .u64 0, .int .u64 0, .int .u64 0] 52)).cell? ((⟨w.heap.size, 0, none⟩ : Addr).add j) = some u := row_seeH w TH.zero
theorem zero_one : ∀ u ∈ TH.zero.cells, u.oneCell' = true := fun u hu => flatH_one (xs := [TH.zero]) u (by simpa [flatH] using hu)
section
variable {B p m b n c K : Nat} {D : DataW Unit} {s8 : Acc8} {L : List (Ad × Int)} {M : MV} {w w' : World} {v : Value} {l r : List TH} {t : TH} {bl : Int}
set_option maxRecDepth 100000 in
set_option maxHeartbeats 8000000 in
theorem tk_0 {A : Option Addr} {N C : Nat} (hBm : B ≤ m) (hc : c ≤ 900) (S : Say p m b n D L c M w) (h : Bk K 38 (RDt ⟨2, l, bl, 0⟩ (.slice A N C)) w) (R : OwnH w B (.slice A N C) l) (hBK : B ≤ K) (hk : l.length < 16) (hb : 0 ≤ bl ∧ bl ≤ 4) :
    Calls Tryd.prog 14 #[.pointer (some ⟨K, 0, none⟩), .pointer (some ⟨b, 0, none⟩)] w (OdT B p m b n c D M.s K (.slice A N C) (twoS ⟨2, l, bl, 0⟩ (M.V (adT (l.length : Int) 0))) (ldM M (adT (l.length : Int) 0)) w) := by
  obtain ⟨i0, hi0, hz0, hz1, hz2⟩ := info_parts infoH
  have HA := Lib.hid (S.aftLd (adT (l.length : Int) 0))
  have hb0 : Below w.heap.size w (w.alloc (.cells #[.int .u64 0, .int .u64 0, .int .u64 0, .int .u64 0, .int .u64 0, .int .u64 0, .int .u64 0, .int .u64 0, .int .u64 0, .int .u64 0] 52)) := (Below.refl _ _).alloc (Nat.le_refl _) _
  have HO0 := Lib.hid (OT.start (E := K :: (Value.slice A N C).ownBlock.toList) h R S.pr (Nat.le_trans hBm S.pr.m_le))
  have HO := Lib.hid (HO0.out.below hBK hb0)
  have HS := Lib.hid S
  have HN := Lib.hid R.see.len
  obtain ⟨k, hkk⟩ : ∃ k, k = l.length := ⟨_, rfl⟩
  have HKK := Lib.hid hkk
  have hk16 : k < 16 := by omega
  have hBw := Nat.le_trans hBm S.pr.m_le
  have HBB := Lib.hid (Nat.le_trans hBw hb0.size)
  have hc0 := h.cell 0
  have hc1 := h.cell 1
  have hc4 := h.cell 4
  simp only [RDt, List.getElem?_cons_zero, List.getElem?_cons_succ] at hc0 hc1 hc4
  have d1 := HO.out.k.cell 1
  simp only [RDt, List.getElem?_cons_zero, List.getElem?_cons_succ] at d1
  have HNW := Lib.hid (zero_see w)
  have HROW : (w.alloc (.cells #[.int .u64 0, .int .u64 0, .int .u64 0, .int .u64 0, .int .u64 0, .int .u64 0, .int .u64 0, .int .u64 0, .int .u64 0, .int .u64 0] 52)).ownsRow B 52 10 (.slice A N C) N (flatH l) := by
    have h1 := HO.out.row
    unfold OwnH at h1
    rwa [← HN.out] at h1
  have HROW := Lib.hid HROW
  have hkey : ∀ v' w6, w6.ownsRow B 52 10 v' (N + 1) (flatH l ++ TH.zero.cells) → (w.alloc (.cells #[.int .u64 0, .int .u64 0, .int .u64 0, .int .u64 0, .int .u64 0, .int .u64 0, .int .u64 0, .int .u64 0, .int .u64 0, .int .u64 0] 52)).grownBy w6 (Value.slice A N C).ownBlock → (v'.ownBlock = (Value.slice A N C).ownBlock ∨ v'.ownBlock = some (w.alloc (.cells #[.int .u64 0, .int .u64 0, .int .u64 0, .int .u64 0, .int .u64 0, .int .u64 0, .int .u64 0, .int .u64 0, .int .u64 0, .int .u64 0] 52)).heap.size) →
      ∃ g k6, v' = .slice (some ⟨g, 0, none⟩) (k + 1) k6 ∧ k + 1 ≤ k6 ∧ k6 ≤ 9223372036854775807 ∧ w6.cell? ⟨K, 1, none⟩ = some (.slice A N C) ∧ w6.frozen? ⟨K, 1, none⟩ = false ∧
        OT B p m b n D M.s K ((K :: (Value.slice A N C).ownBlock.toList) ++ (Value.slice (some ⟨g, 0, none⟩) (k + 1) k6).ownBlock.toList) (RDt ⟨2, l, bl, 0⟩ (.slice (some ⟨g, 0, none⟩) (k + 1) k6)) (.slice (some ⟨g, 0, none⟩) (k + 1) k6) (l ++ [TH.zero]) L M.s w (w6.setCell ⟨K, 1, none⟩ (.slice (some ⟨g, 0, none⟩) (k + 1) k6)) ∧
        ((Value.slice (some ⟨g, 0, none⟩) (k + 1) k6).ownBlock = (Value.slice A N C).ownBlock ∨ (Value.slice (some ⟨g, 0, none⟩) (k + 1) k6).ownBlock = some (w.heap.size + 1)) := fun v' w6 hr6 hg6 hb6 => by
    have hsz : (w.alloc (.cells #[.int .u64 0, .int .u64 0, .int .u64 0, .int .u64 0, .int .u64 0, .int .u64 0, .int .u64 0, .int .u64 0, .int .u64 0, .int .u64 0] 52)).heap.size = w.heap.size + 1 := by show (w.heap.push _).size = _; simp
    rw [hsz] at hb6
    have h9 := HN.out
    have h8 := HKK.out
    have hF : OwnH w6 B v' (l ++ [TH.zero]) := by
      unfold OwnH
      rw [flatH_app, List.length_append, show flatH [TH.zero] = TH.zero.cells by simp [flatH], ← h9]
      exact hr6
    obtain ⟨A6, k6, rfl, hk1, hk2, hA6⟩ := hF.slice
    obtain ⟨g, rfl⟩ := hA6 (by simp)
    have hl : (l ++ [TH.zero]).length = k + 1 := by rw [h8]; simp
    rw [hl] at hr6 hb6 hk1 ⊢
    obtain ⟨k1, z1, hO6⟩ := HO.out.grow (e := TH.zero) hBK (by simp) (fun x hx => List.mem_cons_of_mem _ (by rw [hx]; simp)) (by rw [← h9]; exact hr6) hg6 (by rw [hsz]; exact hb6)
    exact ⟨g, k6, rfl, hk1, hk2, k1, z1, hO6, hb6⟩
  have HKEY := Lib.hid hkey
  rw [← hkk] at HA ⊢
  clear h R S hkk hk hb0 HO0 hBw hkey
  go_enter Tryd.func14, Tryd.ntmps14
  go_upto_region 11 with (at_builtin; refine wpList_append_own_at _ rfl (.tmp 46) (.tmp 48) 33 rfl B 52 i0 _ 10 80 Tryd.underlying33 hi0 hz0 hz1 hz2 rfl (by decide) (.slice A N C) N (flatH l) rfl HROW.out ⟨w.heap.size, 0, none⟩ 1 1 TH.zero.cells rfl rfl HNW.out zero_one (by unfold maxLen; have := HN.out; have := HKK.out; omega) (by have := HN.out; have := HKK.out; omega) HBB.out ?_; intro v' w6 hr6 hg6 _ hb6; obtain ⟨g, k6, rfl, hck1, hck2, k1, z1, hO6, hb7⟩ := HKEY.out v' w6 hr6 hg6 hb6; have HB6 := Lib.hid hb7; have HO6 := Lib.hid hO6; clear hr6 hg6 hb6 hO6 hb7)
  clear k1 z1 hc0 hc1 hc4 d1 HO HROW HNW HBB HKEY
  generalize w6.setCell ⟨K, 1, none⟩ (.slice (some ⟨g, 0, none⟩) (k + 1) k6) = w7 at *
  have gK : ¬ g = K := fun e => by
    obtain ⟨_, cs, j⟩ := HO6.out.row.bq rfl
    exact j.ne (show Bq K _ _ w7 from HO6.out.k) (by decide) e
  have Kg : ¬ K = g := fun e => gK e.symm
  have hlN : (l ++ [TH.zero]).length = k + 1 := by rw [HKK.out]; simp
  have HLN := Lib.hid hlN
  have e10 : ((k + 1 : Nat) : Int) - 1 = (k : Int) := by omega
  have w10 : IntKind.i64.wrap (k : Int) = (k : Int) := by simp [IntKind.wrap, IntKind.bits, IntKind.signed]; omega
  have q10 : (k : Int) < ((k + 1 : Nat) : Int) := by omega
  have q11 : (k : Int) < (k : Int) + 1 := by omega
  have p10 : (0 : Int) ≤ (k : Int) := by omega
  have w11 : IntKind.i64.wrap ((k : Int) + 1) = (k : Int) + 1 := by simp [IntKind.wrap, IntKind.bits, IntKind.signed]; omega
  have w12 : IntKind.i64.wrap (4 * bl) = 4 * bl := by simp [IntKind.wrap, IntKind.bits, IntKind.signed]; omega
  have hcN : ((k + 1 : Nat) : Int) ≤ (k6 : Int) := by omega
  have k1 := HO6.out.k.cell 1
  have k4 := HO6.out.k.cell 4
  simp only [RDt, List.getElem?_cons_zero, List.getElem?_cons_succ] at k1 k4
  clear hlN
  go_wp2_with fail
  ((with_reducible refine (HS.out.ldD (x := adT (k : Int) 0) (k := 8) (a := (k : Int)) (f := 0) hc (adT_at (by omega) (by decide)) rfl HO6.out.pr).mono ?_); rintro ee w1 ⟨rfl, P1, f1⟩)
  have HO1 := Lib.hid (HO6.out.fr hBm P1 f1)
  clear P1 f1 k1 k4
  generalize M.V (adT (k : Int) 0) = x at *
  have k1 := HO1.out.k.cell 1
  have k4 := HO1.out.k.cell 4
  have yf := HO1.out.row.cellAt (k := k) (f := 0) (by rw [HLN.out]; omega) (by decide)
  have zf := HO1.out.row.free (k * 10)
  simp only [RDt, List.getElem?_cons_zero, List.getElem?_cons_succ] at k1 k4
  rw [Nat.add_zero] at yf
  go_upto_region 35 with (fail)
  have HO2 := Lib.hid (HO1.out.put (by simp [Value.ownBlock]) (j := k) (f := 0) (by rw [HLN.out]; omega) (by decide) x)
  rw [Nat.add_zero] at HO2
  clear k1 k4 yf zf HO1
  generalize w1.setCell ⟨g, k * 10, none⟩ (.int .u64 x) = w2 at *
  have hrow : (l ++ [TH.zero]).set k (((l ++ [TH.zero]).getD k TH.zero).set 0 x) = l ++ [TH.zero.set 0 x] := by rw [HKK.out, getD_last, row_set]
  rw [hrow] at HO2
  have k0 := HO2.out.k.cell 0
  have k3 := HO2.out.k.cell 3
  have k4 := HO2.out.k.cell 4
  have z0 := HO2.out.k.free 0
  have z4 := HO2.out.k.free 4
  simp only [RDt, List.getElem?_cons_zero, List.getElem?_cons_succ] at k0 k3 k4
  have yo : w2.cell? ⟨g, k * 10, none⟩ = some (.int .u64 x) := by
    have h1 := HO2.out.row.cellAt (k := k) (f := 0) (by have := HLN.out; simp at this ⊢; omega) (by decide)
    rw [HKK.out, getD_last] at h1
    rw [← HKK.out] at h1
    exact h1
  have HFR : ∀ y, (Value.slice (some ⟨g, 0, none⟩) (k + 1) k6).ownBlock = some y → (Value.slice A N C).ownBlock = some y ∨ w.heap.size ≤ y := fun y hy => by
    rcases HB6.out with h1 | h1
    · exact .inl (h1 ▸ hy)
    · have h2 : (Value.slice (some ⟨g, 0, none⟩) (k + 1) k6).ownBlock = some g := rfl
      rw [h2] at h1 hy
      injection h1 with h1
      injection hy with hy
      exact .inr (by omega)
  have HFR := Lib.hid HFR
  have hsub : ∀ y ∈ (K :: (Value.slice A N C).ownBlock.toList) ++ (Value.slice (some ⟨g, 0, none⟩) (k + 1) k6).ownBlock.toList, y ∈ K :: (Value.slice A N C).ownBlock.toList ∨ w.heap.size ≤ y := fun y hy => by
    rcases List.mem_append.1 hy with hy | hy
    · exact .inl hy
    · rcases HFR.out y (by simpa using hy) with h1 | h1
      · exact .inl (List.mem_cons_of_mem _ (by simp [h1]))
      · exact .inr h1
  have HSUB := Lib.hid hsub
  clear hrow hsub
  by_cases hx0 : x = 0
  · subst hx0
    have e : twoS ⟨2, l, bl, 0⟩ 0 = ⟨if (l.length : Int) + 1 = 4 * bl then 0 else 2, l ++ [TH.zero], bl, 0⟩ := two_zero
    rw [← HKK.out] at e
    have HE := Lib.hid e
    clear e
    by_cases hq : (k : Int) + 1 = 4 * bl
    · rw [if_pos hq] at HE
      go_wp2_with fail
      go_end0
      rw [HE.out]
      have o9 := ((HO2.out.set hBK (by simp) 4 (.int .i64 1) rfl).set hBK (by simp) 4 (.int .i64 0) rfl).set hBK (by simp) 0 (.int .i64 0) rfl
      exact ⟨rfl, _, _, HA.out, ⟨o9.k, o9.row, o9.pr, o9.f.fresh HSUB.out⟩, HFR.out⟩
    · rw [if_neg hq] at HE
      go_wp2_with fail
      go_end0
      rw [HE.out]
      have o9 := (HO2.out.set hBK (by simp) 4 (.int .i64 1) rfl).set hBK (by simp) 4 (.int .i64 0) rfl
      exact ⟨rfl, _, _, HA.out, ⟨o9.k, o9.row, o9.pr, o9.f.fresh HSUB.out⟩, HFR.out⟩
  · have HE := Lib.hid (two_one (l := l) (bl := bl) hx0)
    go_wp2_with fail
    go_end0
    rw [HE.out]
    have o9 := HO2.out.set hBK (by simp) 4 (.int .i64 1) rfl
    exact ⟨rfl, _, _, HA.out, ⟨o9.k, o9.row, o9.pr, o9.f.fresh HSUB.out⟩, HFR.out⟩
end
end Go.Proofs.YtapcgikamldchaaDoor
namespace Go.Proofs.YtapcgikamldchaaDoor
open Go.RowKit Go.Maps

/-- The memory behind a step. -/
def memT (M : MV) (s : SG) : MV := if s.ln = 0 then M else if s.ln = 1 then ldM M adN else ldM M s.ad
theorem memT_V (M : MV) (s : SG) : (memT M s).V = M.V := by
  unfold memT
  split
  · rfl
  · split <;> rfl
theorem memT_st (M : MV) (s : SG) : M.s.st ≤ (memT M s).s.st ∧ (memT M s).s.st ≤ M.s.st + 1 := by
  unfold memT
  split
  · exact ⟨Int.le_refl _, by omega⟩
  · split
    · exact ⟨by show M.s.st ≤ M.s.st + 1; omega, by show M.s.st + 1 ≤ _; omega⟩
    · exact ⟨by show M.s.st ≤ M.s.st + 1; omega, by show M.s.st + 1 ≤ _; omega⟩
theorem memT_go {M : MV} {s : SG} (h : s.ln ≠ 0) : (memT M s).s.st = M.s.st + 1 := by
  unfold memT
  rw [if_neg h]
  split <;> rfl
section
variable {B p m b n c K k : Nat} {D : DataW Unit} {L : List (Ad × Int)} {M : MV} {w w' : World} {v : Value} {s : SG}
theorem docT (I : InvS k s) (hBm : B ≤ m) (hc : c ≤ 900) (S : Say p m b n D L c M w) (h : Bk K 38 (RDt s v) w) (R : OwnH w B v s.l) (hBK : B ≤ K) :
    Calls Tryd.prog 14 #[.pointer (some ⟨K, 0, none⟩), .pointer (some ⟨b, 0, none⟩)] w (OdT B p m b n c D M.s K v (stepS M.V s) (memT M s) w) := by
  cases I with
  | new =>
    have e1 : stepS M.V SG.new = oneS (M.V adN) := by simp [stepS, SG.new]
    have e2 : memT M SG.new = ldM M adN := by simp [memT, SG.new]
    rw [e1, e2]
    exact tk_one hBm hc S h R hBK
  | @first k l bl h1 h4 hl hk hz =>
    have e2 : memT M ⟨2, l, bl, 0⟩ = ldM M (adT (l.length : Int) 0) := by
      unfold memT
      rw [if_neg (show ¬ (2 : Int) = 0 by decide), if_neg (show ¬ (2 : Int) = 1 by decide), ad_first]
    rw [step_first, ad_first, e2]
    obtain ⟨A, C, rfl, _, _, _⟩ := R.slice
    exact tk_0 hBm hc S h R hBK (by omega) ⟨by omega, h4⟩
  | @next k fd r t bl h1 h4 hl h0 h9 ho hk hz ht =>
    have e2 : memT M ⟨2, r ++ [t], bl, fd⟩ = ldM M (adT (r.length : Int) (fd : Int)) := by
      unfold memT
      rw [if_neg (show ¬ (2 : Int) = 0 by decide), if_neg (show ¬ (2 : Int) = 1 by decide), ad_next h0]
    rw [step_first, ad_next h0, e2]
    obtain ⟨A, C, rfl, _, _, hA⟩ := R.slice
    obtain ⟨g, rfl⟩ := hA (by simp)
    have hr : r.length < 16 := by omega
    rcases lt_ten h9 with rfl | rfl | rfl | rfl | rfl | rfl | rfl | rfl | rfl | rfl
    · omega
    · exact tk_1 hBm hc S h R hBK hr ⟨by omega, h4⟩ ho
    · exact tk_2 hBm hc S h R hBK hr ⟨by omega, h4⟩ ho
    · exact tk_3 hBm hc S h R hBK hr ⟨by omega, h4⟩ ho
    · exact tk_4 hBm hc S h R hBK hr ⟨by omega, h4⟩ ho
    · exact tk_5 hBm hc S h R hBK hr ⟨by omega, h4⟩ ho
    · exact tk_6 hBm hc S h R hBK hr ⟨by omega, h4⟩ ho
    · exact tk_7 hBm hc S h R hBK hr ⟨by omega, h4⟩ ho
    · exact tk_8 hBm hc S h R hBK hr ⟨by omega, h4⟩ ho
    · exact tk_9 hBm hc S h R hBK hr ⟨by omega, h4⟩ ho
  | @over k l bl h1 h4 hl hk hz =>
    have e1 : stepS M.V ⟨0, l, bl, 0⟩ = ⟨0, l, bl, 0⟩ := by simp [stepS]
    have e2 : memT M ⟨0, l, bl, 0⟩ = M := by simp [memT]
    rw [e1, e2]
    exact tk_over hBm S h R
set_option maxRecDepth 100000 in
set_option maxHeartbeats 4000000 in
theorem docTNew (w : World) : Calls Tryd.prog 10 #[] w fun e w' => ∃ K, e = .returned (.pointer (some ⟨K, 0, none⟩)) ∧ Bk K 38 (RDt SG.new (.slice none 0 0)) w' ∧ w.heap.size ≤ K ∧ Below w.heap.size w w' := by
  have HB := Lib.hid ((Below.refl w.heap.size w).alloc (Nat.le_refl _) (.cells #[.int .i64 1, .slice none 0 0, .int .u64 0, .int .i64 0, .int .i64 0] 38))
  have HQ := Lib.hid (Bk.new w [.int .i64 1, .slice none 0 0, .int .u64 0, .int .i64 0, .int .i64 0] 38)
  go_enter Tryd.func10, Tryd.ntmps10
  go_wp2_with fail
  go_ret
  exact ⟨_, rfl, HQ.out, Nat.le_refl _, HB.out⟩
theorem cost_take {xs : List TH} {i : Nat} (h : i < xs.length) : costL (xs.take (i + 1)) = costL (xs.take i) + (if (xs.getD i TH.zero).o = 0 then 1 else 10) := by
  rw [takeH_next h, cost_app]
  simp [costL, costT]
set_option maxRecDepth 100000 in
set_option maxHeartbeats 4000000 in
/-- How many steps a snapshot takes: the document's. -/
theorem docSteps {A : Option Addr} {N C : Nat} {ep : Int} {xs : List TH} (h : SeeH w (.slice A N C) xs) (hn : N < 1000) : Calls Tryd.prog 20 #[.agg #[.slice A N C, .int .u64 ep]] w fun e w' => e = .returned (.int .i64 ((1 + costL xs : Nat) : Int)) ∧ Below w.heap.size w w' := by
  have HN := Lib.hid h.len
  have hA := (Below.refl w.heap.size w).alloc (Nat.le_refl _) (.cells #[.slice A N C, .int .u64 ep] 36)
  have HA := Lib.hid hA
  have HX := Lib.hid (h.below hA)
  have HQ := Lib.hid (Bq.new w [.slice A N C, .int .u64 ep] 36)
  clear h hA
  go_enter Tryd.func20, Tryd.ntmps20
  go_wp2_with fail
  revert HA HX HQ
  generalize w.alloc (.cells #[.slice A N C, .int .u64 ep] 36) = w1
  intro HA HX HQ
  have hc := HQ.out.cell 0
  dsimp only [List.getElem?_cons_zero] at hc
  go_loopw [3, 4] (fun x j wr => ∃ i m : Nat, i ≤ N ∧ j = .int .i64 (i : Int) ∧ x = .int .i64 (m : Int) ∧ m = 1 + costL (xs.take i) ∧ wr = w1) (fun _ j _ => N - (intOf j).toNat)
  case atStart => exact ⟨0, 1, Nat.zero_le _, rfl, rfl, by simp [costL], rfl⟩
  case round =>
    obtain ⟨i, m, hi, rfl, rfl, hm, rfl⟩ := hrel
    have hge : (0 : Int) ≤ (i : Int) := by omega
    have hm1 : m ≤ 1 + 10 * N := by
      have := cost_le (xs.take i)
      rw [List.length_take] at this
      omega
    have HM := Lib.hid hm
    clear hm
    by_cases hlt : i < N
    · have hlt' : (i : Int) < (N : Int) := by omega
      obtain ⟨hc0, hc1, g1, o1, rfl⟩ := HX.out.addr (by omega)
      have x0 := (HX.out.ten (j := i) (by have := HN.out; omega)).1
      have HT := Lib.hid (cost_take (xs := xs) (i := i) (by have := HN.out; omega))
      rw [TH.get_o] at x0
      generalize (xs.getD i TH.zero).o = ow at *
      by_cases h0 : ow = 0
      · subst h0
        have HE := Lib.hid (show m + 1 = 1 + costL (xs.take (i + 1)) by rw [HT.out, HM.out, if_pos rfl]; omega)
        clear HM HT
        go_wp2_with fail
        go_roundw
        case rel => exact ⟨i + 1, m + 1, by omega, by go_num, by go_num, HE.out, by first | rfl | trivial⟩
        case measure => simp [intOf]; omega
      · have HE := Lib.hid (show m + 10 = 1 + costL (xs.take (i + 1)) by rw [HT.out, HM.out, if_neg h0]; omega)
        clear HM HT
        go_wp2_with fail
        go_roundw
        case rel => exact ⟨i + 1, m + 10, by omega, by go_num, by go_num, HE.out, by first | rfl | trivial⟩
        case measure => simp [intOf]; omega
    · have hin : i = N := by omega
      have hnl : ¬ (i : Int) < (N : Int) := by omega
      have HE := Lib.hid (show m = 1 + costL xs by rw [HM.out, List.take_of_length_le (by have := HN.out; omega)])
      clear hin HM
      go_wp2_with fail
      go_ret
      have hE : (1 : Int) + ((costL xs : Nat) : Int) = (m : Int) := by have := HE.out; omega
      exact ⟨by rw [hE]; rfl, HA.out⟩
end
end Go.Proofs.YtapcgikamldchaaDoor
