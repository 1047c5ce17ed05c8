/-
  Package allocs; conditions as each theorem says.
-/
import Derived.Test.YtmjcbjcnmgleaaaGreatDoorXP21
namespace Go.Proofs.YtmjcbjcnmgleaaaGreatDoor
open Go.RowKit Go.Maps
def maV (V : Ad → Int) : MA := ⟨⟨V adF, fun s => if 0 ≤ s ∧ s < 256 then V (adS s) else 0⟩, fun s => if 0 ≤ s ∧ s < 256 then V (adH s) else 0, fun g => if 0 ≤ g ∧ g < 32 then V (adG g) else 0, fun g => if 0 ≤ g ∧ g < 32 then V (adP g) else 0⟩
theorem g_i64 {g : Int} (h : 0 ≤ g ∧ g < 32) : I64w g := i64w_in (by omega) (by omega)
theorem adS_at {s : Int} (h : I64w s) : (adS s).k = 9 ∧ (adS s).a = s ∧ (adS s).f = 2 := by rw [adS_eq h]; exact ⟨rfl, rfl, rfl⟩
theorem ad_ne {x y : Ad} (h : x.k ≠ y.k ∨ x.a ≠ y.a ∨ x.f ≠ y.f) : x ≠ y := by
  rintro rfl
  rcases h with h | h | h <;> exact h rfl
section
variable {V : Ad → Int} {s k g j v : Int}
theorem ms_ne (hs : 0 ≤ s ∧ s < 256) : adS s ≠ adF ∧ adH s ≠ adF ∧ adB s ≠ adF := by
  have h := slot_i64 hs
  exact ⟨ad_ne (.inl (by rw [(adS_at h).1]; decide)), ad_ne (.inl (by rw [(adH_at h).1]; decide)), ad_ne (.inl (by rw [(adB_at h).1]; decide))⟩
theorem mg_ne (hg : 0 ≤ g ∧ g < 32) : adG g ≠ adF ∧ adP g ≠ adF := by
  have h := g_i64 hg
  exact ⟨ad_ne (.inl (by rw [(adG_at h).1]; decide)), ad_ne (.inl (by rw [(adP_at h).1]; decide))⟩
theorem may_S (hs : 0 ≤ s ∧ s < 256) : mayB (adS s).k (adS s).a (adS s).f = true := by
  obtain ⟨e1, e2, e3⟩ := adS_at (slot_i64 hs)
  rw [e1, e2, e3]
  simp [mayB, atRoom, fieldRoom, hs.1, hs.2]
theorem may_H (hs : 0 ≤ s ∧ s < 256) : mayB (adH s).k (adH s).a (adH s).f = true := by
  obtain ⟨e1, e2, e3⟩ := adH_at (slot_i64 hs)
  rw [e1, e2, e3]
  simp [mayB, atRoom, fieldRoom, hs.1, hs.2]
theorem may_G (hg : 0 ≤ g ∧ g < 32) : mayB (adG g).k (adG g).a (adG g).f = true := by
  obtain ⟨e1, e2, e3⟩ := adG_at (g_i64 hg)
  rw [e1, e2, e3]
  simp [mayB, atRoom, fieldRoom, hg.1, hg.2]
theorem may_P (hg : 0 ≤ g ∧ g < 32) : mayB (adP g).k (adP g).a (adP g).f = true := by
  obtain ⟨e1, e2, e3⟩ := adP_at (g_i64 hg)
  rw [e1, e2, e3]
  simp [mayB, atRoom, fieldRoom, hg.1, hg.2]
theorem ss_ne (hs : 0 ≤ s ∧ s < 256) (hk : 0 ≤ k ∧ k < 256) : (k ≠ s → adS k ≠ adS s ∧ adH k ≠ adH s) ∧ adS k ≠ adH s ∧ adH k ≠ adS s ∧ adS k ≠ adB s ∧ adH k ≠ adB s ∧ adB k ≠ adS s ∧ adB k ≠ adH s := by
  obtain ⟨a1, a2, a3⟩ := adS_at (slot_i64 hs)
  obtain ⟨b1, b2, b3⟩ := adH_at (slot_i64 hs)
  obtain ⟨c1, c2, c3⟩ := adB_at (slot_i64 hs)
  obtain ⟨d1, d2, d3⟩ := adS_at (slot_i64 hk)
  obtain ⟨e1, e2, e3⟩ := adH_at (slot_i64 hk)
  obtain ⟨f1, f2, f3⟩ := adB_at (slot_i64 hk)
  exact ⟨fun h => ⟨ad_ne (.inr (.inl (by rw [d2, a2]; exact h))), ad_ne (.inr (.inl (by rw [e2, b2]; exact h)))⟩, ad_ne (.inr (.inr (by rw [d3, b3]; decide))), ad_ne (.inr (.inr (by rw [e3, a3]; decide))), ad_ne (.inr (.inr (by rw [d3, c3]; decide))), ad_ne (.inr (.inr (by rw [e3, c3]; decide))), ad_ne (.inr (.inr (by rw [f3, a3]; decide))), ad_ne (.inr (.inr (by rw [f3, b3]; decide)))⟩
theorem gg_ne (hg : 0 ≤ g ∧ g < 32) (hj : 0 ≤ j ∧ j < 32) : (j ≠ g → adP j ≠ adP g ∧ adG j ≠ adG g) ∧ adG j ≠ adP g ∧ adP j ≠ adG g := by
  obtain ⟨a1, a2, a3⟩ := adP_at (g_i64 hg)
  obtain ⟨b1, b2, b3⟩ := adG_at (g_i64 hg)
  obtain ⟨d1, d2, d3⟩ := adP_at (g_i64 hj)
  obtain ⟨e1, e2, e3⟩ := adG_at (g_i64 hj)
  exact ⟨fun h => ⟨ad_ne (.inr (.inl (by rw [d2, a2]; exact h))), ad_ne (.inr (.inl (by rw [e2, b2]; exact h)))⟩, ad_ne (.inr (.inr (by rw [e3, a3]; decide))), ad_ne (.inr (.inr (by rw [d3, b3]; decide)))⟩
theorem sg_ne (hs : 0 ≤ s ∧ s < 256) (hg : 0 ≤ g ∧ g < 32) : adS s ≠ adP g ∧ adH s ≠ adP g ∧ adB s ≠ adP g ∧ adS s ≠ adG g ∧ adH s ≠ adG g ∧ adB s ≠ adG g := by
  have a := (adS_at (slot_i64 hs)).1
  have b := (adH_at (slot_i64 hs)).1
  have c := (adB_at (slot_i64 hs)).1
  have d := (adP_at (g_i64 hg)).1
  have e := (adG_at (g_i64 hg)).1
  exact ⟨ad_ne (.inl (by rw [a, d]; decide)), ad_ne (.inl (by rw [b, d]; decide)), ad_ne (.inl (by rw [c, d]; decide)), ad_ne (.inl (by rw [a, e]; decide)), ad_ne (.inl (by rw [b, e]; decide)), ad_ne (.inl (by rw [c, e]; decide))⟩
theorem ma_ext {a b : MA} (h1 : a.ms.hd = b.ms.hd) (h2 : ∀ k, a.ms.lk k = b.ms.lk k) (h3 : ∀ k, a.hdr k = b.hdr k) (h4 : ∀ k, a.sst k = b.sst k) (h5 : ∀ k, a.spk k = b.spk k) : a = b := by
  obtain ⟨⟨a1, a2⟩, a3, a4, a5⟩ := a
  obtain ⟨⟨b1, b2⟩, b3, b4, b5⟩ := b
  obtain rfl : a1 = b1 := h1
  obtain rfl : a2 = b2 := funext h2
  obtain rfl : a3 = b3 := funext h3
  obtain rfl : a4 = b4 := funext h4
  obtain rfl : a5 = b5 := funext h5
  rfl
theorem if_same' {c : Prop} [Decidable c] {x y z : Int} (h : c → x = y) : (if c then x else z) = if c then y else z := by
  by_cases hc : c
  · rw [if_pos hc, if_pos hc, h hc]
  · rw [if_neg hc, if_neg hc]
theorem ma_setH (hs : 0 ≤ s ∧ s < 256) (v : Int) : maV (setV V (adH s) v) = (maV V).setH s v := by
  refine ma_ext (setV_other (ms_ne hs).2.1.symm v) (fun _ => if_same' fun hk => setV_other (ss_ne hs hk).2.1 v) (fun k => ?_) (fun _ => if_same' fun hg => setV_other (sg_ne hs hg).2.2.2.2.1.symm v) (fun _ => if_same' fun hg => setV_other (sg_ne hs hg).2.1.symm v)
  show (if 0 ≤ k ∧ k < 256 then setV V (adH s) v (adH k) else 0) = if k = s then v else if 0 ≤ k ∧ k < 256 then V (adH k) else 0
  by_cases e : k = s
  · subst e; rw [if_pos hs, if_pos rfl, setV_same (may_H hs)]
  · rw [if_neg e]; exact if_same' fun hk => setV_other ((ss_ne hs hk).1 e).2 v
theorem ma_setB (hs : 0 ≤ s ∧ s < 256) (v : Int) : maV (setV V (adB s) v) = maV V :=
  ma_ext (setV_other (ms_ne hs).2.2.symm v) (fun _ => if_same' fun hk => setV_other (ss_ne hs hk).2.2.2.1 v) (fun _ => if_same' fun hk => setV_other (ss_ne hs hk).2.2.2.2.1 v) (fun _ => if_same' fun hg => setV_other (sg_ne hs hg).2.2.2.2.2.symm v) (fun _ => if_same' fun hg => setV_other (sg_ne hs hg).2.2.1.symm v)
theorem ma_link (hs : 0 ≤ s ∧ s < 256) (v : Int) : maV (setV V (adS s) v) = { maV V with ms := (maV V).ms.link s v } := by
  refine ma_ext (setV_other (ms_ne hs).1.symm v) (fun k => ?_) (fun _ => if_same' fun hk => setV_other (ss_ne hs hk).2.2.1 v) (fun _ => if_same' fun hg => setV_other (sg_ne hs hg).2.2.2.1.symm v) (fun _ => if_same' fun hg => setV_other (sg_ne hs hg).1.symm v)
  show (if 0 ≤ k ∧ k < 256 then setV V (adS s) v (adS k) else 0) = if k = s then v else if 0 ≤ k ∧ k < 256 then V (adS k) else 0
  by_cases e : k = s
  · subst e; rw [if_pos hs, if_pos rfl, setV_same (may_S hs)]
  · rw [if_neg e]; exact if_same' fun hk => setV_other ((ss_ne hs hk).1 e).1 v
theorem ma_head (v : Int) : maV (setV V adF v) = { maV V with ms := ⟨v, (maV V).ms.lk⟩ } :=
  ma_ext (setV_same (V := V) mayW v) (fun _ => if_same' fun hk => setV_other (ms_ne hk).1 v) (fun _ => if_same' fun hk => setV_other (ms_ne hk).2.1 v) (fun _ => if_same' fun hg => setV_other (mg_ne hg).1 v) (fun _ => if_same' fun hg => setV_other (mg_ne hg).2 v)
theorem ma_setP (hg : 0 ≤ g ∧ g < 32) (v : Int) : maV (setV V (adP g) v) = (maV V).setP g v := by
  refine ma_ext (setV_other (mg_ne hg).2.symm v) (fun _ => if_same' fun hk => setV_other (sg_ne hk hg).1 v) (fun _ => if_same' fun hk => setV_other (sg_ne hk hg).2.1 v) (fun _ => if_same' fun hj => setV_other (gg_ne hg hj).2.1 v) (fun j => ?_)
  show (if 0 ≤ j ∧ j < 32 then setV V (adP g) v (adP j) else 0) = if j = g then v else if 0 ≤ j ∧ j < 32 then V (adP j) else 0
  by_cases e : j = g
  · subst e; rw [if_pos hg, if_pos rfl, setV_same (may_P hg)]
  · rw [if_neg e]; exact if_same' fun hj => setV_other ((gg_ne hg hj).1 e).1 v
theorem ma_setD (hg : 0 ≤ g ∧ g < 32) (v : Int) : maV (setV V (adG g) v) = (maV V).setD g v := by
  refine ma_ext (setV_other (mg_ne hg).1.symm v) (fun _ => if_same' fun hk => setV_other (sg_ne hk hg).2.2.2.1 v) (fun _ => if_same' fun hk => setV_other (sg_ne hk hg).2.2.2.2.1 v) (fun j => ?_) (fun _ => if_same' fun hj => setV_other (gg_ne hg hj).2.2 v)
  show (if 0 ≤ j ∧ j < 32 then setV V (adG g) v (adG j) else 0) = if j = g then v else if 0 ≤ j ∧ j < 32 then V (adG j) else 0
  by_cases e : j = g
  · subst e; rw [if_pos hg, if_pos rfl, setV_same (may_G hg)]
  · rw [if_neg e]; exact if_same' fun hj => setV_other ((gg_ne hg hj).1 e).2 v
theorem ma_hdr (hs : 0 ≤ s ∧ s < 256) : (maV V).hdr s = V (adH s) := if_pos hs
theorem ma_lk (hs : 0 ≤ s ∧ s < 256) : (maV V).ms.lk s = V (adS s) := if_pos hs
theorem ma_sst (hg : 0 ≤ g ∧ g < 32) : (maV V).sst g = V (adG g) := if_pos hg
theorem ma_spk (hg : 0 ≤ g ∧ g < 32) : (maV V).spk g = V (adP g) := if_pos hg
theorem seg_in (hs : 0 ≤ s ∧ s < 256) : 0 ≤ segF s ∧ segF s < 32 := by unfold segF; omega
theorem casV_P (hs : 0 ≤ s ∧ s < 256) (u : Int) : casV V (adP (segF s)) u = decide ((maV V).spk (segF s) = u) := by
  unfold casV
  rw [may_P (seg_in hs), ma_spk (seg_in hs)]
  rfl
theorem casV_H (hs : 0 ≤ s ∧ s < 256) (u : Int) : casV V (adH s) u = decide ((maV V).hdr s = u) := by
  unfold casV
  rw [may_H hs, ma_hdr hs]
  rfl
theorem ma_csP (hs : 0 ≤ s ∧ s < 256) (u v : Int) : maV (csV V (adP (segF s)) u v) = if (maV V).spk (segF s) = u then (maV V).setP (segF s) v else maV V := by
  unfold csV
  rw [casV_P hs]
  by_cases h : (maV V).spk (segF s) = u
  · rw [if_pos h, if_pos (by simpa using h), ma_setP (seg_in hs)]
  · rw [if_neg h, if_neg (by simpa using h)]
theorem ma_csH (hs : 0 ≤ s ∧ s < 256) (u v : Int) : maV (csV V (adH s) u v) = if (maV V).hdr s = u then (maV V).setH s v else maV V := by
  unfold csV
  rw [casV_H hs]
  by_cases h : (maV V).hdr s = u
  · rw [if_pos h, if_pos (by simpa using h), ma_setH hs]
  · rw [if_neg h, if_neg (by simpa using h)]
end
theorem swapX_ma (o : OS) (M : MV) : swapF o (maV M.V).ms = ((swapX o M).1, (maV (swapX o M).2.V).ms) ∧ maV (swapX o M).2.V = { maV M.V with ms := (swapF o (maV M.V).ms).2 } := by
  have e : (swapX o M).2.V = if M.V adF = o.h then setV M.V adF (nextW o.h o.to) else M.V := csV_F _ _ _
  rw [e]
  unfold swapF swapX
  by_cases h : M.V adF = o.h
  · rw [if_pos h, if_pos (show (maV M.V).ms.hd = o.h from h), if_pos h, ma_head]; exact ⟨rfl, rfl⟩
  · rw [if_neg h, if_neg (show ¬ (maV M.V).ms.hd = o.h from h), if_neg h]; exact ⟨rfl, rfl⟩
theorem popX_ma (o : OS) (M : MV) (h2 : o.nx = 2 → 0 ≤ wSlot o.h) : (popF o (maV M.V).ms).1 = (popX o M).1 ∧ maV (popX o M).2.V = { maV M.V with ms := (popF o (maV M.V).ms).2 } := by
  unfold popF popX
  by_cases h : o.nx = 1
  · rw [if_pos h, if_pos h]; exact ⟨rfl, rfl⟩
  rw [if_neg h, if_neg h]
  by_cases h : o.nx = 2
  · rw [if_pos h, if_pos h, ma_lk ⟨h2 h, by have := (slot_in o.h).2; omega⟩]; exact ⟨rfl, rfl⟩
  rw [if_neg h, if_neg h]
  by_cases h : o.nx = 3
  · rw [if_pos h, if_pos h]
    obtain ⟨h1, h2⟩ := swapX_ma o M
    exact ⟨by rw [h1], h2⟩
  · rw [if_neg h, if_neg h]; exact ⟨rfl, rfl⟩
theorem pushX_ma (o : OS) (M : MV) (h2 : o.nx = 2 → 0 ≤ o.to ∧ o.to < 256) : (pushF o (maV M.V).ms).1 = (pushX o M).1 ∧ maV (pushX o M).2.V = { maV M.V with ms := (pushF o (maV M.V).ms).2 } := by
  unfold pushF pushX
  by_cases h : o.nx = 1
  · rw [if_pos h, if_pos h]; exact ⟨rfl, rfl⟩
  rw [if_neg h, if_neg h]
  by_cases h : o.nx = 2
  · rw [if_pos h, if_pos h]; exact ⟨rfl, ma_link (h2 h) _⟩
  rw [if_neg h, if_neg h]
  by_cases h : o.nx = 3
  · rw [if_pos h, if_pos h]
    obtain ⟨h1, h2⟩ := swapX_ma o M
    exact ⟨by rw [h1], h2⟩
  · rw [if_neg h, if_neg h]; exact ⟨rfl, rfl⟩
theorem parkX_ma (o : PO) (M : MV) (ok : PkNum o) : parkF o (maV M.V) = ((parkX o M).1, maV (parkX o M).2.V) := by
  have hs := ok.sl
  have hg := seg_in hs
  have ln := ok.ln
  obtain h | h | h | h | h | h | h | h | h | h | h | h | h : o.ln = 0 ∨ o.ln = 1 ∨ o.ln = 2 ∨ o.ln = 3 ∨ o.ln = 4 ∨ o.ln = 5 ∨ o.ln = 6 ∨ o.ln = 7 ∨ o.ln = 8 ∨ o.ln = 9 ∨ o.ln = 10 ∨ o.ln = 11 ∨ o.ln = 12 := by omega
  all_goals
    obtain ⟨R, hR⟩ : ∃ R, parkX o M = R := ⟨_, rfl⟩
    rw [hR]
    unfold parkX at hR
  · rw [if_neg (by omega), if_neg (by omega), if_neg (by omega), if_neg (by omega), if_neg (by omega), if_neg (by omega), if_neg (by omega), if_neg (by omega), if_neg (by omega), if_neg (by omega), if_neg (by omega), if_neg (by omega)] at hR
    subst hR
    unfold parkF
    rw [if_neg (by omega), if_neg (by omega), if_neg (by omega), if_neg (by omega), if_neg (by omega), if_neg (by omega), if_neg (by omega), if_neg (by omega), if_neg (by omega), if_neg (by omega), if_neg (by omega), if_neg (by omega)]
  · rw [if_pos h] at hR
    subst hR
    unfold parkF
    rw [if_pos h]
    rw [ma_hdr hs]; rfl
  · rw [if_neg (by omega), if_pos h] at hR
    subst hR
    unfold parkF
    rw [if_neg (by omega), if_pos h]
    show _ = (_, maV (setV M.V (adH o.sl) _)); rw [ma_setH hs]
  · rw [if_neg (by omega), if_neg (by omega), if_pos h] at hR
    subst hR
    unfold parkF
    rw [if_neg (by omega), if_neg (by omega), if_pos h]
    rw [ma_spk hg]; rfl
  · rw [if_neg (by omega), if_neg (by omega), if_neg (by omega), if_pos h] at hR
    subst hR
    unfold parkF
    rw [if_neg (by omega), if_neg (by omega), if_neg (by omega), if_pos h]
    show _ = (_, maV (csV M.V (adP (segF o.sl)) o.n _))
    rw [ma_csP hs, casV_P hs]
    by_cases hc : (maV M.V).spk (segF o.sl) = o.n
    · rw [if_pos hc, if_pos hc, decide_eq_true hc]; rfl
    · rw [if_neg hc, if_neg hc, decide_eq_false hc]; rfl
  · rw [if_neg (by omega), if_neg (by omega), if_neg (by omega), if_neg (by omega), if_pos h] at hR
    subst hR
    unfold parkF
    rw [if_neg (by omega), if_neg (by omega), if_neg (by omega), if_neg (by omega), if_pos h]
    rw [ma_sst hg]; rfl
  · rw [if_neg (by omega), if_neg (by omega), if_neg (by omega), if_neg (by omega), if_neg (by omega), if_pos h] at hR
    subst hR
    unfold parkF
    rw [if_neg (by omega), if_neg (by omega), if_neg (by omega), if_neg (by omega), if_neg (by omega), if_pos h]
    rw [ma_spk hg]; rfl
  · rw [if_neg (by omega), if_neg (by omega), if_neg (by omega), if_neg (by omega), if_neg (by omega), if_neg (by omega), if_pos h] at hR
    subst hR
    unfold parkF
    rw [if_neg (by omega), if_neg (by omega), if_neg (by omega), if_neg (by omega), if_neg (by omega), if_neg (by omega), if_pos h]
    show _ = (_, maV (csV M.V (adP (segF o.sl)) o.n _))
    rw [ma_csP hs, casV_P hs]
    by_cases hc : (maV M.V).spk (segF o.sl) = o.n
    · rw [if_pos hc, if_pos hc, decide_eq_true hc]; rfl
    · rw [if_neg hc, if_neg hc, decide_eq_false hc]; rfl
  · rw [if_neg (by omega), if_neg (by omega), if_neg (by omega), if_neg (by omega), if_neg (by omega), if_neg (by omega), if_neg (by omega), if_pos h] at hR
    subst hR
    unfold parkF
    rw [if_neg (by omega), if_neg (by omega), if_neg (by omega), if_neg (by omega), if_neg (by omega), if_neg (by omega), if_neg (by omega), if_pos h]
    rw [ma_sst hg]
    by_cases hc : M.V (adG (segF o.sl)) = 1
    · rw [if_pos hc, if_pos hc]; rfl
    · rw [if_neg hc, if_neg hc]; rfl
  · rw [if_neg (by omega), if_neg (by omega), if_neg (by omega), if_neg (by omega), if_neg (by omega), if_neg (by omega), if_neg (by omega), if_neg (by omega), if_pos h] at hR
    subst hR
    unfold parkF
    rw [if_neg (by omega), if_neg (by omega), if_neg (by omega), if_neg (by omega), if_neg (by omega), if_neg (by omega), if_neg (by omega), if_neg (by omega), if_pos h]
    show _ = (_, maV (csV M.V (adH o.sl) _ _))
    rw [ma_csH hs, casV_H hs]
    by_cases hc : (maV M.V).hdr o.sl = headerW 3 (gW o.w)
    · rw [if_pos hc, if_pos hc, decide_eq_true hc]; rfl
    · rw [if_neg hc, if_neg hc, decide_eq_false hc]; rfl
  · rw [if_neg (by omega), if_neg (by omega), if_neg (by omega), if_neg (by omega), if_neg (by omega), if_neg (by omega), if_neg (by omega), if_neg (by omega), if_neg (by omega), if_pos h] at hR
    subst hR
    unfold parkF
    rw [if_neg (by omega), if_neg (by omega), if_neg (by omega), if_neg (by omega), if_neg (by omega), if_neg (by omega), if_neg (by omega), if_neg (by omega), if_neg (by omega), if_pos h]
    obtain ⟨e1, e2⟩ := pushX_ma o.psh M (fun _ => by rw [(ok.pnx h).2.2.2]; exact hs)
    rw [e2, e1]
  · rw [if_neg (by omega), if_neg (by omega), if_neg (by omega), if_neg (by omega), if_neg (by omega), if_neg (by omega), if_neg (by omega), if_neg (by omega), if_neg (by omega), if_neg (by omega), if_pos h] at hR
    subst hR
    unfold parkF
    rw [if_neg (by omega), if_neg (by omega), if_neg (by omega), if_neg (by omega), if_neg (by omega), if_neg (by omega), if_neg (by omega), if_neg (by omega), if_neg (by omega), if_neg (by omega), if_pos h]
    rw [ma_spk hg]; rfl
  · rw [if_neg (by omega), if_neg (by omega), if_neg (by omega), if_neg (by omega), if_neg (by omega), if_neg (by omega), if_neg (by omega), if_neg (by omega), if_neg (by omega), if_neg (by omega), if_neg (by omega), if_pos h] at hR
    subst hR
    unfold parkF
    rw [if_neg (by omega), if_neg (by omega), if_neg (by omega), if_neg (by omega), if_neg (by omega), if_neg (by omega), if_neg (by omega), if_neg (by omega), if_neg (by omega), if_neg (by omega), if_neg (by omega), if_pos h]
    show _ = (_, maV (csV M.V (adP (segF o.sl)) o.n _))
    rw [ma_csP hs, casV_P hs]
    by_cases hc : (maV M.V).spk (segF o.sl) = o.n
    · rw [if_pos hc, if_pos hc, decide_eq_true hc]; rfl
    · rw [if_neg hc, if_neg hc, decide_eq_false hc]; rfl
theorem alX_ma (o : AX) (M : MV) (ok : AlNum o) (h2 : o.o.ln = 1 → o.o.pop.nx = 2 → 0 ≤ wSlot o.o.pop.h) : alF o.o (maV M.V) = ((alX o M).1.o, maV (alX o M).2.V) := by
  have ln := ok.ln
  obtain h | h | h | h | h | h | h | h : o.o.ln = 0 ∨ o.o.ln = 1 ∨ o.o.ln = 2 ∨ o.o.ln = 3 ∨ o.o.ln = 4 ∨ o.o.ln = 5 ∨ o.o.ln = 6 ∨ o.o.ln = 7 := by omega
  all_goals
    obtain ⟨R, hR⟩ : ∃ R, alX o M = R := ⟨_, rfl⟩
    rw [hR]
    unfold alX at hR
  · rw [if_neg (by omega), if_neg (by omega), if_neg (by omega), if_neg (by omega), if_neg (by omega), if_neg (by omega), if_neg (by omega)] at hR
    subst hR
    unfold alF
    rw [if_neg (by omega), if_neg (by omega), if_neg (by omega), if_neg (by omega), if_neg (by omega), if_neg (by omega), if_neg (by omega)]
  · rw [if_pos h] at hR
    subst hR
    unfold alF
    rw [if_pos h]
    obtain ⟨e1, e2⟩ := popX_ma o.o.pop M (h2 h)
    rw [e2, e1]
    by_cases hc : (popX o.o.pop M).1.nx = 0
    · rw [if_pos hc, if_pos hc]
      by_cases hn : wSlot (popX o.o.pop M).1.h < 0
      · rw [if_pos hn, if_pos hn]
      · rw [if_neg hn, if_neg hn]
    · rw [if_neg hc, if_neg hc]
  · rw [if_neg (by omega), if_pos h] at hR
    subst hR
    unfold alF
    rw [if_neg (by omega), if_pos h]
    have hs := ok.sl (by omega)
    have hg := seg_in hs
    rw [ma_sst hg]; rfl
  · rw [if_neg (by omega), if_neg (by omega), if_pos h] at hR
    subst hR
    unfold alF
    rw [if_neg (by omega), if_neg (by omega), if_pos h]
    rw [parkX_ma o.o.pk M (ok.pk h).1]
  · rw [if_neg (by omega), if_neg (by omega), if_neg (by omega), if_pos h] at hR
    subst hR
    unfold alF
    rw [if_neg (by omega), if_neg (by omega), if_neg (by omega), if_pos h]
    rfl
  · rw [if_neg (by omega), if_neg (by omega), if_neg (by omega), if_neg (by omega), if_pos h] at hR
    subst hR
    unfold alF
    rw [if_neg (by omega), if_neg (by omega), if_neg (by omega), if_neg (by omega), if_pos h]
    have hs := ok.sl (by omega)
    have hg := seg_in hs
    show _ = (_, maV (setV M.V (adB o.o.sl) _)); rw [ma_setB hs]
  · rw [if_neg (by omega), if_neg (by omega), if_neg (by omega), if_neg (by omega), if_neg (by omega), if_pos h] at hR
    subst hR
    unfold alF
    rw [if_neg (by omega), if_neg (by omega), if_neg (by omega), if_neg (by omega), if_neg (by omega), if_pos h]
    have hs := ok.sl (by omega)
    have hg := seg_in hs
    rw [ma_hdr hs]; rfl
  · rw [if_neg (by omega), if_neg (by omega), if_neg (by omega), if_neg (by omega), if_neg (by omega), if_neg (by omega), if_pos h] at hR
    subst hR
    unfold alF
    rw [if_neg (by omega), if_neg (by omega), if_neg (by omega), if_neg (by omega), if_neg (by omega), if_neg (by omega), if_pos h]
    have hs := ok.sl (by omega)
    have hg := seg_in hs
    show _ = (_, maV (setV M.V (adH o.o.sl) _)); rw [ma_setH hs]
end Go.Proofs.YtmjcbjcnmgleaaaGreatDoor
namespace Go.Proofs.YtmjcbjcnmgleaaaGreatDoor
open Go.RowKit Go.Maps
theorem PkNum.new {s : Int} (h : 0 ≤ s ∧ s < 256) : PkNum (newPark s) := ⟨h, u64_0, u64_0, fun _ => rfl, fun _ _ => rfl, fun h => absurd (show (1 : Int) = 10 from h) (by decide), by show (0 : Int) ≤ 1; decide, by show (1 : Int) ≤ 12; decide⟩
theorem AlNum.new : AlNum ⟨newAl, 0⟩ := ⟨fun h => absurd h (by decide), u64_0, u64_0, fun _ => ⟨u64_0, by decide, by decide⟩, fun h => absurd h (by decide), fun _ => rfl, by decide⟩
theorem parkX_sl (o : PO) (M : MV) : (parkX o M).1.sl = o.sl := by
  unfold parkX
  by_cases h : o.ln = 1
  · rw [if_pos h]
  rw [if_neg h]
  clear h
  by_cases h : o.ln = 2
  · rw [if_pos h]
  rw [if_neg h]
  clear h
  by_cases h : o.ln = 3
  · rw [if_pos h]
  rw [if_neg h]
  clear h
  by_cases h : o.ln = 4
  · rw [if_pos h]
  rw [if_neg h]
  clear h
  by_cases h : o.ln = 5
  · rw [if_pos h]
    by_cases hc : M.V (adG (segF o.sl)) = 1
    · rw [if_pos hc]
    · rw [if_neg hc]
  rw [if_neg h]
  clear h
  by_cases h : o.ln = 6
  · rw [if_pos h]
  rw [if_neg h]
  clear h
  by_cases h : o.ln = 7
  · rw [if_pos h]
  rw [if_neg h]
  clear h
  by_cases h : o.ln = 8
  · rw [if_pos h]
  rw [if_neg h]
  clear h
  by_cases h : o.ln = 9
  · rw [if_pos h]
  rw [if_neg h]
  clear h
  by_cases h : o.ln = 10
  · rw [if_pos h]
  rw [if_neg h]
  clear h
  by_cases h : o.ln = 11
  · rw [if_pos h]
  rw [if_neg h]
  clear h
  by_cases h : o.ln = 12
  · rw [if_pos h]
  rw [if_neg h]
theorem PkNum.step {o : PO} {M : MV} (ok : PkNum o) (hM : ∀ x, U64 (M.V x)) : PkNum (parkX o M).1 := by
  have ln := ok.ln
  have hs := ok.sl
  obtain h | h | h | h | h | h | h | h | h | h | h | h | h : o.ln = 0 ∨ o.ln = 1 ∨ o.ln = 2 ∨ o.ln = 3 ∨ o.ln = 4 ∨ o.ln = 5 ∨ o.ln = 6 ∨ o.ln = 7 ∨ o.ln = 8 ∨ o.ln = 9 ∨ o.ln = 10 ∨ o.ln = 11 ∨ o.ln = 12 := by omega
  all_goals
    obtain ⟨R, hR⟩ : ∃ R, parkX o M = R := ⟨_, rfl⟩
    rw [hR]
    unfold parkX at hR
  · rw [if_neg (by omega), if_neg (by omega), if_neg (by omega), if_neg (by omega), if_neg (by omega), if_neg (by omega), if_neg (by omega), if_neg (by omega), if_neg (by omega), if_neg (by omega), if_neg (by omega), if_neg (by omega)] at hR
    subst hR
    exact ok
  · rw [if_pos h] at hR
    subst hR
    exact ⟨hs, hM _, ok.n, fun _ => ok.st (by omega), fun _ _ => ok.psh (by omega) (by omega), fun hh => absurd (show (2 : Int) = 10 from hh) (by decide), ⟨by show (0 : Int) ≤ 2; decide, by show (2 : Int) ≤ 12; decide⟩⟩
  · rw [if_neg (by omega), if_pos h] at hR
    subst hR
    exact ⟨hs, ok.w, ok.n, fun _ => ok.st (by omega), fun _ _ => ok.psh (by omega) (by omega), fun hh => absurd (show (3 : Int) = 10 from hh) (by decide), ⟨by show (0 : Int) ≤ 3; decide, by show (3 : Int) ≤ 12; decide⟩⟩
  · rw [if_neg (by omega), if_neg (by omega), if_pos h] at hR
    subst hR
    exact ⟨hs, ok.w, hM _, fun _ => ok.st (by omega), fun _ _ => ok.psh (by omega) (by omega), fun hh => absurd (show (4 : Int) = 10 from hh) (by decide), ⟨by show (0 : Int) ≤ 4; decide, by show (4 : Int) ≤ 12; decide⟩⟩
  · rw [if_neg (by omega), if_neg (by omega), if_neg (by omega), if_pos h] at hR
    subst hR
    by_cases hc : casV M.V (adP (segF o.sl)) o.n = true
    · rw [if_pos hc]; exact ⟨hs, ok.w, ok.n, fun _ => ok.st (by omega), fun _ _ => ok.psh (by omega) (by omega), fun hh => absurd (show (5 : Int) = 10 from hh) (by decide), ⟨by show (0 : Int) ≤ 5; decide, by show (5 : Int) ≤ 12; decide⟩⟩
    · rw [if_neg hc]; exact ⟨hs, ok.w, ok.n, fun _ => ok.st (by omega), fun _ _ => ok.psh (by omega) (by omega), fun hh => absurd (show (3 : Int) = 10 from hh) (by decide), ⟨by show (0 : Int) ≤ 3; decide, by show (3 : Int) ≤ 12; decide⟩⟩
  · rw [if_neg (by omega), if_neg (by omega), if_neg (by omega), if_neg (by omega), if_pos h] at hR
    subst hR
    by_cases hc : M.V (adG (segF o.sl)) = 1
    · rw [if_pos hc]; exact ⟨hs, ok.w, ok.n, fun _ => ok.st (by omega), fun _ _ => ok.psh (by omega) (by omega), fun hh => absurd (show (6 : Int) = 10 from hh) (by decide), ⟨by show (0 : Int) ≤ 6; decide, by show (6 : Int) ≤ 12; decide⟩⟩
    · rw [if_neg hc]; exact ⟨hs, ok.w, ok.n, fun hh => absurd rfl hh, fun hh => absurd rfl hh, fun hh => absurd (show (0 : Int) = 10 from hh) (by decide), ⟨by show (0 : Int) ≤ 0; decide, by show (0 : Int) ≤ 12; decide⟩⟩
  · rw [if_neg (by omega), if_neg (by omega), if_neg (by omega), if_neg (by omega), if_neg (by omega), if_pos h] at hR
    subst hR
    exact ⟨hs, ok.w, hM _, fun _ => ok.st (by omega), fun _ _ => ok.psh (by omega) (by omega), fun hh => absurd (show (7 : Int) = 10 from hh) (by decide), ⟨by show (0 : Int) ≤ 7; decide, by show (7 : Int) ≤ 12; decide⟩⟩
  · rw [if_neg (by omega), if_neg (by omega), if_neg (by omega), if_neg (by omega), if_neg (by omega), if_neg (by omega), if_pos h] at hR
    subst hR
    by_cases hc : casV M.V (adP (segF o.sl)) o.n = true
    · rw [if_pos hc]; exact ⟨hs, ok.w, ok.n, fun _ => ok.st (by omega), fun _ _ => ok.psh (by omega) (by omega), fun hh => absurd (show (8 : Int) = 10 from hh) (by decide), ⟨by show (0 : Int) ≤ 8; decide, by show (8 : Int) ≤ 12; decide⟩⟩
    · rw [if_neg hc]; exact ⟨hs, ok.w, ok.n, fun _ => ok.st (by omega), fun _ _ => ok.psh (by omega) (by omega), fun hh => absurd (show (6 : Int) = 10 from hh) (by decide), ⟨by show (0 : Int) ≤ 6; decide, by show (6 : Int) ≤ 12; decide⟩⟩
  · rw [if_neg (by omega), if_neg (by omega), if_neg (by omega), if_neg (by omega), if_neg (by omega), if_neg (by omega), if_neg (by omega), if_pos h] at hR
    subst hR
    by_cases hc : M.V (adG (segF o.sl)) = 1
    · rw [if_pos hc]; exact ⟨hs, ok.w, ok.n, fun _ => ok.st (by omega), fun _ _ => ok.psh (by omega) (by omega), fun hh => absurd (show (9 : Int) = 10 from hh) (by decide), ⟨by show (0 : Int) ≤ 9; decide, by show (9 : Int) ≤ 12; decide⟩⟩
    · rw [if_neg hc]; exact ⟨hs, ok.w, ok.n, fun _ => ok.st (by omega), fun _ _ => ok.psh (by omega) (by omega), fun hh => absurd (show (3 : Int) = 10 from hh) (by decide), ⟨by show (0 : Int) ≤ 3; decide, by show (3 : Int) ≤ 12; decide⟩⟩
  · rw [if_neg (by omega), if_neg (by omega), if_neg (by omega), if_neg (by omega), if_neg (by omega), if_neg (by omega), if_neg (by omega), if_neg (by omega), if_pos h] at hR
    subst hR
    have hp := ok.psh (by omega) (by omega)
    by_cases hc : casV M.V (adH o.sl) (headerW 3 (gW o.w)) = true
    · rw [if_pos hc]; exact ⟨hs, ok.w, ok.n, fun _ => ok.st (by omega), fun _ hh => absurd (show (10 : Int) ≤ 9 from hh) (by decide), fun _ => by show U64 o.psh.h ∧ 0 ≤ o.psh.nx ∧ o.psh.nx ≤ 3 ∧ o.psh.to = o.sl; rw [hp]; exact ⟨u64_0, by show (0 : Int) ≤ 1; decide, by show (1 : Int) ≤ 3; decide, rfl⟩, ⟨by show (0 : Int) ≤ 10; decide, by show (10 : Int) ≤ 12; decide⟩⟩
    · rw [if_neg hc]; exact ⟨hs, ok.w, ok.n, fun _ => ok.st (by omega), fun _ hh => absurd (show (11 : Int) ≤ 9 from hh) (by decide), fun hh => absurd (show (11 : Int) = 10 from hh) (by decide), ⟨by show (0 : Int) ≤ 11; decide, by show (11 : Int) ≤ 12; decide⟩⟩
  · rw [if_neg (by omega), if_neg (by omega), if_neg (by omega), if_neg (by omega), if_neg (by omega), if_neg (by omega), if_neg (by omega), if_neg (by omega), if_neg (by omega), if_pos h] at hR
    subst hR
    obtain ⟨p1, p2, p3, p4⟩ := ok.pnx h
    obtain ⟨q1, q2, q3, q4⟩ := pushX_in p1 hM ⟨p2, p3⟩
    by_cases hc : (pushX o.psh M).1.nx = 0
    · rw [if_pos hc]; exact ⟨hs, ok.w, ok.n, fun hh => absurd rfl hh, fun hh => absurd rfl hh, fun hh => absurd (show (0 : Int) = 10 from hh) (by decide), ⟨by show (0 : Int) ≤ 0; decide, by show (0 : Int) ≤ 12; decide⟩⟩
    · rw [if_neg hc]; exact ⟨hs, ok.w, ok.n, fun _ => ok.st (by omega), fun _ hh => absurd (show (10 : Int) ≤ 9 from hh) (by decide), fun _ => ⟨q1, q2, q3, q4.trans p4⟩, ⟨by show (0 : Int) ≤ 10; decide, by show (10 : Int) ≤ 12; decide⟩⟩
  · rw [if_neg (by omega), if_neg (by omega), if_neg (by omega), if_neg (by omega), if_neg (by omega), if_neg (by omega), if_neg (by omega), if_neg (by omega), if_neg (by omega), if_neg (by omega), if_pos h] at hR
    subst hR
    exact ⟨hs, ok.w, hM _, fun _ => ok.st (by omega), fun _ hh => absurd (show (12 : Int) ≤ 9 from hh) (by decide), fun hh => absurd (show (12 : Int) = 10 from hh) (by decide), ⟨by show (0 : Int) ≤ 12; decide, by show (12 : Int) ≤ 12; decide⟩⟩
  · rw [if_neg (by omega), if_neg (by omega), if_neg (by omega), if_neg (by omega), if_neg (by omega), if_neg (by omega), if_neg (by omega), if_neg (by omega), if_neg (by omega), if_neg (by omega), if_neg (by omega), if_pos h] at hR
    subst hR
    by_cases hc : casV M.V (adP (segF o.sl)) o.n = true
    · rw [if_pos hc]; exact ⟨hs, ok.w, ok.n, fun hh => absurd rfl hh, fun hh => absurd rfl hh, fun hh => absurd (show (0 : Int) = 10 from hh) (by decide), ⟨by show (0 : Int) ≤ 0; decide, by show (0 : Int) ≤ 12; decide⟩⟩
    · rw [if_neg hc]; exact ⟨hs, ok.w, ok.n, fun _ => ok.st (by omega), fun _ hh => absurd (show (11 : Int) ≤ 9 from hh) (by decide), fun hh => absurd (show (11 : Int) = 10 from hh) (by decide), ⟨by show (0 : Int) ≤ 11; decide, by show (11 : Int) ≤ 12; decide⟩⟩
theorem AlNum.step {o : AX} {M : MV} (ok : AlNum o) (hM : ∀ x, U64 (M.V x)) : AlNum (alX o M).1 := by
  have ln := ok.ln
  obtain h | h | h | h | h | h | h | h : o.o.ln = 0 ∨ o.o.ln = 1 ∨ o.o.ln = 2 ∨ o.o.ln = 3 ∨ o.o.ln = 4 ∨ o.o.ln = 5 ∨ o.o.ln = 6 ∨ o.o.ln = 7 := by omega
  all_goals
    obtain ⟨R, hR⟩ : ∃ R, alX o M = R := ⟨_, rfl⟩
    rw [hR]
    unfold alX at hR
  · rw [if_neg (by omega), if_neg (by omega), if_neg (by omega), if_neg (by omega), if_neg (by omega), if_neg (by omega), if_neg (by omega)] at hR
    subst hR
    exact ok
  · rw [if_pos h] at hR
    subst hR
    obtain ⟨p1, p2, p3⟩ := ok.pop h
    obtain ⟨q1, q2, q3⟩ := popX_in p1 hM ⟨p2, p3⟩
    by_cases hc : (popX o.o.pop M).1.nx = 0
    · rw [if_pos hc]
      by_cases hn : wSlot (popX o.o.pop M).1.h < 0
      · rw [if_pos hn]; exact ⟨fun hh => absurd (show (2 : Int) ≤ 0 from hh) (by decide), ok.w, ok.e, fun hh => absurd (show (0 : Int) = 1 from hh) (by decide), fun hh => absurd (show (0 : Int) = 3 from hh) (by decide), fun hh => absurd rfl hh, ⟨by show (0 : Int) ≤ 0; decide, by show (0 : Int) ≤ 7; decide⟩⟩
      · rw [if_neg hn]; exact ⟨fun _ => ⟨by show 0 ≤ wSlot _; omega, by have := (slot_in (popX o.o.pop M).1.h).2; show wSlot _ < 256; omega⟩, ok.w, ok.e, fun hh => absurd (show (2 : Int) = 1 from hh) (by decide), fun hh => absurd (show (2 : Int) = 3 from hh) (by decide), fun _ => ok.got (by omega), ⟨by show (0 : Int) ≤ 2; decide, by show (2 : Int) ≤ 7; decide⟩⟩
    · rw [if_neg hc]; exact ⟨fun hh => absurd (show (2 : Int) ≤ o.o.ln from hh) (by omega), ok.w, ok.e, fun _ => ⟨q1, q2, q3⟩, fun hh => absurd (show o.o.ln = 3 from hh) (by omega), fun _ => ok.got (by omega), ok.ln⟩
  · rw [if_neg (by omega), if_pos h] at hR
    subst hR
    by_cases hc : M.V (adG (segF o.o.sl)) = 2
    · rw [if_pos hc]; exact ⟨fun _ => ok.sl (by omega), ok.w, ok.e, fun hh => absurd (show (3 : Int) = 1 from hh) (by decide), fun _ => ⟨PkNum.new (ok.sl (by omega)), by show (1 : Int) ≠ 0; decide, rfl⟩, fun _ => ok.got (by omega), ⟨by show (0 : Int) ≤ 3; decide, by show (3 : Int) ≤ 7; decide⟩⟩
    · rw [if_neg hc]; exact ⟨fun _ => ok.sl (by omega), ok.w, ok.e, fun hh => absurd (show (4 : Int) = 1 from hh) (by decide), fun hh => absurd (show (4 : Int) = 3 from hh) (by decide), fun _ => ok.got (by omega), ⟨by show (0 : Int) ≤ 4; decide, by show (4 : Int) ≤ 7; decide⟩⟩
  · rw [if_neg (by omega), if_neg (by omega), if_pos h] at hR
    subst hR
    obtain ⟨p1, p2, p3⟩ := ok.pk h
    by_cases hc : (parkX o.o.pk M).1.ln = 0
    · rw [if_pos hc]; exact ⟨fun hh => absurd (show (2 : Int) ≤ 1 from hh) (by decide), ok.w, ok.e, fun _ => ⟨u64_0, by show (0 : Int) ≤ 1; decide, by show (1 : Int) ≤ 3; decide⟩, fun hh => absurd (show (1 : Int) = 3 from hh) (by decide), fun _ => ok.got (by omega), ⟨by show (0 : Int) ≤ 1; decide, by show (1 : Int) ≤ 7; decide⟩⟩
    · rw [if_neg hc]; exact ⟨fun _ => ok.sl (by omega), ok.w, ok.e, fun hh => absurd (show o.o.ln = 1 from hh) (by omega), fun _ => ⟨p1.step hM, hc, (parkX_sl _ _).trans p3⟩, fun _ => ok.got (by omega), ok.ln⟩
  · rw [if_neg (by omega), if_neg (by omega), if_neg (by omega), if_pos h] at hR
    subst hR
    exact ⟨fun _ => ok.sl (by omega), ok.w, hM _, fun hh => absurd (show (5 : Int) = 1 from hh) (by decide), fun hh => absurd (show (5 : Int) = 3 from hh) (by decide), fun _ => ok.got (by omega), ⟨by show (0 : Int) ≤ 5; decide, by show (5 : Int) ≤ 7; decide⟩⟩
  · rw [if_neg (by omega), if_neg (by omega), if_neg (by omega), if_neg (by omega), if_pos h] at hR
    subst hR
    exact ⟨fun _ => ok.sl (by omega), ok.w, ok.e, fun hh => absurd (show (6 : Int) = 1 from hh) (by decide), fun hh => absurd (show (6 : Int) = 3 from hh) (by decide), fun _ => ok.got (by omega), ⟨by show (0 : Int) ≤ 6; decide, by show (6 : Int) ≤ 7; decide⟩⟩
  · rw [if_neg (by omega), if_neg (by omega), if_neg (by omega), if_neg (by omega), if_neg (by omega), if_pos h] at hR
    subst hR
    exact ⟨fun _ => ok.sl (by omega), hM _, ok.e, fun hh => absurd (show (7 : Int) = 1 from hh) (by decide), fun hh => absurd (show (7 : Int) = 3 from hh) (by decide), fun _ => ok.got (by omega), ⟨by show (0 : Int) ≤ 7; decide, by show (7 : Int) ≤ 7; decide⟩⟩
  · rw [if_neg (by omega), if_neg (by omega), if_neg (by omega), if_neg (by omega), if_neg (by omega), if_neg (by omega), if_pos h] at hR
    subst hR
    exact ⟨fun hh => absurd (show (2 : Int) ≤ 0 from hh) (by decide), ok.w, ok.e, fun hh => absurd (show (0 : Int) = 1 from hh) (by decide), fun hh => absurd (show (0 : Int) = 3 from hh) (by decide), fun hh => absurd rfl hh, ⟨by show (0 : Int) ≤ 0; decide, by show (0 : Int) ≤ 7; decide⟩⟩
end Go.Proofs.YtmjcbjcnmgleaaaGreatDoor
