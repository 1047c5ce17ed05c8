/-
  A Grow and a Shrink in words of a memory; conditions as each theorem says.
-/
import Derived.Test.YtmjcbjcnmgleaaaGreatDoorXP25
import Derived.Test.YtmjcbjcnmgleaaaGreatDoorXP22
namespace Go.Proofs.YtmjcbjcnmgleaaaGreatDoor
open Go.RowKit Go.Maps
structure KX where
  k : KO
  err : Int
def KO.nextE (o : KO) (e : Int) : KX := ⟨o.next, if o.slot + 1 = 8 * o.seg + 8 then (if o.sh = true then 9 else 0) else e⟩
def newKX (sh : Bool) (seg looks : Int) : KX := ⟨⟨sh, 1, seg, looks, 0, 0, ⟨1, 0, 0⟩, newPark 0, []⟩, 0⟩
def turnX (o : KX) (M : MV) : KX × MV :=
  if o.k.ln = 11 then (if stW (M.V (adH o.k.slot)) = 3 then ⟨{ o.k with ln := 12, w := M.V (adH o.k.slot) }, o.err⟩ else KO.nextE { o.k with w := M.V (adH o.k.slot) } o.err, ldM M (adH o.k.slot))
  else if o.k.ln = 12 then (if casV M.V (adH o.k.slot) o.k.w = true then ⟨{ o.k with ln := 13 }, o.err⟩ else o.k.nextE o.err, csM M (adH o.k.slot) o.k.w (headerW 0 (gW o.k.w)))
  else if o.k.ln = 13 then (⟨{ o.k with ln := 14, w := M.V (adP o.k.seg) }, o.err⟩, ldM M (adP o.k.seg))
  else if o.k.ln = 14 then (if casV M.V (adP o.k.seg) o.k.w = true then ⟨{ o.k with ln := 15, psh := ⟨1, 0, o.k.slot⟩ }, o.err⟩ else ⟨{ o.k with ln := 13 }, o.err⟩, csM M (adP o.k.seg) o.k.w (down64 o.k.w))
  else if o.k.ln = 15 then (if (pushX o.k.psh M).1.nx = 0 then KO.nextE { o.k with psh := (pushX o.k.psh M).1 } o.err else ⟨{ o.k with psh := (pushX o.k.psh M).1 }, o.err⟩, (pushX o.k.psh M).2)
  else (o, M)
def growX (o : KX) (M : MV) : KX × MV :=
  if o.k.ln = 1 then (if M.V (adG o.k.seg) = 0 then ⟨{ o.k with ln := 2 }, o.err⟩ else ⟨{ o.k with ln := 0 }, if M.V (adG o.k.seg) = 1 then 8 else 7⟩, ldM M (adG o.k.seg))
  else if o.k.ln = 2 then (if casV M.V (adG o.k.seg) 0 = true then ⟨o.k.turn, o.err⟩ else ⟨{ o.k with ln := 0 }, 7⟩, csM M (adG o.k.seg) 0 1)
  else (o, M)
def popped (o : KX) (y : Int) : KX :=
  if segF y = o.k.seg then ⟨{ o.k with ln := 6, pk := newPark y }, o.err⟩
  else if 256 ≤ o.k.kept.length + 1 then ⟨({ o.k with kept := o.k.kept ++ [y] } : KO).seven, o.err⟩
  else ⟨{ o.k with kept := o.k.kept ++ [y], psh := ⟨1, 0, 0⟩ }, o.err⟩
def shrinkX (o : KX) (M : MV) : KX × MV :=
  if o.k.ln = 1 then (if M.V (adG o.k.seg) = 1 then ⟨{ o.k with ln := 2 }, o.err⟩ else ⟨{ o.k with ln := 0 }, if M.V (adG o.k.seg) = 0 then 6 else 7⟩, ldM M (adG o.k.seg))
  else if o.k.ln = 2 then (if casV M.V (adG o.k.seg) 1 = true then ⟨{ o.k with ln := 3 }, o.err⟩ else ⟨{ o.k with ln := 0 }, 7⟩, csM M (adG o.k.seg) 1 2)
  else if o.k.ln = 3 then (if M.V (adP o.k.seg) = 8 then ⟨{ o.k with ln := 4 }, o.err⟩ else if o.k.looks ≤ 0 then ⟨{ o.k with ln := 8 }, o.err⟩ else ⟨{ o.k with looks := o.k.looks - 1, ln := 5, psh := ⟨1, 0, 0⟩ }, o.err⟩, ldM M (adP o.k.seg))
  else if o.k.ln = 4 then (if casV M.V (adG o.k.seg) 2 = true then ⟨{ o.k with ln := 0 }, 0⟩ else ⟨{ o.k with ln := 0 }, 7⟩, csM M (adG o.k.seg) 2 0)
  else if o.k.ln = 5 then
    (if (popX o.k.psh M).1.nx = 0 then
       (if wSlot (popX o.k.psh M).1.h < 0 then ⟨({ o.k with psh := (popX o.k.psh M).1 } : KO).seven, o.err⟩ else popped o (wSlot (popX o.k.psh M).1.h))
     else ⟨{ o.k with psh := (popX o.k.psh M).1 }, o.err⟩, (popX o.k.psh M).2)
  else if o.k.ln = 6 then (if (parkX o.k.pk M).1.ln = 0 then ⟨{ o.k with ln := 5, psh := ⟨1, 0, 0⟩, pk := (parkX o.k.pk M).1 }, o.err⟩ else ⟨{ o.k with pk := (parkX o.k.pk M).1 }, o.err⟩, (parkX o.k.pk M).2)
  else if o.k.ln = 7 then (if (pushX o.k.psh M).1.nx = 0 then ⟨({ o.k with kept := o.k.kept.dropLast } : KO).seven, o.err⟩ else ⟨{ o.k with psh := (pushX o.k.psh M).1 }, o.err⟩, (pushX o.k.psh M).2)
  else if o.k.ln = 8 then (if casV M.V (adG o.k.seg) 2 = true then ⟨o.k.turn, o.err⟩ else ⟨{ o.k with ln := 0 }, 7⟩, csM M (adG o.k.seg) 2 1)
  else (o, M)
def kX (o : KX) (M : MV) : KX × MV := if 11 ≤ o.k.ln then turnX o M else if o.k.sh = false then growX o M else shrinkX o M
structure KNum (o : KX) : Prop where
  seg : 0 ≤ o.k.seg ∧ o.k.seg < 32
  ln : (0 ≤ o.k.ln ∧ o.k.ln ≤ 8) ∨ (11 ≤ o.k.ln ∧ o.k.ln ≤ 15)
  gr : o.k.sh = false → o.k.ln ≤ 2 ∨ 11 ≤ o.k.ln
  slot : 11 ≤ o.k.ln → 8 * o.k.seg ≤ o.k.slot ∧ o.k.slot < 8 * o.k.seg + 8
  w : U64 o.k.w
  psh : o.k.ln = 5 ∨ o.k.ln = 7 ∨ o.k.ln = 15 → U64 o.k.psh.h ∧ 0 ≤ o.k.psh.nx ∧ o.k.psh.nx ≤ 3
  p15 : o.k.ln = 15 → o.k.psh.to = o.k.slot
  p7 : o.k.ln = 7 → o.k.kept ≠ [] ∧ o.k.psh.to = o.k.kept.getLastD 0
  pk : o.k.ln = 6 → PkNum o.k.pk ∧ o.k.pk.ln ≠ 0
  kept : ∀ z ∈ o.k.kept, 0 ≤ z ∧ z < 256
  klen : o.k.kept.length ≤ 256
  kno : o.k.ln ≠ 5 → o.k.ln ≠ 6 → o.k.ln ≠ 7 → o.k.kept = []
  err : o.k.ln ≠ 0 → o.err = 0
  looks : -9223372036854775808 ≤ o.k.looks ∧ o.k.looks < 9223372036854775808
  k5 : o.k.ln = 5 ∨ o.k.ln = 6 → o.k.kept.length ≤ 255
theorem KNum.new (sh : Bool) {seg looks : Int} (h : 0 ≤ seg ∧ seg < 32) (hl : -9223372036854775808 ≤ looks ∧ looks < 9223372036854775808) : KNum (newKX sh seg looks) :=
  ⟨h, .inl (by simp [newKX]), fun _ => .inl (by simp [newKX]), fun h => by simp [newKX] at h, u64_0, fun h => by simp [newKX] at h, fun h => by simp [newKX] at h, fun h => by simp [newKX] at h, fun h => by simp [newKX] at h, fun z hz => by simp [newKX] at hz, by simp [newKX], fun _ _ _ => rfl, fun _ => rfl, hl, fun h => by simp [newKX] at h⟩
section
variable {o : KX} {M : MV}
theorem casV_G {V : Ad → Int} {g : Int} (hg : 0 ≤ g ∧ g < 32) (u : Int) : casV V (adG g) u = decide ((maV V).sst g = u) := by
  unfold casV
  rw [may_G hg, ma_sst hg]
  rfl
theorem casV_Q {V : Ad → Int} {g : Int} (hg : 0 ≤ g ∧ g < 32) (u : Int) : casV V (adP g) u = decide ((maV V).spk g = u) := by
  unfold casV
  rw [may_P hg, ma_spk hg]
  rfl
theorem ma_csG {V : Ad → Int} {g : Int} (hg : 0 ≤ g ∧ g < 32) (u v : Int) : maV (csV V (adG g) u v) = if (maV V).sst g = u then (maV V).setD g v else maV V := by
  unfold csV
  rw [casV_G hg]
  by_cases h : (maV V).sst g = u
  · rw [if_pos h, if_pos (by simpa using h), ma_setD hg]
  · rw [if_neg h, if_neg (by simpa using h)]
theorem ma_csQ {V : Ad → Int} {g : Int} (hg : 0 ≤ g ∧ g < 32) (u v : Int) : maV (csV V (adP g) u v) = if (maV V).spk g = u then (maV V).setP g v else maV V := by
  unfold csV
  rw [casV_Q hg]
  by_cases h : (maV V).spk g = u
  · rw [if_pos h, if_pos (by simpa using h), ma_setP hg]
  · rw [if_neg h, if_neg (by simpa using h)]
theorem knum_seven {k : KO} {e : Int} (hs : k.sh = true) (h1 : 0 ≤ k.seg ∧ k.seg < 32) (hw : U64 k.w) (hk : ∀ z ∈ k.kept, 0 ≤ z ∧ z < 256) (hl : k.kept.length ≤ 256) (he : e = 0) (hlk : -9223372036854775808 ≤ k.looks ∧ k.looks < 9223372036854775808) : KNum ⟨k.seven, e⟩ := by
  obtain ⟨sh, ln, seg, looks, slot, w, psh, pk, kept⟩ := k
  simp only at hs h1 hw hk hl hlk
  subst hs
  unfold KO.seven
  by_cases hc : kept = []
  · subst hc
    rw [if_pos rfl]
    exact ⟨h1, .inl (by simp), fun h => by simp at h, fun h => by simp at h, hw, fun h => by simp at h, fun h => by simp at h, fun h => by simp at h, fun h => by simp at h, hk, hl, fun _ _ _ => rfl, fun _ => he, hlk, fun h => by simp at h⟩
  · rw [if_neg hc]
    exact ⟨h1, .inl (by simp), fun h => by simp at h, fun h => by simp at h, hw, fun _ => ⟨u64_0, by simp, by simp⟩, fun h => by simp at h, fun _ => ⟨hc, rfl⟩, fun h => by simp at h, hk, hl, fun _ _ h => by simp at h, fun _ => he, hlk, fun h => by simp at h⟩
theorem knum_next {k : KO} {e : Int} (h1 : 0 ≤ k.seg ∧ k.seg < 32) (hs : 8 * k.seg ≤ k.slot ∧ k.slot < 8 * k.seg + 8) (hw : U64 k.w) (hk : k.kept = []) (he : e = 0) (hlk : -9223372036854775808 ≤ k.looks ∧ k.looks < 9223372036854775808) : KNum (k.nextE e) := by
  obtain ⟨sh, ln, seg, looks, slot, w, psh, pk, kept⟩ := k
  simp only at hs h1 hw hk hlk
  subst hk
  unfold KO.nextE KO.next
  by_cases hc : slot + 1 = 8 * seg + 8
  · rw [if_pos hc, if_pos hc]
    exact ⟨h1, .inl (by simp), fun _ => .inl (by simp), fun h => by simp at h, hw, fun h => by simp at h, fun h => by simp at h, fun h => by simp at h, fun h => by simp at h, fun z hz => by simp at hz, by simp, fun _ _ _ => rfl, fun h => absurd rfl h, hlk, fun h => by simp at h⟩
  · rw [if_neg hc, if_neg hc]
    exact ⟨h1, .inr (by simp), fun _ => .inr (by simp), fun _ => by simp only; omega, hw, fun h => by simp at h, fun h => by simp at h, fun h => by simp at h, fun h => by simp at h, fun z hz => by simp at hz, by simp, fun _ _ _ => rfl, fun _ => he, hlk, fun h => by simp at h⟩
theorem KNum.step (ok : KNum o) (hM : ∀ x, U64 (M.V x)) : KNum (kX o M).1 := by
  obtain ⟨⟨sh, ln, seg, looks, slot, w, psh, pk, kept⟩, err⟩ := o
  obtain ⟨h1, h2, h3, h4, h5, h6, h7, h8, h9, h10, h11, h12, h13, h14, h15⟩ := ok
  simp only at h1 h2 h3 h4 h5 h6 h7 h8 h9 h10 h11 h12 h13 h14 h15
  unfold kX
  by_cases hl : 11 ≤ ln
  · rw [if_pos hl]
    obtain rfl := h12 (by omega) (by omega) (by omega)
    obtain rfl := h13 (by omega)
    have hs := h4 hl
    obtain rfl | rfl | rfl | rfl | rfl : ln = 11 ∨ ln = 12 ∨ ln = 13 ∨ ln = 14 ∨ ln = 15 := by omega
    · by_cases hc : stW (M.V (adH slot)) = 3
      · have e : (turnX ⟨⟨sh, 11, seg, looks, slot, w, psh, pk, []⟩, 0⟩ M).1 = ⟨⟨sh, 12, seg, looks, slot, M.V (adH slot), psh, pk, []⟩, 0⟩ := by simp [turnX, hc]
        rw [e]
        exact ⟨h1, .inr (by simp), fun _ => .inr (by simp), fun _ => hs, hM _, fun h => by simp at h, fun h => by simp at h, fun h => by simp at h, fun h => by simp at h, h10, h11, fun _ _ _ => rfl, fun _ => rfl, h14, fun h => by simp at h⟩
      · have e : (turnX ⟨⟨sh, 11, seg, looks, slot, w, psh, pk, []⟩, 0⟩ M).1 = KO.nextE ⟨sh, 11, seg, looks, slot, M.V (adH slot), psh, pk, []⟩ 0 := by simp [turnX, hc]
        rw [e]
        exact knum_next h1 hs (hM _) rfl rfl h14
    · by_cases hc : casV M.V (adH slot) w = true
      · have e : (turnX ⟨⟨sh, 12, seg, looks, slot, w, psh, pk, []⟩, 0⟩ M).1 = ⟨⟨sh, 13, seg, looks, slot, w, psh, pk, []⟩, 0⟩ := by simp [turnX, hc]
        rw [e]
        exact ⟨h1, .inr (by simp), fun _ => .inr (by simp), fun _ => hs, h5, fun h => by simp at h, fun h => by simp at h, fun h => by simp at h, fun h => by simp at h, h10, h11, fun _ _ _ => rfl, fun _ => rfl, h14, fun h => by simp at h⟩
      · have e : (turnX ⟨⟨sh, 12, seg, looks, slot, w, psh, pk, []⟩, 0⟩ M).1 = KO.nextE ⟨sh, 12, seg, looks, slot, w, psh, pk, []⟩ 0 := by simp [turnX, hc]
        rw [e]
        exact knum_next h1 hs h5 rfl rfl h14
    · have e : (turnX ⟨⟨sh, 13, seg, looks, slot, w, psh, pk, []⟩, 0⟩ M).1 = ⟨⟨sh, 14, seg, looks, slot, M.V (adP seg), psh, pk, []⟩, 0⟩ := by simp [turnX]
      rw [e]
      exact ⟨h1, .inr (by simp), fun _ => .inr (by simp), fun _ => hs, hM _, fun h => by simp at h, fun h => by simp at h, fun h => by simp at h, fun h => by simp at h, h10, h11, fun _ _ _ => rfl, fun _ => rfl, h14, fun h => by simp at h⟩
    · by_cases hc : casV M.V (adP seg) w = true
      · have e : (turnX ⟨⟨sh, 14, seg, looks, slot, w, psh, pk, []⟩, 0⟩ M).1 = ⟨⟨sh, 15, seg, looks, slot, w, ⟨1, 0, slot⟩, pk, []⟩, 0⟩ := by simp [turnX, hc]
        rw [e]
        exact ⟨h1, .inr (by simp), fun _ => .inr (by simp), fun _ => hs, h5, fun _ => ⟨u64_0, by simp, by simp⟩, fun _ => rfl, fun h => by simp at h, fun h => by simp at h, h10, h11, fun _ _ _ => rfl, fun _ => rfl, h14, fun h => by simp at h⟩
      · have e : (turnX ⟨⟨sh, 14, seg, looks, slot, w, psh, pk, []⟩, 0⟩ M).1 = ⟨⟨sh, 13, seg, looks, slot, w, psh, pk, []⟩, 0⟩ := by simp [turnX, hc]
        rw [e]
        exact ⟨h1, .inr (by simp), fun _ => .inr (by simp), fun _ => hs, h5, fun h => by simp at h, fun h => by simp at h, fun h => by simp at h, fun h => by simp at h, h10, h11, fun _ _ _ => rfl, fun _ => rfl, h14, fun h => by simp at h⟩
    · obtain ⟨p1, p2, p3⟩ := h6 (.inr (.inr rfl))
      by_cases hc : (pushX psh M).1.nx = 0
      · have e : (turnX ⟨⟨sh, 15, seg, looks, slot, w, psh, pk, []⟩, 0⟩ M).1 = KO.nextE ⟨sh, 15, seg, looks, slot, w, (pushX psh M).1, pk, []⟩ 0 := by simp [turnX, hc]
        rw [e]
        exact knum_next h1 hs h5 rfl rfl h14
      · have e : (turnX ⟨⟨sh, 15, seg, looks, slot, w, psh, pk, []⟩, 0⟩ M).1 = ⟨⟨sh, 15, seg, looks, slot, w, (pushX psh M).1, pk, []⟩, 0⟩ := by simp [turnX, hc]
        rw [e]
        obtain ⟨q1, q2, q3, hto⟩ := pushX_in p1 hM ⟨p2, p3⟩
        exact ⟨h1, .inr (by simp), fun _ => .inr (by simp), fun _ => hs, h5, fun _ => ⟨q1, q2, q3⟩, fun _ => hto.trans (h7 rfl), fun h => by simp at h, fun h => by simp at h, h10, h11, fun _ _ _ => rfl, fun _ => rfl, h14, fun h => by simp at h⟩
  · rw [if_neg hl]
    have h8' : 0 ≤ ln ∧ ln ≤ 8 := by omega
    cases sh with
    | false =>
      rw [if_pos rfl]
      have := h3 rfl
      obtain rfl := h12 (by omega) (by omega) (by omega)
      obtain rfl | rfl | rfl : ln = 0 ∨ ln = 1 ∨ ln = 2 := by omega
      · have e : (growX ⟨⟨false, 0, seg, looks, slot, w, psh, pk, []⟩, err⟩ M).1 = ⟨⟨false, 0, seg, looks, slot, w, psh, pk, []⟩, err⟩ := by simp [growX]
        rw [e]
        exact ⟨h1, h2, h3, h4, h5, h6, h7, h8, h9, h10, h11, h12, h13, h14, h15⟩
      · obtain rfl := h13 (by omega)
        by_cases hc : M.V (adG seg) = 0
        · have e : (growX ⟨⟨false, 1, seg, looks, slot, w, psh, pk, []⟩, 0⟩ M).1 = ⟨⟨false, 2, seg, looks, slot, w, psh, pk, []⟩, 0⟩ := by simp [growX, hc]
          rw [e]
          exact ⟨h1, .inl (by simp), fun _ => .inl (by simp), fun h => by simp at h, h5, fun h => by simp at h, fun h => by simp at h, fun h => by simp at h, fun h => by simp at h, h10, h11, fun _ _ _ => rfl, fun _ => rfl, h14, fun h => by simp at h⟩
        · have e : (growX ⟨⟨false, 1, seg, looks, slot, w, psh, pk, []⟩, 0⟩ M).1 = ⟨⟨false, 0, seg, looks, slot, w, psh, pk, []⟩, if M.V (adG seg) = 1 then 8 else 7⟩ := by simp [growX, hc]
          rw [e]
          exact ⟨h1, .inl (by simp), fun _ => .inl (by simp), fun h => by simp at h, h5, fun h => by simp at h, fun h => by simp at h, fun h => by simp at h, fun h => by simp at h, h10, h11, fun _ _ _ => rfl, fun h => absurd rfl h, h14, fun h => by simp at h⟩
      · obtain rfl := h13 (by omega)
        by_cases hc : casV M.V (adG seg) 0 = true
        · have e : (growX ⟨⟨false, 2, seg, looks, slot, w, psh, pk, []⟩, 0⟩ M).1 = ⟨⟨false, 11, seg, looks, 8 * seg, w, psh, pk, []⟩, 0⟩ := by simp [growX, hc, KO.turn]
          rw [e]
          exact ⟨h1, .inr (by simp), fun _ => .inr (by simp), fun _ => by simp only; omega, h5, fun h => by simp at h, fun h => by simp at h, fun h => by simp at h, fun h => by simp at h, h10, h11, fun _ _ _ => rfl, fun _ => rfl, h14, fun h => by simp at h⟩
        · have e : (growX ⟨⟨false, 2, seg, looks, slot, w, psh, pk, []⟩, 0⟩ M).1 = ⟨⟨false, 0, seg, looks, slot, w, psh, pk, []⟩, 7⟩ := by simp [growX, hc]
          rw [e]
          exact ⟨h1, .inl (by simp), fun _ => .inl (by simp), fun h => by simp at h, h5, fun h => by simp at h, fun h => by simp at h, fun h => by simp at h, fun h => by simp at h, h10, h11, fun _ _ _ => rfl, fun h => absurd rfl h, h14, fun h => by simp at h⟩
    | true =>
      rw [if_neg (by simp)]
      have off : ∀ (l' : Int) (e' : Int), l' = 0 → kept = [] → KNum ⟨⟨true, l', seg, looks, slot, w, psh, pk, kept⟩, e'⟩ := fun l' e' hl hk => by
        subst hl
        exact ⟨h1, .inl (by simp), fun h => by simp at h, fun h => by simp at h, h5, fun h => by simp at h, fun h => by simp at h, fun h => by simp at h, fun h => by simp at h, h10, h11, fun _ _ _ => hk, fun h => absurd rfl h, h14, fun h => by simp at h⟩
      have on : ∀ (l' : Int), l' = 2 ∨ l' = 3 ∨ l' = 4 ∨ l' = 8 → kept = [] → KNum ⟨⟨true, l', seg, looks, slot, w, psh, pk, kept⟩, 0⟩ := fun l' hl hk =>
        ⟨h1, .inl (by simp only; omega), fun h => by simp at h, fun h => by simp only at h; omega, h5, fun h => by simp only at h; omega, fun h => by simp only at h; omega, fun h => by simp only at h; omega, fun h => by simp only at h; omega, h10, h11, fun _ _ _ => hk, fun _ => rfl, h14, fun h => by simp only at h; omega⟩
      obtain rfl | rfl | rfl | rfl | rfl | rfl | rfl | rfl | rfl : ln = 0 ∨ ln = 1 ∨ ln = 2 ∨ ln = 3 ∨ ln = 4 ∨ ln = 5 ∨ ln = 6 ∨ ln = 7 ∨ ln = 8 := by omega
      · have e : (shrinkX ⟨⟨true, 0, seg, looks, slot, w, psh, pk, kept⟩, err⟩ M).1 = ⟨⟨true, 0, seg, looks, slot, w, psh, pk, kept⟩, err⟩ := by simp [shrinkX]
        rw [e]
        exact ⟨h1, h2, h3, h4, h5, h6, h7, h8, h9, h10, h11, h12, h13, h14, h15⟩
      · obtain rfl := h13 (by omega)
        have hk := h12 (by omega) (by omega) (by omega)
        by_cases hc : M.V (adG seg) = 1
        · have e : (shrinkX ⟨⟨true, 1, seg, looks, slot, w, psh, pk, kept⟩, 0⟩ M).1 = ⟨⟨true, 2, seg, looks, slot, w, psh, pk, kept⟩, 0⟩ := by simp [shrinkX, hc]
          rw [e]; exact on 2 (by simp) hk
        · have e : (shrinkX ⟨⟨true, 1, seg, looks, slot, w, psh, pk, kept⟩, 0⟩ M).1 = ⟨⟨true, 0, seg, looks, slot, w, psh, pk, kept⟩, if M.V (adG seg) = 0 then 6 else 7⟩ := by simp [shrinkX, hc]
          rw [e]; exact off 0 _ rfl hk
      · obtain rfl := h13 (by omega)
        have hk := h12 (by omega) (by omega) (by omega)
        by_cases hc : casV M.V (adG seg) 1 = true
        · have e : (shrinkX ⟨⟨true, 2, seg, looks, slot, w, psh, pk, kept⟩, 0⟩ M).1 = ⟨⟨true, 3, seg, looks, slot, w, psh, pk, kept⟩, 0⟩ := by simp [shrinkX, hc]
          rw [e]; exact on 3 (by simp) hk
        · have e : (shrinkX ⟨⟨true, 2, seg, looks, slot, w, psh, pk, kept⟩, 0⟩ M).1 = ⟨⟨true, 0, seg, looks, slot, w, psh, pk, kept⟩, 7⟩ := by simp [shrinkX, hc]
          rw [e]; exact off 0 _ rfl hk
      · obtain rfl := h13 (by omega)
        have hk := h12 (by omega) (by omega) (by omega)
        by_cases hc : M.V (adP seg) = 8
        · have e : (shrinkX ⟨⟨true, 3, seg, looks, slot, w, psh, pk, kept⟩, 0⟩ M).1 = ⟨⟨true, 4, seg, looks, slot, w, psh, pk, kept⟩, 0⟩ := by simp [shrinkX, hc]
          rw [e]; exact on 4 (by simp) hk
        · by_cases hn : looks ≤ 0
          · have e : (shrinkX ⟨⟨true, 3, seg, looks, slot, w, psh, pk, kept⟩, 0⟩ M).1 = ⟨⟨true, 8, seg, looks, slot, w, psh, pk, kept⟩, 0⟩ := by simp [shrinkX, hc, hn]
            rw [e]; exact on 8 (by simp) hk
          · have e : (shrinkX ⟨⟨true, 3, seg, looks, slot, w, psh, pk, kept⟩, 0⟩ M).1 = ⟨⟨true, 5, seg, looks - 1, slot, w, ⟨1, 0, 0⟩, pk, kept⟩, 0⟩ := by simp [shrinkX, hc, hn]
            rw [e]
            exact ⟨h1, .inl (by simp), fun h => by simp at h, fun h => by simp at h, h5, fun _ => ⟨u64_0, by simp, by simp⟩, fun h => by simp at h, fun h => by simp at h, fun h => by simp at h, h10, h11, fun h => by simp at h, fun _ => rfl, by simp only; omega, fun _ => by simp only; rw [hk]; decide⟩
      · obtain rfl := h13 (by omega)
        have hk := h12 (by omega) (by omega) (by omega)
        by_cases hc : casV M.V (adG seg) 2 = true
        · have e : (shrinkX ⟨⟨true, 4, seg, looks, slot, w, psh, pk, kept⟩, 0⟩ M).1 = ⟨⟨true, 0, seg, looks, slot, w, psh, pk, kept⟩, 0⟩ := by simp [shrinkX, hc]
          rw [e]; exact off 0 _ rfl hk
        · have e : (shrinkX ⟨⟨true, 4, seg, looks, slot, w, psh, pk, kept⟩, 0⟩ M).1 = ⟨⟨true, 0, seg, looks, slot, w, psh, pk, kept⟩, 7⟩ := by simp [shrinkX, hc]
          rw [e]; exact off 0 _ rfl hk
      · obtain rfl := h13 (by omega)
        obtain ⟨p1, p2, p3⟩ := h6 (.inl rfl)
        obtain ⟨q1, q2, q3⟩ := popX_in p1 hM ⟨p2, p3⟩
        by_cases hc : (popX psh M).1.nx = 0
        · by_cases hn : wSlot (popX psh M).1.h < 0
          · have e : (shrinkX ⟨⟨true, 5, seg, looks, slot, w, psh, pk, kept⟩, 0⟩ M).1 = ⟨KO.seven ⟨true, 5, seg, looks, slot, w, (popX psh M).1, pk, kept⟩, 0⟩ := by simp [shrinkX, hc, hn]
            rw [e]
            exact knum_seven rfl h1 h5 h10 h11 rfl h14
          · have e : (shrinkX ⟨⟨true, 5, seg, looks, slot, w, psh, pk, kept⟩, 0⟩ M).1 = popped ⟨⟨true, 5, seg, looks, slot, w, psh, pk, kept⟩, 0⟩ (wSlot (popX psh M).1.h) := by simp [shrinkX, hc, hn]
            rw [e]
            have hy : 0 ≤ wSlot (popX psh M).1.h ∧ wSlot (popX psh M).1.h < 256 := ⟨by omega, by have := (slot_in (popX psh M).1.h).2; omega⟩
            generalize wSlot (popX psh M).1.h = y at hy ⊢
            have hk2 : ∀ z ∈ kept ++ [y], 0 ≤ z ∧ z < 256 := fun z hz => by
              rcases List.mem_append.1 hz with hz | hz
              · exact h10 z hz
              · rw [List.mem_singleton] at hz; subst hz; exact hy
            unfold popped
            dsimp only
            by_cases hg : segF y = seg
            · rw [if_pos hg]
              exact ⟨h1, .inl (by simp), fun h => by simp at h, fun h => by simp at h, h5, fun h => by simp at h, fun h => by simp at h, fun h => by simp at h, fun _ => ⟨PkNum.new hy, by simp [newPark]⟩, h10, h11, fun _ h => by simp at h, fun _ => rfl, h14, fun _ => h15 (.inl rfl)⟩
            · rw [if_neg hg]
              by_cases hm : 256 ≤ kept.length + 1
              · rw [if_pos hm]
                have := h15 (.inl rfl)
                exact knum_seven rfl h1 h5 hk2 (by simp only [List.length_append, List.length_singleton]; omega) rfl h14
              · rw [if_neg hm]
                exact ⟨h1, .inl (by simp), fun h => by simp at h, fun h => by simp at h, h5, fun _ => ⟨u64_0, by simp, by simp⟩, fun h => by simp at h, fun h => by simp at h, fun h => by simp at h, hk2, by simp only [List.length_append, List.length_singleton]; omega, fun h => by simp at h, fun _ => rfl, h14, fun _ => by simp only [List.length_append, List.length_singleton]; omega⟩
        · have e : (shrinkX ⟨⟨true, 5, seg, looks, slot, w, psh, pk, kept⟩, 0⟩ M).1 = ⟨⟨true, 5, seg, looks, slot, w, (popX psh M).1, pk, kept⟩, 0⟩ := by simp [shrinkX, hc]
          rw [e]
          exact ⟨h1, .inl (by simp), fun h => by simp at h, fun h => by simp at h, h5, fun _ => ⟨q1, q2, q3⟩, fun h => by simp at h, fun h => by simp at h, fun h => by simp at h, h10, h11, fun h => by simp at h, fun _ => rfl, h14, fun _ => h15 (.inl rfl)⟩
      · obtain rfl := h13 (by omega)
        obtain ⟨p1, p2⟩ := h9 rfl
        have hp := p1.step hM
        by_cases hc : (parkX pk M).1.ln = 0
        · have e : (shrinkX ⟨⟨true, 6, seg, looks, slot, w, psh, pk, kept⟩, 0⟩ M).1 = ⟨⟨true, 5, seg, looks, slot, w, ⟨1, 0, 0⟩, (parkX pk M).1, kept⟩, 0⟩ := by simp [shrinkX, hc]
          rw [e]
          exact ⟨h1, .inl (by simp), fun h => by simp at h, fun h => by simp at h, h5, fun _ => ⟨u64_0, by simp, by simp⟩, fun h => by simp at h, fun h => by simp at h, fun h => by simp at h, h10, h11, fun h => by simp at h, fun _ => rfl, h14, fun _ => h15 (.inr rfl)⟩
        · have e : (shrinkX ⟨⟨true, 6, seg, looks, slot, w, psh, pk, kept⟩, 0⟩ M).1 = ⟨⟨true, 6, seg, looks, slot, w, psh, (parkX pk M).1, kept⟩, 0⟩ := by simp [shrinkX, hc]
          rw [e]
          exact ⟨h1, .inl (by simp), fun h => by simp at h, fun h => by simp at h, h5, fun h => by simp at h, fun h => by simp at h, fun h => by simp at h, fun _ => ⟨hp, hc⟩, h10, h11, fun _ h => by simp at h, fun _ => rfl, h14, fun _ => h15 (.inr rfl)⟩
      · obtain rfl := h13 (by omega)
        obtain ⟨p1, p2, p3⟩ := h6 (.inr (.inl rfl))
        obtain ⟨q1, q2, q3, hto⟩ := pushX_in p1 hM ⟨p2, p3⟩
        obtain ⟨r1, r2⟩ := h8 rfl
        by_cases hc : (pushX psh M).1.nx = 0
        · have e : (shrinkX ⟨⟨true, 7, seg, looks, slot, w, psh, pk, kept⟩, 0⟩ M).1 = ⟨KO.seven ⟨true, 7, seg, looks, slot, w, psh, pk, kept.dropLast⟩, 0⟩ := by simp [shrinkX, hc]
          rw [e]
          exact knum_seven rfl h1 h5 (fun z hz => h10 z (List.dropLast_subset _ hz)) (by simp only [List.length_dropLast]; omega) rfl h14
        · have e : (shrinkX ⟨⟨true, 7, seg, looks, slot, w, psh, pk, kept⟩, 0⟩ M).1 = ⟨⟨true, 7, seg, looks, slot, w, (pushX psh M).1, pk, kept⟩, 0⟩ := by simp [shrinkX, hc]
          rw [e]
          exact ⟨h1, .inl (by simp), fun h => by simp at h, fun h => by simp at h, h5, fun _ => ⟨q1, q2, q3⟩, fun h => by simp at h, fun _ => ⟨r1, hto.trans r2⟩, fun h => by simp at h, h10, h11, fun _ _ h => by simp at h, fun _ => rfl, h14, fun h => by simp at h⟩
      · obtain rfl := h13 (by omega)
        have hk := h12 (by omega) (by omega) (by omega)
        by_cases hc : casV M.V (adG seg) 2 = true
        · have e : (shrinkX ⟨⟨true, 8, seg, looks, slot, w, psh, pk, kept⟩, 0⟩ M).1 = ⟨⟨true, 11, seg, looks, 8 * seg, w, psh, pk, kept⟩, 0⟩ := by simp [shrinkX, hc, KO.turn]
          rw [e]
          exact ⟨h1, .inr (by simp), fun h => by simp at h, fun _ => by simp only; omega, h5, fun h => by simp at h, fun h => by simp at h, fun h => by simp at h, fun h => by simp at h, h10, h11, fun _ _ _ => hk, fun _ => rfl, h14, fun h => by simp at h⟩
        · have e : (shrinkX ⟨⟨true, 8, seg, looks, slot, w, psh, pk, kept⟩, 0⟩ M).1 = ⟨⟨true, 0, seg, looks, slot, w, psh, pk, kept⟩, 7⟩ := by simp [shrinkX, hc]
          rw [e]; exact off 0 _ rfl hk
end
end Go.Proofs.YtmjcbjcnmgleaaaGreatDoor
namespace Go.Proofs.YtmjcbjcnmgleaaaGreatDoor
open Go.RowKit Go.Maps
def Ma (k : KO) (R : KX × MV) (M : MV) : Prop := kF k (maV M.V) = (R.1.k, maV R.2.V) ∧ (R.1.k.ln = 0 → R.1.err = errK k (maV M.V))
section
variable {o : KX} {M : MV}
theorem next_err (k : KO) (e : Int) : (k.nextE e).k = k.next ∧ (k.next.ln = 0 → (k.nextE e).err = if k.sh = true then 9 else 0) := by
  refine ⟨rfl, fun h => ?_⟩
  unfold KO.nextE
  unfold KO.next at h
  by_cases hc : k.slot + 1 = 8 * k.seg + 8
  · rw [if_pos hc]
  · rw [if_neg hc] at h
    exact absurd h (by simp)
theorem turnX_ma (ok : KNum o) (hl : 11 ≤ o.k.ln) : Ma o.k (turnX o M) M := by
  obtain ⟨⟨sh, ln, seg, looks, slot, w, psh, pk, kept⟩, err⟩ := o
  obtain ⟨h1, h2, h3, h4, h5, h6, h7, h8, h9, h10, h11, h12, h13, h14, h15⟩ := ok
  simp only at h1 h2 h3 h4 h5 h6 h7 h8 h9 h10 h11 h12 h13 h14 h15 hl
  have hs := h4 hl
  have hs' : 0 ≤ slot ∧ slot < 256 := by omega
  have he : ∀ (l : Int) (w' : Int) (psh' : OS), 11 ≤ l → errK ⟨sh, l, seg, looks, slot, w', psh', pk, kept⟩ (maV M.V) = if sh = true then 9 else 0 := fun l w' psh' h => by
    unfold errK
    rw [if_pos h]
  unfold Ma kF
  rw [if_pos hl, he ln w psh hl]
  obtain rfl | rfl | rfl | rfl | rfl : ln = 11 ∨ ln = 12 ∨ ln = 13 ∨ ln = 14 ∨ ln = 15 := by omega
  · by_cases hc : stW (M.V (adH slot)) = 3
    · have e : turnX ⟨⟨sh, 11, seg, looks, slot, w, psh, pk, kept⟩, err⟩ M = (⟨⟨sh, 12, seg, looks, slot, M.V (adH slot), psh, pk, kept⟩, err⟩, ldM M (adH slot)) := by simp [turnX, hc]
      rw [e]
      refine ⟨?_, fun h => by simp at h⟩
      simp only [turnF, if_true, ma_hdr hs']
      rw [if_pos hc]; rfl
    · have e : turnX ⟨⟨sh, 11, seg, looks, slot, w, psh, pk, kept⟩, err⟩ M = (KO.nextE ⟨sh, 11, seg, looks, slot, M.V (adH slot), psh, pk, kept⟩ err, ldM M (adH slot)) := by simp [turnX, hc]
      rw [e]
      refine ⟨?_, (next_err _ _).2⟩
      simp only [turnF, if_true, ma_hdr hs']
      rw [if_neg hc]; rfl
  · by_cases hc : (maV M.V).hdr slot = w
    · have e : turnX ⟨⟨sh, 12, seg, looks, slot, w, psh, pk, kept⟩, err⟩ M = (⟨⟨sh, 13, seg, looks, slot, w, psh, pk, kept⟩, err⟩, csM M (adH slot) w (headerW 0 (gW w))) := by simp [turnX, casV_H hs', hc]
      rw [e]
      refine ⟨?_, fun h => by simp at h⟩
      show _ = (_, maV (csV M.V (adH slot) _ _))
      rw [ma_csH hs', if_pos hc]
      simp [turnF, hc]
    · have e : turnX ⟨⟨sh, 12, seg, looks, slot, w, psh, pk, kept⟩, err⟩ M = (KO.nextE ⟨sh, 12, seg, looks, slot, w, psh, pk, kept⟩ err, csM M (adH slot) w (headerW 0 (gW w))) := by simp [turnX, casV_H hs', hc]
      rw [e]
      refine ⟨?_, (next_err _ _).2⟩
      show _ = (_, maV (csV M.V (adH slot) _ _))
      rw [ma_csH hs', if_neg hc]
      simp [turnF, hc, KO.nextE]
  · have e : turnX ⟨⟨sh, 13, seg, looks, slot, w, psh, pk, kept⟩, err⟩ M = (⟨⟨sh, 14, seg, looks, slot, M.V (adP seg), psh, pk, kept⟩, err⟩, ldM M (adP seg)) := by simp [turnX]
    rw [e]
    refine ⟨?_, fun h => by simp at h⟩
    have := ma_spk (V := M.V) h1
    simp [turnF, this, ldM]
  · by_cases hc : (maV M.V).spk seg = w
    · have e : turnX ⟨⟨sh, 14, seg, looks, slot, w, psh, pk, kept⟩, err⟩ M = (⟨⟨sh, 15, seg, looks, slot, w, ⟨1, 0, slot⟩, pk, kept⟩, err⟩, csM M (adP seg) w (down64 w)) := by simp [turnX, casV_Q h1, hc]
      rw [e]
      refine ⟨?_, fun h => by simp at h⟩
      show _ = (_, maV (csV M.V (adP seg) _ _))
      rw [ma_csQ h1, if_pos hc]
      simp [turnF, hc]
    · have e : turnX ⟨⟨sh, 14, seg, looks, slot, w, psh, pk, kept⟩, err⟩ M = (⟨⟨sh, 13, seg, looks, slot, w, psh, pk, kept⟩, err⟩, csM M (adP seg) w (down64 w)) := by simp [turnX, casV_Q h1, hc]
      rw [e]
      refine ⟨?_, fun h => by simp at h⟩
      show _ = (_, maV (csV M.V (adP seg) _ _))
      rw [ma_csQ h1, if_neg hc]
      simp [turnF, hc]
  · obtain ⟨e1, e2⟩ := pushX_ma psh M (fun _ => by rw [h7 rfl]; exact hs')
    by_cases hc : (pushX psh M).1.nx = 0
    · have e : turnX ⟨⟨sh, 15, seg, looks, slot, w, psh, pk, kept⟩, err⟩ M = (KO.nextE ⟨sh, 15, seg, looks, slot, w, (pushX psh M).1, pk, kept⟩ err, (pushX psh M).2) := by simp [turnX, hc]
      rw [e]
      refine ⟨?_, (next_err _ _).2⟩
      rw [e2]
      simp [turnF, e1, hc, KO.nextE]
    · have e : turnX ⟨⟨sh, 15, seg, looks, slot, w, psh, pk, kept⟩, err⟩ M = (⟨⟨sh, 15, seg, looks, slot, w, (pushX psh M).1, pk, kept⟩, err⟩, (pushX psh M).2) := by simp [turnX, hc]
      rw [e]
      refine ⟨?_, fun h => by simp at h⟩
      rw [e2]
      simp [turnF, e1, hc]
theorem growX_ma (ok : KNum o) (hl : o.k.ln = 1 ∨ o.k.ln = 2) (hs : o.k.sh = false) : Ma o.k (growX o M) M := by
  obtain ⟨⟨sh, ln, seg, looks, slot, w, psh, pk, kept⟩, err⟩ := o
  obtain ⟨h1, h2, h3, h4, h5, h6, h7, h8, h9, h10, h11, h12, h13, h14, h15⟩ := ok
  simp only at h1 hs hl
  subst hs
  unfold Ma
  have hg := ma_sst (V := M.V) h1
  rcases hl with rfl | rfl
  · by_cases hc : M.V (adG seg) = 0
    · have e : growX ⟨⟨false, 1, seg, looks, slot, w, psh, pk, kept⟩, err⟩ M = (⟨⟨false, 2, seg, looks, slot, w, psh, pk, kept⟩, err⟩, ldM M (adG seg)) := by simp [growX, hc]
      rw [e]
      refine ⟨?_, fun h => by simp at h⟩
      simp [kF, growF, hg, hc, ldM]
    · have e : growX ⟨⟨false, 1, seg, looks, slot, w, psh, pk, kept⟩, err⟩ M = (⟨⟨false, 0, seg, looks, slot, w, psh, pk, kept⟩, if M.V (adG seg) = 1 then 8 else 7⟩, ldM M (adG seg)) := by simp [growX, hc]
      rw [e]
      refine ⟨?_, fun h => ?_⟩
      · simp [kF, growF, hg, hc, ldM]
      · simp [errK, hg]
  · by_cases hc : (maV M.V).sst seg = 0
    · have e : growX ⟨⟨false, 2, seg, looks, slot, w, psh, pk, kept⟩, err⟩ M = (⟨⟨false, 11, seg, looks, 8 * seg, w, psh, pk, kept⟩, err⟩, csM M (adG seg) 0 1) := by simp [growX, casV_G h1, hc, KO.turn]
      rw [e]
      refine ⟨?_, fun h => by simp at h⟩
      show _ = (_, maV (csV M.V (adG seg) _ _))
      rw [ma_csG h1, if_pos hc]
      simp [kF, growF, hc, KO.turn]
    · have e : growX ⟨⟨false, 2, seg, looks, slot, w, psh, pk, kept⟩, err⟩ M = (⟨⟨false, 0, seg, looks, slot, w, psh, pk, kept⟩, 7⟩, csM M (adG seg) 0 1) := by simp [growX, casV_G h1, hc]
      rw [e]
      refine ⟨?_, fun h => by simp [errK]⟩
      show _ = (_, maV (csV M.V (adG seg) _ _))
      rw [ma_csG h1, if_neg hc]
      simp [kF, growF, hc]
theorem seven_ln (k : KO) : k.seven.ln = 3 ∨ k.seven.ln = 7 := by unfold KO.seven; split <;> simp
theorem shrinkX_ma (ok : KNum o) (hl : 1 ≤ o.k.ln ∧ o.k.ln ≤ 8) (hs : o.k.sh = true) (h5' : o.k.ln = 5 → o.k.psh.nx = 2 → 0 ≤ wSlot o.k.psh.h) (hk : o.k.kept.length + 1 < 256) : Ma o.k (shrinkX o M) M := by
  obtain ⟨⟨sh, ln, seg, looks, slot, w, psh, pk, kept⟩, err⟩ := o
  obtain ⟨h1, h2, h3, h4, h5, h6, h7, h8, h9, h10, h11, h12, h13, h14, h15⟩ := ok
  simp only at h1 h3 h4 h5 h6 h7 h8 h9 h10 h11 h12 h13 h14 h15 hs hl h5' hk
  subst hs
  unfold Ma
  have hg := ma_sst (V := M.V) h1
  have hq := ma_spk (V := M.V) h1
  obtain rfl | rfl | rfl | rfl | rfl | rfl | rfl | rfl : ln = 1 ∨ ln = 2 ∨ ln = 3 ∨ ln = 4 ∨ ln = 5 ∨ ln = 6 ∨ ln = 7 ∨ ln = 8 := by omega
  · by_cases hc : M.V (adG seg) = 1
    · have e : shrinkX ⟨⟨true, 1, seg, looks, slot, w, psh, pk, kept⟩, err⟩ M = (⟨⟨true, 2, seg, looks, slot, w, psh, pk, kept⟩, err⟩, ldM M (adG seg)) := by simp [shrinkX, hc]
      rw [e]
      refine ⟨?_, fun h => by simp at h⟩
      simp [kF, shrinkF, hg, hc, ldM]
    · have e : shrinkX ⟨⟨true, 1, seg, looks, slot, w, psh, pk, kept⟩, err⟩ M = (⟨⟨true, 0, seg, looks, slot, w, psh, pk, kept⟩, if M.V (adG seg) = 0 then 6 else 7⟩, ldM M (adG seg)) := by simp [shrinkX, hc]
      rw [e]
      refine ⟨?_, fun h => ?_⟩
      · simp [kF, shrinkF, hg, hc, ldM]
      · simp [errK, hg]
  · by_cases hc : (maV M.V).sst seg = 1
    · have e : shrinkX ⟨⟨true, 2, seg, looks, slot, w, psh, pk, kept⟩, err⟩ M = (⟨⟨true, 3, seg, looks, slot, w, psh, pk, kept⟩, err⟩, csM M (adG seg) 1 2) := by simp [shrinkX, casV_G h1, hc]
      rw [e]
      refine ⟨?_, fun h => by simp at h⟩
      show _ = (_, maV (csV M.V (adG seg) _ _))
      rw [ma_csG h1, if_pos hc]
      simp [kF, shrinkF, hc]
    · have e : shrinkX ⟨⟨true, 2, seg, looks, slot, w, psh, pk, kept⟩, err⟩ M = (⟨⟨true, 0, seg, looks, slot, w, psh, pk, kept⟩, 7⟩, csM M (adG seg) 1 2) := by simp [shrinkX, casV_G h1, hc]
      rw [e]
      refine ⟨?_, fun h => by simp [errK]⟩
      show _ = (_, maV (csV M.V (adG seg) _ _))
      rw [ma_csG h1, if_neg hc]
      simp [kF, shrinkF, hc]
  · by_cases hc : M.V (adP seg) = 8
    · have e : shrinkX ⟨⟨true, 3, seg, looks, slot, w, psh, pk, kept⟩, err⟩ M = (⟨⟨true, 4, seg, looks, slot, w, psh, pk, kept⟩, err⟩, ldM M (adP seg)) := by simp [shrinkX, hc]
      rw [e]
      refine ⟨?_, fun h => by simp at h⟩
      simp [kF, shrinkF, hq, hc, ldM]
    · by_cases hn : looks ≤ 0
      · have e : shrinkX ⟨⟨true, 3, seg, looks, slot, w, psh, pk, kept⟩, err⟩ M = (⟨⟨true, 8, seg, looks, slot, w, psh, pk, kept⟩, err⟩, ldM M (adP seg)) := by simp [shrinkX, hc, hn]
        rw [e]
        refine ⟨?_, fun h => by simp at h⟩
        simp [kF, shrinkF, hq, hc, hn, ldM]
      · have e : shrinkX ⟨⟨true, 3, seg, looks, slot, w, psh, pk, kept⟩, err⟩ M = (⟨⟨true, 5, seg, looks - 1, slot, w, ⟨1, 0, 0⟩, pk, kept⟩, err⟩, ldM M (adP seg)) := by simp [shrinkX, hc, hn]
        rw [e]
        refine ⟨?_, fun h => by simp at h⟩
        simp [kF, shrinkF, hq, hc, hn, ldM]
  · by_cases hc : (maV M.V).sst seg = 2
    · have e : shrinkX ⟨⟨true, 4, seg, looks, slot, w, psh, pk, kept⟩, err⟩ M = (⟨⟨true, 0, seg, looks, slot, w, psh, pk, kept⟩, 0⟩, csM M (adG seg) 2 0) := by simp [shrinkX, casV_G h1, hc]
      rw [e]
      refine ⟨?_, fun h => by simp [errK, hc]⟩
      show _ = (_, maV (csV M.V (adG seg) _ _))
      rw [ma_csG h1, if_pos hc]
      simp [kF, shrinkF, hc]
    · have e : shrinkX ⟨⟨true, 4, seg, looks, slot, w, psh, pk, kept⟩, err⟩ M = (⟨⟨true, 0, seg, looks, slot, w, psh, pk, kept⟩, 7⟩, csM M (adG seg) 2 0) := by simp [shrinkX, casV_G h1, hc]
      rw [e]
      refine ⟨?_, fun h => by simp [errK, hc]⟩
      show _ = (_, maV (csV M.V (adG seg) _ _))
      rw [ma_csG h1, if_neg hc]
      simp [kF, shrinkF, hc]
  · obtain ⟨e1, e2⟩ := popX_ma psh M (h5' rfl)
    by_cases hc : (popX psh M).1.nx = 0
    · by_cases hn : wSlot (popX psh M).1.h < 0
      · have e : shrinkX ⟨⟨true, 5, seg, looks, slot, w, psh, pk, kept⟩, err⟩ M = (⟨KO.seven ⟨true, 5, seg, looks, slot, w, (popX psh M).1, pk, kept⟩, err⟩, (popX psh M).2) := by simp [shrinkX, hc, hn]
        rw [e]
        refine ⟨?_, fun h => ?_⟩
        · rw [e2]
          simp [kF, shrinkF, e1, hc, hn]
        · have := seven_ln ⟨true, 5, seg, looks, slot, w, (popX psh M).1, pk, kept⟩
          simp only at h
          omega
      · have e : shrinkX ⟨⟨true, 5, seg, looks, slot, w, psh, pk, kept⟩, err⟩ M = (popped ⟨⟨true, 5, seg, looks, slot, w, psh, pk, kept⟩, err⟩ (wSlot (popX psh M).1.h), (popX psh M).2) := by simp [shrinkX, hc, hn]
        rw [e]
        by_cases hgs : segF (wSlot (popX psh M).1.h) = seg
        · have e3 : popped ⟨⟨true, 5, seg, looks, slot, w, psh, pk, kept⟩, err⟩ (wSlot (popX psh M).1.h) = ⟨⟨true, 6, seg, looks, slot, w, psh, newPark (wSlot (popX psh M).1.h), kept⟩, err⟩ := by simp [popped, hgs]
          rw [e3]
          refine ⟨?_, fun h => by simp at h⟩
          rw [e2]
          simp [kF, shrinkF, e1, hc, hn, hgs]
        · have e3 : popped ⟨⟨true, 5, seg, looks, slot, w, psh, pk, kept⟩, err⟩ (wSlot (popX psh M).1.h) = ⟨⟨true, 5, seg, looks, slot, w, ⟨1, 0, 0⟩, pk, kept ++ [wSlot (popX psh M).1.h]⟩, err⟩ := by
            unfold popped
            dsimp only
            rw [if_neg hgs, if_neg (by omega)]
          rw [e3]
          refine ⟨?_, fun h => by simp at h⟩
          rw [e2]
          simp [kF, shrinkF, e1, hc, hn, hgs]
    · have e : shrinkX ⟨⟨true, 5, seg, looks, slot, w, psh, pk, kept⟩, err⟩ M = (⟨⟨true, 5, seg, looks, slot, w, (popX psh M).1, pk, kept⟩, err⟩, (popX psh M).2) := by simp [shrinkX, hc]
      rw [e]
      refine ⟨?_, fun h => by simp at h⟩
      rw [e2]
      simp [kF, shrinkF, e1, hc]
  · have e1 := parkX_ma pk M (h9 rfl).1
    by_cases hc : (parkX pk M).1.ln = 0
    · have e : shrinkX ⟨⟨true, 6, seg, looks, slot, w, psh, pk, kept⟩, err⟩ M = (⟨⟨true, 5, seg, looks, slot, w, ⟨1, 0, 0⟩, (parkX pk M).1, kept⟩, err⟩, (parkX pk M).2) := by simp [shrinkX, hc]
      rw [e]
      refine ⟨?_, fun h => by simp at h⟩
      simp [kF, shrinkF, e1, hc]
    · have e : shrinkX ⟨⟨true, 6, seg, looks, slot, w, psh, pk, kept⟩, err⟩ M = (⟨⟨true, 6, seg, looks, slot, w, psh, (parkX pk M).1, kept⟩, err⟩, (parkX pk M).2) := by simp [shrinkX, hc]
      rw [e]
      refine ⟨?_, fun h => by simp at h⟩
      simp [kF, shrinkF, e1, hc]
  · obtain ⟨hne, hto⟩ := h8 rfl
    obtain ⟨e1, e2⟩ := pushX_ma psh M (fun _ => by rw [hto]; exact h10 _ (last_of hne).1)
    by_cases hc : (pushX psh M).1.nx = 0
    · have e : shrinkX ⟨⟨true, 7, seg, looks, slot, w, psh, pk, kept⟩, err⟩ M = (⟨KO.seven ⟨true, 7, seg, looks, slot, w, psh, pk, kept.dropLast⟩, err⟩, (pushX psh M).2) := by simp [shrinkX, hc]
      rw [e]
      refine ⟨?_, fun h => ?_⟩
      · rw [e2]
        simp [kF, shrinkF, e1, hc]
      · have := seven_ln ⟨true, 7, seg, looks, slot, w, psh, pk, kept.dropLast⟩
        simp only at h
        omega
    · have e : shrinkX ⟨⟨true, 7, seg, looks, slot, w, psh, pk, kept⟩, err⟩ M = (⟨⟨true, 7, seg, looks, slot, w, (pushX psh M).1, pk, kept⟩, err⟩, (pushX psh M).2) := by simp [shrinkX, hc]
      rw [e]
      refine ⟨?_, fun h => by simp at h⟩
      rw [e2]
      simp [kF, shrinkF, e1, hc]
  · by_cases hc : (maV M.V).sst seg = 2
    · have e : shrinkX ⟨⟨true, 8, seg, looks, slot, w, psh, pk, kept⟩, err⟩ M = (⟨⟨true, 11, seg, looks, 8 * seg, w, psh, pk, kept⟩, err⟩, csM M (adG seg) 2 1) := by simp [shrinkX, casV_G h1, hc, KO.turn]
      rw [e]
      refine ⟨?_, fun h => by simp at h⟩
      show _ = (_, maV (csV M.V (adG seg) _ _))
      rw [ma_csG h1, if_pos hc]
      simp [kF, shrinkF, hc, KO.turn]
    · have e : shrinkX ⟨⟨true, 8, seg, looks, slot, w, psh, pk, kept⟩, err⟩ M = (⟨⟨true, 0, seg, looks, slot, w, psh, pk, kept⟩, 7⟩, csM M (adG seg) 2 1) := by simp [shrinkX, casV_G h1, hc]
      rw [e]
      refine ⟨?_, fun h => by simp [errK]⟩
      show _ = (_, maV (csV M.V (adG seg) _ _))
      rw [ma_csG h1, if_neg hc]
      simp [kF, shrinkF, hc]
theorem kX_ma (ok : KNum o) (h0 : o.k.ln ≠ 0) (h5 : o.k.ln = 5 → o.k.psh.nx = 2 → 0 ≤ wSlot o.k.psh.h) (hk : o.k.kept.length + 1 < 256) : Ma o.k (kX o M) M := by
  have ln := ok.ln
  have gr := ok.gr
  unfold kX
  by_cases h : 11 ≤ o.k.ln
  · rw [if_pos h]; exact turnX_ma ok h
  · rw [if_neg h]
    by_cases hs : o.k.sh = false
    · rw [if_pos hs]
      have := gr hs
      exact growX_ma ok (by omega) hs
    · rw [if_neg hs]
      exact shrinkX_ma ok (by omega) (by simpa using hs) h5 hk
end
end Go.Proofs.YtmjcbjcnmgleaaaGreatDoor
