/-
  What is put together is taken apart as it was, and unlike refs and heads have unlike words: plain arithmetic; conditions: slots from -1 to 255, numbers of their kinds.
-/
import Derived.Test.YtapcgikamldchaaDoorSpec
namespace Go.Proofs.YtapcgikamldchaaDoor
open Go

theorem fld_lit (x : Int) (a m : Nat) (A M : Int) (ha : (2 : Int) ^ a = A) (hm : (2 : Int) ^ m = M) : fld x a m = x / A % M := by
  unfold fld
  rw [ha, hm]
theorem q0 : (2 : Int) ^ 0 = 1 := by decide
theorem q1 : (2 : Int) ^ 1 = 2 := by decide
theorem q3 : (2 : Int) ^ 3 = 8 := by decide
theorem q6 : (2 : Int) ^ 6 = 64 := by decide
theorem q16 : (2 : Int) ^ 16 = 65536 := by decide
theorem q48 : (2 : Int) ^ 48 = 281474976710656 := by decide

theorem refW_eq (s g : Int) (m : Bool) (h0 : 0 ≤ s) (h1 : s < 256) (hg : U32 g) : refW s g m = bitB m * 9223372036854775808 + (s + 1) + g * 65536 := by
  have hb := bitB_in m
  obtain ⟨hg0, hg1⟩ := hg
  unfold refW
  rw [numS_yes h0 h1, if_neg (by omega)]
  unfold pw
  rw [p63, q1, q16, p32, q0]
  omega
theorem refW_eq_none (g : Int) (m : Bool) : refW (-1) g m = bitB m * 9223372036854775808 := by
  have hb := bitB_in m
  unfold refW
  rw [numS_no (by omega), if_pos rfl]
  unfold pw
  rw [p63, q1]
  omega
theorem bit_back (m : Bool) : (bitB m != 0) = m := by cases m <;> rfl

theorem ref_back (s g : Int) (m : Bool) (h0 : 0 ≤ s) (h1 : s < 256) (hg : U32 g) : wSlot (refW s g m) = s ∧ wGen (refW s g m) = g ∧ wMark (refW s g m) = m := by
  have hb := bitB_in m
  have e := refW_eq s g m h0 h1 hg
  obtain ⟨hg0, hg1⟩ := hg
  have f1 : fld (refW s g m) 0 16 = s + 1 := by rw [fld_lit _ 0 16 _ _ q0 q16, e]; omega
  have f2 : fld (refW s g m) 16 32 = g := by rw [fld_lit _ 16 32 _ _ q16 p32, e]; omega
  have f3 : fld (refW s g m) 63 1 = bitB m := by rw [fld_lit _ 63 1 _ _ p63 q1, e]; omega
  have hs : wSlot (refW s g m) = s := by unfold wSlot slotS; rw [f1, if_neg (by omega)]; omega
  exact ⟨hs, by unfold wGen; rw [hs, if_pos h0, f2], by unfold wMark; rw [f3, bit_back]⟩
theorem ref_back_none (g : Int) (m : Bool) : wSlot (refW (-1) g m) = -1 ∧ wGen (refW (-1) g m) = 0 ∧ wMark (refW (-1) g m) = m := by
  have hb := bitB_in m
  have e := refW_eq_none g m
  have f1 : fld (refW (-1) g m) 0 16 = 0 := by rw [fld_lit _ 0 16 _ _ q0 q16, e]; omega
  have f3 : fld (refW (-1) g m) 63 1 = bitB m := by rw [fld_lit _ 63 1 _ _ p63 q1, e]; omega
  have hs : wSlot (refW (-1) g m) = -1 := by unfold wSlot slotS; rw [f1, if_neg (by omega)]; omega
  exact ⟨hs, by unfold wGen; rw [hs, if_neg (by omega)], by unfold wMark; rw [f3, bit_back]⟩
theorem ref_back_all (s g : Int) (m : Bool) (h0 : -1 ≤ s) (h1 : s < 256) (hg : U32 g) (hn : s = -1 → g = 0) : wSlot (refW s g m) = s ∧ wGen (refW s g m) = g ∧ wMark (refW s g m) = m := by
  by_cases h : s = -1
  · obtain rfl := h
    obtain rfl := hn rfl
    exact ref_back_none 0 m
  · exact ref_back s g m (by omega) h1 hg

theorem headW_eq (s t : Int) : headW s t = numS s + t % 281474976710656 * 65536 := by
  have hn := numS_in s
  unfold headW pw
  rw [q16, q0, q48]
  omega
theorem head_slot (s t : Int) (h0 : -1 ≤ s) (h1 : s < 256) : wSlot (headW s t) = s := by
  have e := headW_eq s t
  have hn := numS_in s
  have f1 : fld (headW s t) 0 16 = numS s := by rw [fld_lit _ 0 16 _ _ q0 q16, e]; omega
  unfold wSlot slotS
  rw [f1]
  unfold numS
  split <;> split <;> omega
theorem head_tag (s t : Int) : fld (headW s t) 16 48 = t % 281474976710656 := by
  have e := headW_eq s t
  have hn := numS_in s
  rw [fld_lit _ 16 48 _ _ q16 q48, e]
  omega

theorem headerW_eq (s g : Int) (hs : 0 ≤ s) (hg : U32 g) : headerW s g = stS s + g * 8 := by
  have hn := stS_in s hs
  obtain ⟨hg0, hg1⟩ := hg
  unfold headerW pw
  rw [q3, q0, p32]
  omega
theorem header_back (s g : Int) (hs : 0 ≤ s) (hg : U32 g) : fld (headerW s g) 0 3 = stS s ∧ fld (headerW s g) 3 32 = g := by
  have hn := stS_in s hs
  have e := headerW_eq s g hs hg
  obtain ⟨hg0, hg1⟩ := hg
  exact ⟨by rw [fld_lit _ 0 3 _ _ q0 q3, e]; omega, by rw [fld_lit _ 3 32 _ _ q3 p32, e]; omega⟩
theorem stS_small {s : Int} (h : s ≤ 4) : stS s = s := if_neg (by omega)
theorem stS_stS (s : Int) : stS (stS s) = stS s := by
  by_cases h : 4 < s
  · have e : stS s = 4 := if_pos h
    rw [e]
    rfl
  · have e : stS s = s := if_neg h
    rw [e, e]

theorem block_back (j : Int) (c : Bool) (hj : U32 j) : fld (blockW j c) 0 32 = j ∧ (fld (blockW j c) 32 1 != 0) = c := by
  have hb := bitB_in c
  obtain ⟨h0, h1⟩ := hj
  have e : blockW j c = j + bitB c * 4294967296 := by
    unfold blockW pw
    rw [p32, q0, q1]
    omega
  refine ⟨by rw [fld_lit _ 0 32 _ _ q0 p32, e]; omega, ?_⟩
  have f : fld (blockW j c) 32 1 = bitB c := by rw [fld_lit _ 32 1 _ _ p32 q1, e]; omega
  rw [f, bit_back]

theorem phase_back (p o m k : Int) (hp0 : 0 ≤ p) (hp : p ≤ 3) (ho0 : 0 ≤ o) (ho : o < 8) (hm0 : 0 ≤ m) (hm : m < 8) (hk0 : 0 ≤ k) (hk : k < 281474976710656) :
    phS (fld (phaseW p o m k) 0 3) = p ∧ fld (phaseW p o m k) 3 3 = o ∧ fld (phaseW p o m k) 6 3 = m ∧ fld (phaseW p o m k) 16 48 = k := by
  have e : phaseW p o m k = p + o * 8 + m * 64 + k * 65536 := by
    unfold phaseW phS pw
    rw [if_neg (by omega), q3, q0, q6, q16, q48]
    omega
  have f0 : fld (phaseW p o m k) 0 3 = p := by rw [fld_lit _ 0 3 _ _ q0 q3, e]; omega
  refine ⟨by rw [f0]; exact if_neg (by omega), ?_, ?_, ?_⟩
  · rw [fld_lit _ 3 3 _ _ q3 q3, e]; omega
  · rw [fld_lit _ 6 3 _ _ q6 q3, e]; omega
  · rw [fld_lit _ 16 48 _ _ q16 q48, e]; omega

theorem tag_low (t : Int) (ht : U64 t) : IntKind.u64.wrap (t * 65536) / 65536 = t % 281474976710656 := by
  obtain ⟨h0, h1⟩ := ht
  rw [IntKind.wrap_u64]
  omega
theorem tag_eq (t u : Int) (ht : U64 t) (hu : U64 u) : IntKind.u64.wrap (t * 65536) = IntKind.u64.wrap (u * 65536) ↔ t % 281474976710656 = u % 281474976710656 := by
  obtain ⟨h0, h1⟩ := ht
  obtain ⟨h2, h3⟩ := hu
  rw [IntKind.wrap_u64, IntKind.wrap_u64]
  omega
theorem head_same (s t u : Int) (ht : U64 t) (hu : U64 u) (h : (IntKind.u64.wrap (t * 65536) == IntKind.u64.wrap (u * 65536)) = true) : (headW s t == headW s u) = true := by
  have e := (tag_eq t u ht hu).1 (by simpa using h)
  rw [beq_iff_eq, headW_eq, headW_eq, e]
theorem head_other (s t u : Int) (ht : U64 t) (hu : U64 u) (h : (IntKind.u64.wrap (t * 65536) == IntKind.u64.wrap (u * 65536)) = false) : (headW s t == headW s u) = false := by
  rw [beq_eq_false_iff_ne] at h ⊢
  intro e
  refine h ((tag_eq t u ht hu).2 ?_)
  rw [← head_tag s t, ← head_tag s u, e]
theorem head_slots (s z t u : Int) (h0 : -1 ≤ s) (h1 : s < 256) (h2 : -1 ≤ z) (h3 : z < 256) (h : (s == z) = false) : (headW s t == headW z u) = false := by
  rw [beq_eq_false_iff_ne] at h ⊢
  intro e
  refine h ?_
  rw [← head_slot s t h0 h1, ← head_slot z u h2 h3, e]
/-- Slots that are unlike. -/
theorem ref_slots (s z g y : Int) (m n : Bool) (h0 : -1 ≤ s) (h1 : s < 256) (h2 : -1 ≤ z) (h3 : z < 256) (hg : U32 g) (hy : U32 y) (h : (s == z) = false) : (refW s g m == refW z y n) = false := by
  have k : ∀ (s g : Int) (m : Bool), -1 ≤ s → s < 256 → U32 g → wSlot (refW s g m) = s := fun s g m h0 h1 hg => by
    by_cases e : s = -1
    · obtain rfl := e
      exact (ref_back_none g m).1
    · exact (ref_back s g m (by omega) h1 hg).1
  rw [beq_eq_false_iff_ne] at h ⊢
  intro e
  refine h ?_
  rw [← k s g m h0 h1 hg, ← k z y n h2 h3 hy, e]
theorem ref_gens (s g y : Int) (m n : Bool) (h0 : 0 ≤ s) (h1 : s < 256) (hg : U32 g) (hy : U32 y) (h : (g == y) = false) : (refW s g m == refW s y n) = false := by
  rw [beq_eq_false_iff_ne] at h ⊢
  intro e
  refine h ?_
  rw [← (ref_back s g m h0 h1 hg).2.1, ← (ref_back s y n h0 h1 hy).2.1, e]
theorem ref_marks (s g : Int) (m n : Bool) (h0 : 0 ≤ s) (h1 : s < 256) (hg : U32 g) (h : (m == n) = false) : (refW s g m == refW s g n) = false := by
  rw [beq_eq_false_iff_ne] at h ⊢
  intro e
  refine h ?_
  rw [← (ref_back s g m h0 h1 hg).2.2, ← (ref_back s g n h0 h1 hg).2.2, e]
theorem ref_marks_none (g : Int) (m n : Bool) (h : (m == n) = false) : (refW (-1) g m == refW (-1) g n) = false := by
  rw [beq_eq_false_iff_ne] at h ⊢
  intro e
  refine h ?_
  rw [← (ref_back_none g m).2.2, ← (ref_back_none g n).2.2, e]

theorem wSlot_in (x : Int) : -1 ≤ wSlot x ∧ wSlot x < 256 := by
  have h := fld_nonneg x 0 16
  unfold wSlot slotS
  split <;> omega
theorem wGen_u32 (x : Int) : U32 (wGen x) := by
  have h := fld_nonneg x 16 32
  have h2 := fld_lt x 16 32
  rw [p32] at h2
  unfold wGen
  split
  · exact ⟨h, h2⟩
  · exact ⟨by decide, by decide⟩
theorem wGen_none {x : Int} (h : wSlot x = -1) : wGen x = 0 := by
  unfold wGen
  rw [h]
  rfl
theorem mark_parts (x : Int) (hx : U64 x) : wSlot (markW x) = wSlot x ∧ wGen (markW x) = wGen x ∧ wMark (markW x) = true := by
  obtain ⟨h0, h1⟩ := hx
  have f1 : fld (markW x) 0 16 = fld x 0 16 := by rw [fld_lit _ 0 16 _ _ q0 q16, fld_lit _ 0 16 _ _ q0 q16]; unfold markW; rw [p63]; omega
  have f2 : fld (markW x) 16 32 = fld x 16 32 := by rw [fld_lit _ 16 32 _ _ q16 p32, fld_lit _ 16 32 _ _ q16 p32]; unfold markW; rw [p63]; omega
  have f3 : fld (markW x) 63 1 = 1 := by rw [fld_lit _ 63 1 _ _ p63 q1]; unfold markW; rw [p63]; omega
  have hs : wSlot (markW x) = wSlot x := by unfold wSlot; rw [f1]
  exact ⟨hs, by unfold wGen; rw [hs, f2], by unfold wMark; rw [f3]; rfl⟩
theorem unmark_parts (x : Int) (hx : U64 x) : wSlot (unmarkW x) = wSlot x ∧ wGen (unmarkW x) = wGen x ∧ wMark (unmarkW x) = false := by
  obtain ⟨h0, h1⟩ := hx
  have f1 : fld (unmarkW x) 0 16 = fld x 0 16 := by rw [fld_lit _ 0 16 _ _ q0 q16, fld_lit _ 0 16 _ _ q0 q16]; unfold unmarkW; rw [p63]; omega
  have f2 : fld (unmarkW x) 16 32 = fld x 16 32 := by rw [fld_lit _ 16 32 _ _ q16 p32, fld_lit _ 16 32 _ _ q16 p32]; unfold unmarkW; rw [p63]; omega
  have f3 : fld (unmarkW x) 63 1 = 0 := by rw [fld_lit _ 63 1 _ _ p63 q1]; unfold unmarkW; rw [p63]; omega
  have hs : wSlot (unmarkW x) = wSlot x := by unfold wSlot; rw [f1]
  exact ⟨hs, by unfold wGen; rw [hs, f2], by unfold wMark; rw [f3]; rfl⟩
theorem markW_u64 (x : Int) : U64 (markW x) := by unfold markW; rw [p63]; exact ⟨by omega, by omega⟩
theorem unmarkW_u64 (x : Int) : U64 (unmarkW x) := by unfold unmarkW; rw [p63]; exact ⟨by omega, by omega⟩
theorem mark_unmark (x : Int) : markW (unmarkW x) = markW x := by unfold markW unmarkW; rw [p63]; omega
theorem unmark_mark (x : Int) : unmarkW (markW x) = unmarkW x := by unfold markW unmarkW; rw [p63]; omega
theorem mark_or_unmark (x : Int) (hx : U64 x) : markW x = x ∨ unmarkW x = x := by
  obtain ⟨h0, h1⟩ := hx
  unfold markW unmarkW
  rw [p63]
  omega
theorem headW_u64 (s t : Int) : U64 (headW s t) := by rw [headW_eq]; have := numS_in s; exact ⟨by omega, by omega⟩
theorem headerW_u64 (s g : Int) (hs : 0 ≤ s) (hg : U32 g) : U64 (headerW s g) := by
  rw [headerW_eq s g hs hg]
  have := stS_in s hs
  obtain ⟨hg0, hg1⟩ := hg
  exact ⟨by omega, by omega⟩
theorem blockW_u64 (j : Int) (c : Bool) : U64 (blockW j c) := by
  unfold blockW pw
  rw [p32, q0, q1]
  exact ⟨by omega, by omega⟩
theorem phaseW_u64 (p o m k : Int) : U64 (phaseW p o m k) := by
  unfold phaseW pw
  rw [q3, q0, q6, q16, q48]
  exact ⟨by omega, by omega⟩
end Go.Proofs.YtapcgikamldchaaDoor
