/-
  The plain side of layer 3: the first command by its bytes, as the document tells it; no condition.
-/
import Derived.Test.YtlgfdemggkiojaaDoorPlain2
namespace Go.Proofs.YtlgfdemggkiojaaDoor

/-- A byte behind the first one; 256: there is none. -/
def num (b : List UInt8) (i : Nat) : Int := if i < b.length then byt b i else 256
theorem num_bd (b : List UInt8) (i : Nat) : 0 ≤ num b i ∧ num b i ≤ 256 := by
  have := byt_bd b i
  unfold num
  split <;> omega
theorem num_in {b : List UInt8} {i : Nat} (h : num b i ≤ 255) : i < b.length ∧ num b i = byt b i := by
  unfold num at *
  split at h
  · exact ⟨by assumption, if_pos (by assumption)⟩
  · omega
theorem num_out {b : List UInt8} {i : Nat} (h : ¬ i < b.length) : num b i = 256 := if_neg h
theorem num_at {b : List UInt8} {i : Nat} (h : i < b.length) : num b i = byt b i := if_pos h

theorem dec_eq (b : List UInt8) (k : Int) (s : Nat) (hk : kindOf (byt b 0) = k) (hs : sizeOf' k = s) :
    dec b = if b.length < s then noneC b.length else if inB (readC k b) = true then (readC k b).till s else noneC s := by
  unfold dec
  rw [hk, hs]
theorem dec_pick {b : List UInt8} (h0 : b ≠ []) (h : byt b 0 ≤ 127) : dec b = ⟨1, 0, 1, byt b 0, 0, 0, 0, 0, 0⟩ := by
  have hl := List.length_pos_iff.2 h0
  have hb := byt_bd b 0
  have hi : inB (readC 1 b) = true := by simp [inB, readC]; omega
  rw [dec_eq b 1 1 (kindOf_low (by omega)) rfl, if_neg (by omega), if_pos hi]
  rfl
theorem kindOf_high {n : Int} (h : 135 < n) : kindOf n = 0 := by
  unfold kindOf
  rw [if_neg (by omega), if_neg (by omega)]
theorem kindOf_mid {n k : Int} (h : n = k + 126) (h2 : 2 ≤ k) (h9 : k ≤ 9) : kindOf n = k := by
  unfold kindOf
  rw [if_neg (by omega), if_pos (by omega)]
  omega
theorem dec_high {b : List UInt8} (h0 : b ≠ []) (h : 135 < byt b 0) : dec b = noneC 1 := by
  have hl := List.length_pos_iff.2 h0
  have hi : inB (readC 0 b) = true := rfl
  rw [dec_eq b 0 1 (kindOf_high h) rfl, if_neg (by omega), if_pos hi]
  rfl
theorem dec_one {b : List UInt8} (h0 : b ≠ []) {k : Int} (h : byt b 0 = k + 126) (hk : k = 2 ∨ k = 7 ∨ k = 8) : dec b = ⟨k, 0, 1, 0, 0, 0, 0, 0, 0⟩ := by
  have hl := List.length_pos_iff.2 h0
  have hki := kindOf_mid h (by omega) (by omega)
  rcases hk with rfl | rfl | rfl
  · rw [dec_eq b _ 1 hki rfl, if_neg (by omega), if_pos (show inB (readC 2 b) = true from rfl)]
    rfl
  · rw [dec_eq b _ 1 hki rfl, if_neg (by omega), if_pos (show inB (readC 7 b) = true from rfl)]
    rfl
  · rw [dec_eq b _ 1 hki rfl, if_neg (by omega), if_pos (show inB (readC 8 b) = true from rfl)]
    rfl
theorem dec_short {b : List UInt8} {k : Int} {s : Nat} (h : byt b 0 = k + 126) (h2 : 2 ≤ k) (h9 : k ≤ 9) (hs : sizeOf' k = s) (hl : b.length < s) : dec b = noneC b.length := by
  rw [dec_eq b k s (kindOf_mid h h2 h9) hs, if_pos hl]
theorem dec_bad {b : List UInt8} {k : Int} {s : Nat} (h : byt b 0 = k + 126) (h2 : 2 ≤ k) (h9 : k ≤ 9) (hs : sizeOf' k = s) (hl : s ≤ b.length) (hi : inB (readC k b) = false) : dec b = noneC s := by
  rw [dec_eq b k s (kindOf_mid h h2 h9) hs, if_neg (by omega), if_neg (by rw [hi]; simp)]
theorem dec_good {b : List UInt8} {k : Int} {s : Nat} (h : byt b 0 = k + 126) (h2 : 2 ≤ k) (h9 : k ≤ 9) (hs : sizeOf' k = s) (hl : s ≤ b.length) (hi : inB (readC k b) = true) : dec b = (readC k b).till s := by
  rw [dec_eq b k s (kindOf_mid h h2 h9) hs, if_neg (by omega), if_pos hi]
/-- A command of two bytes that may not be. -/
theorem dec_two_no {b : List UInt8} {k : Int} (h : byt b 0 = k + 126) (hk : 3 ≤ k ∧ k ≤ 6) (hi : 2 ≤ b.length → inB (readC k b) = false) : dec b = noneC (min b.length 2 : Nat) := by
  have hs : sizeOf' k = 2 := by
    rcases (show k = 3 ∨ k = 4 ∨ k = 5 ∨ k = 6 by omega) with rfl | rfl | rfl | rfl <;> rfl
  by_cases hl : b.length < 2
  · rw [dec_short h (by omega) (by omega) hs hl, Nat.min_eq_left (by omega)]
  · rw [dec_bad h (by omega) (by omega) hs (by omega) (hi (by omega)), Nat.min_eq_right (by omega)]
theorem dec_leave {b : List UInt8} (h : byt b 0 = 129) (hx : num b 1 ≤ 15) : dec b = ⟨3, 0, 2, 0, num b 1, 0, 0, 0, 0⟩ := by
  obtain ⟨hl, he⟩ := num_in (b := b) (i := 1) (by omega)
  have hb := byt_bd b 1
  rw [dec_good (k := 3) h (by omega) (by omega) rfl hl (by simp [inB, readC]; omega), he]
  rfl
theorem dec_leave_no {b : List UInt8} (h : byt b 0 = 129) (hx : 15 < num b 1) : dec b = noneC (min b.length 2 : Nat) :=
  dec_two_no (k := 3) h (by omega) fun hl => by
    rw [num_at (by omega)] at hx
    simp [inB, readC]
    omega
theorem dec_switch {b : List UInt8} (h : byt b 0 = 130) (hx : num b 1 = 1 ∨ num b 1 = 2 ∨ num b 1 = 4) : dec b = ⟨4, 0, 2, 0, 0, num b 1, 0, 0, 0⟩ := by
  obtain ⟨hl, he⟩ := num_in (b := b) (i := 1) (by omega)
  rw [he] at hx
  rw [dec_good (k := 4) h (by omega) (by omega) rfl hl (by simp [inB, readC]; omega), he]
  rfl
theorem dec_switch_no {b : List UInt8} (h : byt b 0 = 130) (hx : ¬ (num b 1 = 1 ∨ num b 1 = 2 ∨ num b 1 = 4)) : dec b = noneC (min b.length 2 : Nat) :=
  dec_two_no (k := 4) h (by omega) fun hl => by
    rw [num_at (by omega)] at hx
    simp [inB, readC]
    omega
theorem dec_seg {b : List UInt8} {k : Int} (h : byt b 0 = k + 126) (hk : k = 5 ∨ k = 6) (hx : num b 1 ≤ 31) : dec b = ⟨k, 0, 2, num b 1, 0, 0, 0, 0, 0⟩ := by
  obtain ⟨hl, he⟩ := num_in (b := b) (i := 1) (by omega)
  have hb := byt_bd b 1
  rcases hk with rfl | rfl
  all_goals
    rw [dec_good h (by omega) (by omega) rfl hl (by simp [inB, readC]; omega), he]
    rfl
theorem dec_seg_no {b : List UInt8} {k : Int} (h : byt b 0 = k + 126) (hk : k = 5 ∨ k = 6) (hx : 31 < num b 1) : dec b = noneC (min b.length 2 : Nat) :=
  dec_two_no h (by omega) fun hl => by
    rw [num_at (by omega)] at hx
    rcases hk with rfl | rfl
    all_goals
      simp [inB, readC]
      omega
theorem dec_call {b : List UInt8} (h : byt b 0 = 135) (h1 : num b 1 ≤ 15) (h2 : num b 2 ≤ 7) (h4 : num b 4 ≤ 255) : dec b = ⟨9, 0, 5, 0, num b 1, 0, num b 2, num b 3, num b 4⟩ := by
  obtain ⟨hl, e4⟩ := num_in (b := b) (i := 4) h4
  have e1 := num_at (b := b) (i := 1) (by omega)
  have e2 := num_at (b := b) (i := 2) (by omega)
  have e3 := num_at (b := b) (i := 3) (by omega)
  have hb := byt_bd b 1
  rw [dec_good (k := 9) h (by omega) (by omega) rfl hl (by simp [inB, readC]; omega), e1, e2, e3, e4]
  rfl
theorem dec_call_no {b : List UInt8} (h : byt b 0 = 135) (hx : ¬ (num b 1 ≤ 15 ∧ num b 2 ≤ 7 ∧ num b 4 ≤ 255)) : dec b = noneC (min b.length 5 : Nat) := by
  by_cases hl : b.length < 5
  · rw [dec_short (k := 9) h (by omega) (by omega) rfl hl, Nat.min_eq_left (by omega)]
  · have e1 := num_at (b := b) (i := 1) (by omega)
    have e2 := num_at (b := b) (i := 2) (by omega)
    have e4 := num_at (b := b) (i := 4) (by omega)
    have hb := byt_bd b 4
    rw [dec_bad (k := 9) (s := 5) h (by omega) (by omega) rfl (by omega) (by simp [inB, readC]; omega), Nat.min_eq_right (by omega)]
end Go.Proofs.YtlgfdemggkiojaaDoor
