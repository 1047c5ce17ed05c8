/-
  What the words of chapter 1 are, as plain functions of numbers, and the arithmetic of their fields: no program is named here; no condition.
-/
import Derived.Test.YtapcgikamldchaaDoorPlain
namespace Go.Proofs.YtapcgikamldchaaDoor
open Go

def numS (s : Int) : Int := if 0 ≤ s ∧ s < 256 then s + 1 else 0
def slotS (n : Int) : Int := if 256 < n then -1 else n - 1
def bitB (b : Bool) : Int := if b = true then 1 else 0
def stS (s : Int) : Int := if 4 < s then 4 else s
def phS (p : Int) : Int := if 3 < p then 0 else p

theorem numS_in (s : Int) : 0 ≤ numS s ∧ numS s ≤ 256 := by unfold numS; split <;> omega
theorem numS_yes {s : Int} (h0 : 0 ≤ s) (h1 : s < 256) : numS s = s + 1 := by unfold numS; rw [if_pos ⟨h0, h1⟩]
theorem numS_no {s : Int} (h : ¬ (0 ≤ s ∧ s < 256)) : numS s = 0 := by unfold numS; rw [if_neg h]
theorem bitB_in (b : Bool) : 0 ≤ bitB b ∧ bitB b ≤ 1 := by cases b <;> simp [bitB]
theorem stS_in (s : Int) (h : 0 ≤ s) : 0 ≤ stS s ∧ stS s ≤ 4 := by unfold stS; split <;> omega
theorem phS_in (s : Int) (h : 0 ≤ s) : 0 ≤ phS s ∧ phS s ≤ 3 := by unfold phS; split <;> omega
theorem u64_small {x : Int} (h0 : 0 ≤ x) (h1 : x < 4294967296) : U64 x := ⟨h0, by omega⟩

/-- The words. -/
def refW (s g : Int) (m : Bool) : Int := if numS s = 0 then pw (bitB m) 63 1 else pw (bitB m) 63 1 + pw (numS s) 0 16 + pw g 16 32
def headW (s t : Int) : Int := pw (numS s) 0 16 + pw t 16 48
def headerW (s g : Int) : Int := pw (stS s) 0 3 + pw g 3 32
def phaseW (p o n k : Int) : Int := pw (phS p) 0 3 + pw o 3 3 + pw n 6 3 + pw k 16 48
def blockW (j : Int) (c : Bool) : Int := pw j 0 32 + pw (bitB c) 32 1
/-- What a word says. -/
def wSlot (w : Int) : Int := slotS (fld w 0 16)
def wGen (w : Int) : Int := if 0 ≤ wSlot w then fld w 16 32 else 0
def wMark (w : Int) : Bool := fld w 63 1 != 0

theorem or_nat (i x y : Nat) (hx : x % 2 ^ i = 0) (hy : y < 2 ^ i) (h1 : x < 18446744073709551616) (h2 : y < 18446744073709551616) : bits .or .u64 (x : Int) (y : Int) = ((x + y : Nat) : Int) := by
  rw [u64_or_nat x y h1 h2, nat_join i x y hx hy]
theorem or_nat' (i x y : Nat) (hx : x % 2 ^ i = 0) (hy : y < 2 ^ i) (h1 : x < 18446744073709551616) (h2 : y < 18446744073709551616) : bits .or .u64 (y : Int) (x : Int) = ((y + x : Nat) : Int) := by
  rw [u64_or_nat y x h2 h1, Nat.or_comm, nat_join i x y hx hy, Nat.add_comm]
theorem or_mid (M N G : Nat) (hM : M % 2 ^ 48 = 0) (hG : G < 2 ^ 48) (hG' : G % 2 ^ 16 = 0) (hN : N < 2 ^ 16) (h1 : M < 18446744073709551616) :
    bits .or .u64 (bits .or .u64 (M : Int) (N : Int)) (G : Int) = ((M + N + G : Nat) : Int) := by
  have a1 : M ||| N < 2 ^ 64 := Nat.or_lt_two_pow (by omega) (by omega)
  have hj : (M + G) % 2 ^ 16 = 0 := by omega
  rw [u64_or_nat M N h1 (by omega), u64_or_nat (M ||| N) G a1 (by omega), Nat.or_assoc, Nat.or_comm N G, ← Nat.or_assoc, nat_join 48 M G hM hG, nat_join 16 (M + G) N hj hN]
  congr 1
  omega
theorem pwN (v a m : Nat) : pw (v : Int) a m = ((v % 2 ^ m * 2 ^ a : Nat) : Int) := by
  unfold pw
  rw [pow_cast, pow_cast]
  norm_cast
theorem nat_of {v : Int} (h : 0 ≤ v) : ∃ n : Nat, v = (n : Int) := Int.eq_ofNat_of_zero_le h

/-- Two fields that do not meet, the low one first. -/
theorem or_up (v u : Int) (m b n : Nat) (hv : 0 ≤ v) (hu : 0 ≤ u) (hb : m ≤ b) (hn : b + n ≤ 64) : bits .or .u64 (pw v 0 m) (pw u b n) = pw v 0 m + pw u b n := by
  obtain ⟨V, rfl⟩ := nat_of hv
  obtain ⟨U, rfl⟩ := nat_of hu
  have l1 := pw_u64 (V : Int) 0 m (by omega)
  have l2 := pw_u64 (U : Int) b n hn
  have l3 := pw_lt (V : Int) 0 m
  rw [pwN] at l1 l3
  rw [pwN] at l2
  rw [pwN, pwN]
  have e2 : V % 2 ^ m * 2 ^ 0 < 2 ^ b := by
    rw [Nat.pow_zero, Nat.mul_one]
    exact Nat.lt_of_lt_of_le (Nat.mod_lt _ (Nat.two_pow_pos m)) (Nat.pow_le_pow_right (by decide) hb)
  rw [or_nat' b _ _ (Nat.mul_mod_left _ _) e2 (lt_cast _ l2.2) (lt_cast _ l1.2)]
  norm_cast
theorem pw_max (u : Int) (b n : Nat) (hn : b + n ≤ 64) : pw u b n < 18446744073709551616 := (pw_u64 u b n hn).2
/-- A field laid above all that is there. -/
theorem or_on (x u : Int) (b n : Nat) (hx : U64 x) (hlt : x < 2 ^ b) (hu : 0 ≤ u) (hn : b + n ≤ 64) : bits .or .u64 x (pw u b n) = x + pw u b n := by
  obtain ⟨X, rfl⟩ := nat_of hx.1
  obtain ⟨U, rfl⟩ := nat_of hu
  have l2 := pw_u64 (U : Int) b n hn
  rw [pwN] at l2
  rw [pwN]
  rw [pow_cast] at hlt
  rw [or_nat' b _ _ (Nat.mul_mod_left _ _) (Int.ofNat_lt.1 hlt) (lt_cast _ l2.2) (lt_cast _ hx.2)]
  norm_cast
theorem ref_or (v n g : Int) (hv : 0 ≤ v) (hn : 0 ≤ n) (hg : 0 ≤ g) : bits .or .u64 (bits .or .u64 (pw v 63 1) (pw n 0 16)) (pw g 16 32) = pw v 63 1 + pw n 0 16 + pw g 16 32 := by
  obtain ⟨V, rfl⟩ := nat_of hv
  obtain ⟨N, rfl⟩ := nat_of hn
  obtain ⟨G, rfl⟩ := nat_of hg
  have l1 := pw_u64 (V : Int) 63 1 (by decide)
  rw [pwN] at l1
  rw [pwN, pwN, pwN]
  have e1 : V % 2 ^ 1 * 2 ^ 63 % 2 ^ 48 = 0 := by
    have e : V % 2 ^ 1 * 2 ^ 63 = (V % 2 ^ 1 * 2 ^ 15) * 2 ^ 48 := by rw [Nat.mul_assoc, ← Nat.pow_add]
    rw [e]
    exact Nat.mul_mod_left _ _
  have e2 : G % 2 ^ 32 * 2 ^ 16 < 2 ^ 48 := by
    have := Nat.mod_lt G (Nat.two_pow_pos 32)
    omega
  have e3 : N % 2 ^ 16 * 2 ^ 0 < 2 ^ 16 := by
    have := Nat.mod_lt N (Nat.two_pow_pos 16)
    omega
  rw [or_mid _ _ _ e1 e2 (Nat.mul_mod_left _ _) e3 (lt_cast _ l1.2)]
  norm_cast

/-- A word with its bit 63 set, and not. -/
def unmarkW (w : Int) : Int := w % 2 ^ 63
def markW (w : Int) : Int := w % 2 ^ 63 + 2 ^ 63
theorem pw_one : pw 1 63 1 = 9223372036854775808 := by decide
theorem mark_nat (W : Nat) (h : W < 18446744073709551616) : W ||| 9223372036854775808 = W % 9223372036854775808 + 9223372036854775808 := by
  have e : ∀ r : Nat, r < 9223372036854775808 → 9223372036854775808 ||| r = 9223372036854775808 + r := fun r hr => by
    have := nat_join 63 9223372036854775808 r (by decide) (by rw [np63]; exact hr)
    exact this
  by_cases hw : W < 9223372036854775808
  · rw [Nat.or_comm, e W hw, Nat.mod_eq_of_lt hw, Nat.add_comm]
  · obtain ⟨r, rfl⟩ : ∃ r, W = 9223372036854775808 + r := ⟨W - 9223372036854775808, by omega⟩
    have hr : r < 9223372036854775808 := by omega
    have a : (9223372036854775808 + r) ||| 9223372036854775808 = 9223372036854775808 + r := by rw [← e r hr, Nat.or_comm, ← Nat.or_assoc, Nat.or_self]
    rw [a]
    omega
theorem mark_or (w : Int) (hw : U64 w) : bits .or .u64 w (pw 1 63 1) = markW w := by
  obtain ⟨W, rfl⟩ := nat_of hw.1
  have hW := lt_cast W hw.2
  have e := u64_or_nat W 9223372036854775808 hW (by decide)
  unfold markW
  rw [pw_one, p63]
  rw [mark_nat W hW] at e
  exact e.trans (by omega)
theorem unmark_and (w : Int) (hw : U64 w) : bits .andNot .u64 w (pw 1 63 1) = unmarkW w := by
  obtain ⟨W, rfl⟩ := nat_of hw.1
  have hW := lt_cast W hw.2
  have e := u64_andNot_nat W 9223372036854775808 hW (by decide)
  have e2 : W &&& (18446744073709551615 - 9223372036854775808) = W % 9223372036854775808 := by
    have := Nat.and_two_pow_sub_one_eq_mod W 63
    rw [np63] at this
    exact this
  unfold unmarkW
  rw [pw_one, p63]
  rw [e2] at e
  exact e.trans (by omega)
theorem refW_u64 (s g : Int) (m : Bool) : U64 (refW s g m) := by
  unfold refW
  split
  · exact pw_u64 _ _ _ (by decide)
  · have h1 := Int.emod_lt_of_pos (bitB m) (two_pow_pos 1)
    have h2 := Int.emod_lt_of_pos (numS s) (two_pow_pos 16)
    have h3 := Int.emod_lt_of_pos g (two_pow_pos 32)
    have k1 := pw_nonneg (bitB m) 63 1
    have k2 := pw_nonneg (numS s) 0 16
    have k3 := pw_nonneg g 16 32
    refine ⟨by omega, ?_⟩
    unfold pw
    omega
theorem phase_or (p o m k : Int) (ho : 0 ≤ o) (hm : 0 ≤ m) (hk : 0 ≤ k) :
    bits .or .u64 (bits .or .u64 (bits .or .u64 (pw (phS p) 0 3) (pw o 3 3)) (pw m 6 3)) (pw k 16 48) = phaseW p o m k := by
  have b1 := pw_lt (phS p) 0 3
  have b2 := pw_lt o 3 3
  have b3 := pw_lt m 6 3
  have c1 := pw_nonneg (phS p) 0 3
  have c2 := pw_nonneg o 3 3
  have c3 := pw_nonneg m 6 3
  have e1 := or_on (pw (phS p) 0 3) o 3 3 (u64_small c1 (by omega)) (by omega) ho (by decide)
  have d2 : pw o 3 3 ≤ 56 := by unfold pw; omega
  have d3 : pw m 6 3 ≤ 448 := by unfold pw; omega
  have e2 := or_on (pw (phS p) 0 3 + pw o 3 3) m 6 3 (u64_small (by omega) (by omega)) (by omega) hm (by decide)
  have e3 := or_on (pw (phS p) 0 3 + pw o 3 3 + pw m 6 3) k 16 48 (u64_small (by omega) (by omega)) (by omega) hk (by decide)
  rw [e1, e2, e3]
  rfl
end Go.Proofs.YtapcgikamldchaaDoor
