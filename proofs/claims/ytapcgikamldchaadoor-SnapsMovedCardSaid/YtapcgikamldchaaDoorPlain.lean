/-
  Plain arithmetic of fields of words of 64 bits: no program is named here; no condition.
-/
import Derived.Laws.BitsAllLaws
namespace Go.Proofs.YtapcgikamldchaaDoor
open Go

/-- The field of m bits from bit a on. -/
def fld (x : Int) (a m : Nat) : Int := x / 2 ^ a % 2 ^ m
/-- A value of m bits laid at bit a. -/
def pw (v : Int) (a m : Nat) : Int := v % 2 ^ m * 2 ^ a
def U64 (x : Int) : Prop := 0 ≤ x ∧ x < 18446744073709551616
def U32 (x : Int) : Prop := 0 ≤ x ∧ x < 4294967296
def U8 (x : Int) : Prop := 0 ≤ x ∧ x < 256
def I64 (x : Int) : Prop := -9223372036854775808 ≤ x ∧ x < 9223372036854775808

theorem two_pow_pos (m : Nat) : (0 : Int) < 2 ^ m := by
  have := Int.pow_pos (n := (2 : Int)) (m := m) (by decide); exact this
theorem two_pow_le {a b : Nat} (h : a ≤ b) : (2 : Int) ^ a ≤ 2 ^ b := by
  have := Nat.pow_le_pow_right (n := 2) (by decide) h
  exact_mod_cast this
theorem p64 : (2 : Int) ^ 64 = 18446744073709551616 := by decide
theorem p63 : (2 : Int) ^ 63 = 9223372036854775808 := by decide
theorem np63 : (2 : Nat) ^ 63 = 9223372036854775808 := by decide
theorem p62 : (2 : Int) ^ 62 = 4611686018427387904 := by decide
theorem p32 : (2 : Int) ^ 32 = 4294967296 := by decide
theorem p8 : (2 : Int) ^ 8 = 256 := by decide

theorem fld_nonneg (x : Int) (a m : Nat) : 0 ≤ fld x a m := Int.emod_nonneg _ (by have := two_pow_pos m; omega)
theorem fld_lt (x : Int) (a m : Nat) : fld x a m < 2 ^ m := Int.emod_lt_of_pos _ (two_pow_pos m)
theorem fld_u64 (x : Int) (a m : Nat) (h : m ≤ 64) : U64 (fld x a m) := ⟨fld_nonneg x a m, by have := fld_lt x a m; have := two_pow_le h; rw [p64] at this; omega⟩

theorem mask_val (m : Nat) (h : m ≤ 63) : IntKind.u64.wrap (IntKind.u64.wrap (2 ^ m) - 1) = 2 ^ m - 1 := by
  have h1 := two_pow_pos m
  have h2 := two_pow_le h
  rw [p63] at h2
  rw [IntKind.wrap_u64, IntKind.wrap_u64]
  omega

theorem pow_cast (m : Nat) : (2 : Int) ^ m = ((2 ^ m : Nat) : Int) := by norm_cast
theorem pred_cast (P : Nat) (h : 0 < P) : (P : Int) - 1 = ((P - 1 : Nat) : Int) := by omega
theorem pred_lt (P : Nat) (h : P ≤ 9223372036854775808) : P - 1 < 18446744073709551616 := by omega
theorem lt_cast (X : Nat) (h : (X : Int) < 18446744073709551616) : X < 18446744073709551616 := by omega
theorem and_val (x : Int) (m : Nat) (hx : U64 x) (h : m ≤ 63) : bits .and .u64 x (2 ^ m - 1) = x % 2 ^ m := by
  obtain ⟨h0, h1⟩ := hx
  obtain ⟨X, rfl⟩ := Int.eq_ofNat_of_zero_le h0
  have hp : (0 : Nat) < 2 ^ m := Nat.two_pow_pos m
  have hq : (2 : Nat) ^ m ≤ 9223372036854775808 := by
    have := Nat.pow_le_pow_right (n := 2) (by decide) h
    rwa [np63] at this
  rw [pow_cast, pred_cast _ hp, u64_and_nat X (2 ^ m - 1) (lt_cast X h1) (pred_lt _ hq), Nat.and_two_pow_sub_one_eq_mod]
  exact Int.natCast_emod _ _
theorem div_u64 (x : Int) (a : Nat) (hx : U64 x) : U64 (x / 2 ^ a) := by
  obtain ⟨h0, h1⟩ := hx
  have hp := two_pow_pos a
  exact ⟨Int.ediv_nonneg h0 (by omega), Int.lt_of_le_of_lt (Int.ediv_le_self _ h0) h1⟩
theorem take_val (x : Int) (a m : Nat) (hx : U64 x) (h : m ≤ 63) : bits .and .u64 (x / 2 ^ a) (2 ^ m - 1) = fld x a m :=
  and_val _ m (div_u64 x a hx) h
theorem pw_nonneg (v : Int) (a m : Nat) : 0 ≤ pw v a m := Int.mul_nonneg (Int.emod_nonneg _ (by have := two_pow_pos m; omega)) (Int.le_of_lt (two_pow_pos a))
theorem pw_lt (v : Int) (a m : Nat) : pw v a m < 2 ^ (a + m) := by
  have h := Int.emod_lt_of_pos v (two_pow_pos m)
  have := Int.mul_lt_mul_of_pos_right h (two_pow_pos a)
  rw [Int.pow_add, Int.mul_comm (2 ^ a)]
  exact this
theorem pw_u64 (v : Int) (a m : Nat) (ha : a + m ≤ 64) : U64 (pw v a m) := by
  have h1 := pw_lt v a m
  have h2 := two_pow_le ha
  rw [p64] at h2
  exact ⟨pw_nonneg v a m, Int.lt_of_lt_of_le h1 h2⟩
end Go.Proofs.YtapcgikamldchaaDoor
