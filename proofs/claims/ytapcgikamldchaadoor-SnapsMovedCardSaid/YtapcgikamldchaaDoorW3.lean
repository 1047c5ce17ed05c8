/-
  The calls of the document's own answers for layer 1: each gives back the chapter's number, and changes nothing that was there; condition: the arguments are numbers of their kinds.
  The calls of the document's own answers for layer 1, from Ref to AsBlock: each gives back the chapter's number, and changes nothing that was there; condition: the arguments are numbers of their kinds.
-/
import Derived.Test.YtapcgikamldchaaDoorW1
namespace Go.Proofs.YtapcgikamldchaaDoor
open Go.RowKit

theorem nat_mod_succ (y k : Nat) : y % 2 ^ (k + 1) = 2 * (y / 2 % 2 ^ k) + y % 2 := by
  rw [Nat.pow_succ, Nat.mul_comm (2 ^ k) 2, Nat.mod_mul]; omega
theorem nat_mod_top (y k : Nat) : y % 2 ^ (k + 1) = y % 2 ^ k + y / 2 ^ k % 2 * 2 ^ k := by
  rw [Nat.pow_succ, Nat.mod_mul, Nat.mul_comm (2 ^ k)]
theorem fldN (x a m : Nat) : fld (x : Int) a m = ((x / 2 ^ a % 2 ^ m : Nat) : Int) := by
  unfold fld
  rw [pow_cast, pow_cast]
  norm_cast
theorem fld_down (x : Int) (hx : 0 ≤ x) (c k : Nat) : fld x c (k + 1) = 2 * fld x (c + 1) k + fld x c 1 := by
  obtain ⟨X, rfl⟩ := nat_of hx
  rw [fldN, fldN, fldN, nat_mod_succ, Nat.div_div_eq_div_mul, ← Nat.pow_succ, Nat.pow_one]
  norm_cast
theorem pw_step (x : Int) (hx : 0 ≤ x) (a k : Nat) : pw x a (k + 1) = pw x a k + fld x k 1 * 2 ^ (a + k) := by
  obtain ⟨X, rfl⟩ := nat_of hx
  rw [pwN, pwN, fldN, pow_cast, nat_mod_top, Nat.add_mul, Nat.pow_one, Nat.mul_assoc, ← Nat.pow_add, Nat.add_comm k a]
  norm_cast
theorem half_step (x : Int) (k : Nat) : x / 2 ^ k / 2 = x / 2 ^ (k + 1) := by
  rw [Int.pow_succ, Int.ediv_ediv_of_nonneg (Int.le_of_lt (two_pow_pos k))]

theorem quo_step (x : Int) (k : Nat) (hx : U64 x) : IntKind.u64.wrap ((x / 2 ^ k).tdiv 2) = x / 2 ^ (k + 1) := by
  rw [Int.tdiv_eq_ediv_of_nonneg (div_u64 x k hx).1, half_step]
  exact wrap_of_u64 _ (div_u64 x (k + 1) hx)

theorem rem_two (x : Int) (k : Nat) (hx : U64 x) : (x / 2 ^ k).tmod 2 = fld x k 1 := by
  rw [Int.tmod_eq_emod_of_nonneg (div_u64 x k hx).1]
  rfl

theorem fld_step (x : Int) (hx : U64 x) (c k : Nat) (hk : k + 1 ≤ 64) : IntKind.u64.wrap (IntKind.u64.wrap (2 * fld x (c + 1) k) + fld x c 1) = fld x c (k + 1) := by
  have h1 := fld_u64 x c (k + 1) hk
  have h2 := fld_down x hx.1 c k
  have h3 := fld_nonneg x (c + 1) k
  have h4 := fld_nonneg x c 1
  have h5 : U64 (2 * fld x (c + 1) k) := ⟨by omega, by have := h1.2; omega⟩
  rw [wrap_of_u64 _ h5, ← h2]
  exact wrap_of_u64 _ h1

theorem pw_mono (x : Int) (hx : 0 ≤ x) (a k m : Nat) (h : k ≤ m) : pw x a k ≤ pw x a m := by
  obtain ⟨X, rfl⟩ := nat_of hx
  rw [pwN, pwN]
  have e : X % 2 ^ k ≤ X % 2 ^ m := by
    rw [← Nat.mod_mod_of_dvd X (Nat.pow_dvd_pow 2 h)]
    exact Nat.mod_le _ _
  have := Nat.mul_le_mul_right (2 ^ a) e
  omega
theorem one_step (i : Nat) : IntKind.u64.wrap (IntKind.u64.wrap (2 ^ i) * 2) = IntKind.u64.wrap (2 ^ (i + 1)) := by
  rw [IntKind.wrap_u64, IntKind.wrap_u64, IntKind.wrap_u64, Int.pow_succ]
  omega
theorem one_in (i : Nat) (h : i ≤ 63) : IntKind.u64.wrap (2 ^ i) = 2 ^ i := by
  refine wrap_of_u64 _ ⟨Int.le_of_lt (two_pow_pos i), ?_⟩
  have := two_pow_le h
  rw [p63] at this
  omega
theorem fld_bit (x : Int) (k : Nat) : fld x k 1 = 0 ∨ fld x k 1 = 1 := by
  have h1 := fld_nonneg x k 1
  have h2 := fld_lt x k 1
  omega

theorem put_none (x : Int) (hx : U64 x) (a k : Nat) (h : (fld x k 1 == 1) = false) : pw x a k = pw x a (k + 1) := by
  have h2 := pw_step x hx.1 a k
  have h3 : fld x k 1 = 0 := by rcases fld_bit x k with e | e; exact e; rw [e] at h; simp at h
  rw [h2, h3]
  omega
theorem put_one (v x : Int) (hv : 0 ≤ v) (hx : U64 x) (a k m : Nat) (hk : k + 1 ≤ m) (ha : a + k ≤ 63) (h : (fld x k 1 == 1) = true) (hm : v + pw x a m < 18446744073709551616) :
    IntKind.u64.wrap (v + pw x a k + IntKind.u64.wrap (2 ^ (a + k))) = v + pw x a (k + 1) := by
  have h2 := pw_step x hx.1 a k
  have h3 : fld x k 1 = 1 := by simpa using h
  have h4 := pw_mono x hx.1 a (k + 1) m hk
  have h5 := pw_nonneg x a (k + 1)
  rw [h3, Int.one_mul] at h2
  rw [one_in (a + k) ha]
  rw [show v + pw x a k + 2 ^ (a + k) = v + pw x a (k + 1) by omega]
  exact wrap_of_u64 _ ⟨by omega, by omega⟩

end Go.Proofs.YtapcgikamldchaaDoor
namespace Go.Proofs.YtapcgikamldchaaDoor
open Go.RowKit

/-- Above what is there a field fits. -/
theorem put_fits (v x : Int) (a m : Nat) (hv : v < 2 ^ a) (ha : a + m ≤ 64) : v + pw x a m < 18446744073709551616 := by
  have h1 := Int.emod_lt_of_pos x (two_pow_pos m)
  have h2 := two_pow_le ha
  rw [p64, Int.pow_add] at h2
  have h3 : x % 2 ^ m * 2 ^ a ≤ (2 ^ m - 1) * 2 ^ a := Int.mul_le_mul_of_nonneg_right (by omega) (Int.le_of_lt (two_pow_pos a))
  rw [Int.sub_mul, Int.one_mul, Int.mul_comm (2 ^ m)] at h3
  unfold pw
  omega
theorem mod_u32 (x : Int) (a m : Nat) (h : m ≤ 32) : fld x a m % 4294967296 = fld x a m := by
  have h2 := two_pow_le h
  rw [p32] at h2
  exact Int.emod_eq_of_lt (fld_nonneg x a m) (Int.lt_of_lt_of_le (fld_lt x a m) h2)
theorem mod_u8 (x : Int) (a m : Nat) (h : m ≤ 8) : fld x a m % 256 = fld x a m := by
  have h2 := two_pow_le h
  rw [p8] at h2
  exact Int.emod_eq_of_lt (fld_nonneg x a m) (Int.lt_of_lt_of_le (fld_lt x a m) h2)
theorem bit_ne (x : Int) (k : Nat) : (fld x k 1 == 1) = (fld x k 1 != 0) := by rcases fld_bit x k with e | e <;> rw [e] <;> rfl

-- FIELD BY FIELD
theorem pw_small (v : Int) (m : Nat) (h0 : 0 ≤ v) (h1 : v < 2 ^ m) : pw v 0 m = v := by
  unfold pw
  rw [Int.emod_eq_of_lt h0 h1]
  simp

end Go.Proofs.YtapcgikamldchaaDoor
