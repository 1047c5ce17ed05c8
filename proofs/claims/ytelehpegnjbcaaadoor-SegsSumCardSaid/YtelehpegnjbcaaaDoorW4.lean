/-
  The calls of the document's own answers for layer 1, from Ref to AsBlock: each gives back the chapter's number, and changes nothing that was there; condition: the arguments are numbers of their kinds.
-/
import Derived.Test.YtelehpegnjbcaaaDoorW3
namespace Go.Proofs.YtelehpegnjbcaaaDoor
open Go.RowKit

/-- Above what is there a field fits. -/
theorem put_fits (v x : Int) (a m : Nat) (hv : v < 2 ^ a) (ha : a + m ≤ 64) : v + pw x a m < 18446744073709551616 := by
  have h1 := Int.emod_lt_of_pos x (two_pow_pos m)
  have h2 := two_pow_le ha
  rw [p64, Int.pow_add] at h2
  have h3 : x % 2 ^ m * 2 ^ a ≤ (2 ^ m - 1) * 2 ^ a := Int.mul_le_mul_of_nonneg_right (by omega) (Int.le_of_lt (two_pow_pos a))
  rw [Int.sub_mul, Int.one_mul, Int.mul_comm (2 ^ m)] at h3
  unfold pw
  omega
theorem mod_u32 (x : Int) (a m : Nat) (h : m ≤ 32) : fld x a m % 4294967296 = fld x a m := by
  have h2 := two_pow_le h
  rw [p32] at h2
  exact Int.emod_eq_of_lt (fld_nonneg x a m) (Int.lt_of_lt_of_le (fld_lt x a m) h2)
theorem mod_u8 (x : Int) (a m : Nat) (h : m ≤ 8) : fld x a m % 256 = fld x a m := by
  have h2 := two_pow_le h
  rw [p8] at h2
  exact Int.emod_eq_of_lt (fld_nonneg x a m) (Int.lt_of_lt_of_le (fld_lt x a m) h2)
theorem bit_ne (x : Int) (k : Nat) : (fld x k 1 == 1) = (fld x k 1 != 0) := by rcases fld_bit x k with e | e <;> rw [e] <;> rfl

-- FIELD BY FIELD
theorem field_63_63 (x : Int) (w : World) (hx : U64 x) : Calls Tryd.prog 31 #[.int .u64 x, .int .i64 63, .int .i64 63] w fun e w' => e = .returned (.int .u64 (fld x 63 1)) ∧ w' = w :=
  field_any x 63 63 w hx (by decide) (by decide)
theorem field_0_62 (x : Int) (w : World) (hx : U64 x) : Calls Tryd.prog 31 #[.int .u64 x, .int .i64 0, .int .i64 62] w fun e w' => e = .returned (.int .u64 (fld x 0 63)) ∧ w' = w :=
  field_any x 0 62 w hx (by decide) (by decide)
theorem field_16_47 (x : Int) (w : World) (hx : U64 x) : Calls Tryd.prog 31 #[.int .u64 x, .int .i64 16, .int .i64 47] w fun e w' => e = .returned (.int .u64 (fld x 16 32)) ∧ w' = w :=
  field_any x 16 47 w hx (by decide) (by decide)
theorem field_0_15 (x : Int) (w : World) (hx : U64 x) : Calls Tryd.prog 31 #[.int .u64 x, .int .i64 0, .int .i64 15] w fun e w' => e = .returned (.int .u64 (fld x 0 16)) ∧ w' = w :=
  field_any x 0 15 w hx (by decide) (by decide)
theorem field_16_63 (x : Int) (w : World) (hx : U64 x) : Calls Tryd.prog 31 #[.int .u64 x, .int .i64 16, .int .i64 63] w fun e w' => e = .returned (.int .u64 (fld x 16 48)) ∧ w' = w :=
  field_any x 16 63 w hx (by decide) (by decide)
theorem field_3_34 (x : Int) (w : World) (hx : U64 x) : Calls Tryd.prog 31 #[.int .u64 x, .int .i64 3, .int .i64 34] w fun e w' => e = .returned (.int .u64 (fld x 3 32)) ∧ w' = w :=
  field_any x 3 34 w hx (by decide) (by decide)
theorem field_0_2 (x : Int) (w : World) (hx : U64 x) : Calls Tryd.prog 31 #[.int .u64 x, .int .i64 0, .int .i64 2] w fun e w' => e = .returned (.int .u64 (fld x 0 3)) ∧ w' = w :=
  field_any x 0 2 w hx (by decide) (by decide)
theorem field_3_5 (x : Int) (w : World) (hx : U64 x) : Calls Tryd.prog 31 #[.int .u64 x, .int .i64 3, .int .i64 5] w fun e w' => e = .returned (.int .u64 (fld x 3 3)) ∧ w' = w :=
  field_any x 3 5 w hx (by decide) (by decide)
theorem field_6_8 (x : Int) (w : World) (hx : U64 x) : Calls Tryd.prog 31 #[.int .u64 x, .int .i64 6, .int .i64 8] w fun e w' => e = .returned (.int .u64 (fld x 6 3)) ∧ w' = w :=
  field_any x 6 8 w hx (by decide) (by decide)
theorem field_0_31 (x : Int) (w : World) (hx : U64 x) : Calls Tryd.prog 31 #[.int .u64 x, .int .i64 0, .int .i64 31] w fun e w' => e = .returned (.int .u64 (fld x 0 32)) ∧ w' = w :=
  field_any x 0 31 w hx (by decide) (by decide)
theorem field_32_32 (x : Int) (w : World) (hx : U64 x) : Calls Tryd.prog 31 #[.int .u64 x, .int .i64 32, .int .i64 32] w fun e w' => e = .returned (.int .u64 (fld x 32 1)) ∧ w' = w :=
  field_any x 32 32 w hx (by decide) (by decide)
set_option maxHeartbeats 1000000 in
theorem asHeader24_any (x : Int) (w : World) (hx : U64 x) : Calls Tryd.prog 25 #[.int .u64 x] w fun e w' => e = .returned (.tuple #[.int .u8 (stS (fld x 0 3)), .int .u32 (fld x 3 32)]) ∧ w' = w := by
  have HX := Lib.hid hx
  have m1 := mod_u8 x 0 3 (by decide)
  have m2 := mod_u32 x 3 32 (by decide)
  clear hx
  by_cases h : 4 < fld x 0 3
  · have E := Lib.hid (show stS (fld x 0 3) = 4 from if_pos h)
    go_enter Tryd.func25, Tryd.ntmps25
    go_wp2_with fail
    refine (field_0_2 x _ HX.out).mono ?_
    rintro e w' ⟨rfl, rfl⟩
    go_wp2_with fail
    refine (field_3_34 x _ HX.out).mono ?_
    rintro e w' ⟨rfl, rfl⟩
    go_wp2_with fail
    go_ret2
    rw [E.out]
    exact ⟨rfl, rfl⟩
  · have E := Lib.hid (show stS (fld x 0 3) = fld x 0 3 from if_neg h)
    go_enter Tryd.func25, Tryd.ntmps25
    go_wp2_with fail
    refine (field_0_2 x _ HX.out).mono ?_
    rintro e w' ⟨rfl, rfl⟩
    go_wp2_with fail
    refine (field_3_34 x _ HX.out).mono ?_
    rintro e w' ⟨rfl, rfl⟩
    go_wp2_with fail
    go_ret2
    rw [E.out]
    exact ⟨rfl, rfl⟩

theorem pw_small (v : Int) (m : Nat) (h0 : 0 ≤ v) (h1 : v < 2 ^ m) : pw v 0 m = v := by
  unfold pw
  rw [Int.emod_eq_of_lt h0 h1]
  simp

end Go.Proofs.YtelehpegnjbcaaaDoor
