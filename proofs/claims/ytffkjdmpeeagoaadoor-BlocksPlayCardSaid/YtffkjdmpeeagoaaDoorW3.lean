/-
  The calls of the document's own answers for layer 1: each gives back the chapter's number, and changes nothing that was there; condition: the arguments are numbers of their kinds.
  The calls of the document's own answers for layer 1, from Ref to AsBlock: each gives back the chapter's number, and changes nothing that was there; condition: the arguments are numbers of their kinds.
-/
import Derived.Test.YtffkjdmpeeagoaaDoorW1
namespace Go.Proofs.YtffkjdmpeeagoaaDoor
open Go.RowKit

theorem nat_mod_succ (y k : Nat) : y % 2 ^ (k + 1) = 2 * (y / 2 % 2 ^ k) + y % 2 := by
  rw [Nat.pow_succ, Nat.mul_comm (2 ^ k) 2, Nat.mod_mul]; omega
theorem nat_mod_top (y k : Nat) : y % 2 ^ (k + 1) = y % 2 ^ k + y / 2 ^ k % 2 * 2 ^ k := by
  rw [Nat.pow_succ, Nat.mod_mul, Nat.mul_comm (2 ^ k)]
theorem fldN (x a m : Nat) : fld (x : Int) a m = ((x / 2 ^ a % 2 ^ m : Nat) : Int) := by
  unfold fld
  rw [pow_cast, pow_cast]
  norm_cast
theorem fld_down (x : Int) (hx : 0 ≤ x) (c k : Nat) : fld x c (k + 1) = 2 * fld x (c + 1) k + fld x c 1 := by
  obtain ⟨X, rfl⟩ := nat_of hx
  rw [fldN, fldN, fldN, nat_mod_succ, Nat.div_div_eq_div_mul, ← Nat.pow_succ, Nat.pow_one]
  norm_cast
theorem pw_step (x : Int) (hx : 0 ≤ x) (a k : Nat) : pw x a (k + 1) = pw x a k + fld x k 1 * 2 ^ (a + k) := by
  obtain ⟨X, rfl⟩ := nat_of hx
  rw [pwN, pwN, fldN, pow_cast, nat_mod_top, Nat.add_mul, Nat.pow_one, Nat.mul_assoc, ← Nat.pow_add, Nat.add_comm k a]
  norm_cast
theorem half_step (x : Int) (k : Nat) : x / 2 ^ k / 2 = x / 2 ^ (k + 1) := by
  rw [Int.pow_succ, Int.ediv_ediv_of_nonneg (Int.le_of_lt (two_pow_pos k))]

theorem quo_step (x : Int) (k : Nat) (hx : U64 x) : IntKind.u64.wrap ((x / 2 ^ k).tdiv 2) = x / 2 ^ (k + 1) := by
  rw [Int.tdiv_eq_ediv_of_nonneg (div_u64 x k hx).1, half_step]
  exact wrap_of_u64 _ (div_u64 x (k + 1) hx)

theorem rem_two (x : Int) (k : Nat) (hx : U64 x) : (x / 2 ^ k).tmod 2 = fld x k 1 := by
  rw [Int.tmod_eq_emod_of_nonneg (div_u64 x k hx).1]
  rfl

set_option maxHeartbeats 400000 in
theorem bit_any (x : Int) (i : Nat) (w : World) (hx : U64 x) (hi : i ≤ 64) : Calls Tryd.prog 107 #[.int .u64 x, .int .i64 (i : Int)] w fun e w' => e = .returned (.int .u64 (fld x i 1)) ∧ w' = w := by
  go_enter Tryd.func107, Tryd.ntmps107
  go_wp2
  go_loop [0, 5] (fun y j => ∃ k : Nat, k ≤ i ∧ j = .int .i64 (k : Int) ∧ y = .int .u64 (x / 2 ^ k)) (fun _ j => i - (intOf j).toNat)
  case atStart => exact ⟨0, Nat.zero_le _, rfl, by simp⟩
  case round =>
    obtain ⟨k, hk, rfl, rfl⟩ := hrel
    have hs := Lib.hid (quo_step x k hx)
    by_cases hlt : k < i
    · go_wp2
      go_round
      case rel => exact ⟨k + 1, by omega, by go_num, by rw [← hs.out]⟩
      case measure => simp [intOf]; omega
    · obtain rfl : k = i := by omega
      go_wp2
      go_ret
      exact ⟨ret_int (rem_two x k hx), rfl⟩

theorem fld_step (x : Int) (hx : U64 x) (c k : Nat) (hk : k + 1 ≤ 64) : IntKind.u64.wrap (IntKind.u64.wrap (2 * fld x (c + 1) k) + fld x c 1) = fld x c (k + 1) := by
  have h1 := fld_u64 x c (k + 1) hk
  have h2 := fld_down x hx.1 c k
  have h3 := fld_nonneg x (c + 1) k
  have h4 := fld_nonneg x c 1
  have h5 : U64 (2 * fld x (c + 1) k) := ⟨by omega, by have := h1.2; omega⟩
  rw [wrap_of_u64 _ h5, ← h2]
  exact wrap_of_u64 _ h1

theorem pw_mono (x : Int) (hx : 0 ≤ x) (a k m : Nat) (h : k ≤ m) : pw x a k ≤ pw x a m := by
  obtain ⟨X, rfl⟩ := nat_of hx
  rw [pwN, pwN]
  have e : X % 2 ^ k ≤ X % 2 ^ m := by
    rw [← Nat.mod_mod_of_dvd X (Nat.pow_dvd_pow 2 h)]
    exact Nat.mod_le _ _
  have := Nat.mul_le_mul_right (2 ^ a) e
  omega
theorem one_step (i : Nat) : IntKind.u64.wrap (IntKind.u64.wrap (2 ^ i) * 2) = IntKind.u64.wrap (2 ^ (i + 1)) := by
  rw [IntKind.wrap_u64, IntKind.wrap_u64, IntKind.wrap_u64, Int.pow_succ]
  omega
theorem one_in (i : Nat) (h : i ≤ 63) : IntKind.u64.wrap (2 ^ i) = 2 ^ i := by
  refine wrap_of_u64 _ ⟨Int.le_of_lt (two_pow_pos i), ?_⟩
  have := two_pow_le h
  rw [p63] at this
  omega
theorem fld_bit (x : Int) (k : Nat) : fld x k 1 = 0 ∨ fld x k 1 = 1 := by
  have h1 := fld_nonneg x k 1
  have h2 := fld_lt x k 1
  omega

theorem put_none (x : Int) (hx : U64 x) (a k : Nat) (h : (fld x k 1 == 1) = false) : pw x a k = pw x a (k + 1) := by
  have h2 := pw_step x hx.1 a k
  have h3 : fld x k 1 = 0 := by rcases fld_bit x k with e | e; exact e; rw [e] at h; simp at h
  rw [h2, h3]
  omega
theorem put_one (v x : Int) (hv : 0 ≤ v) (hx : U64 x) (a k m : Nat) (hk : k + 1 ≤ m) (ha : a + k ≤ 63) (h : (fld x k 1 == 1) = true) (hm : v + pw x a m < 18446744073709551616) :
    IntKind.u64.wrap (v + pw x a k + IntKind.u64.wrap (2 ^ (a + k))) = v + pw x a (k + 1) := by
  have h2 := pw_step x hx.1 a k
  have h3 : fld x k 1 = 1 := by simpa using h
  have h4 := pw_mono x hx.1 a (k + 1) m hk
  have h5 := pw_nonneg x a (k + 1)
  rw [h3, Int.one_mul] at h2
  rw [one_in (a + k) ha]
  rw [show v + pw x a k + 2 ^ (a + k) = v + pw x a (k + 1) by omega]
  exact wrap_of_u64 _ ⟨by omega, by omega⟩

set_option maxHeartbeats 400000 in
theorem putS_any (v x : Int) (a b : Nat) (w : World) (hv : 0 ≤ v) (hx : U64 x) (hab : a ≤ b) (hb : b ≤ 63) (hm : v + pw x a (b + 1 - a) < 18446744073709551616) :
    Calls Tryd.prog 90 #[.int .u64 v, .int .u64 x, .int .i64 (a : Int), .int .i64 (b : Int)] w fun e w' => e = .returned (.int .u64 (v + pw x a (b + 1 - a))) ∧ w' = w := by
  have HX := Lib.hid hx
  have HM := Lib.hid hm
  clear hx hm
  go_enter Tryd.func90, Tryd.ntmps90
  go_wp2
  go_loop [9, 10] (fun o j => ∃ k : Nat, k ≤ a ∧ j = .int .i64 (k : Int) ∧ o = .int .u64 (IntKind.u64.wrap (2 ^ k))) (fun _ j => a - (intOf j).toNat)
  case atStart => exact ⟨0, Nat.zero_le _, rfl, by rw [one_in 0 (by omega)]; rfl⟩
  case round =>
    obtain ⟨k, hk, rfl, rfl⟩ := hrel
    have hs := Lib.hid (one_step k)
    by_cases hlt : k < a
    · go_wp2
      go_round
      case rel => exact ⟨k + 1, by omega, by go_num, by rw [hs.out]⟩
      case measure => simp [intOf]; omega
    · obtain rfl : k = a := by omega
      go_wp2
      go_loop [0, 9, 11] (fun y o j => ∃ q : Nat, q ≤ b + 1 - k ∧ j = .int .i64 (q : Int) ∧ o = .int .u64 (IntKind.u64.wrap (2 ^ (k + q))) ∧ y = .int .u64 (v + pw x k q)) (fun _ _ j => b + 1 - (intOf j).toNat)
      case atStart => exact ⟨0, Nat.zero_le _, rfl, rfl, by simp [pw, Int.emod_one]⟩
      case round =>
        obtain ⟨q, hq, rfl, rfl, rfl⟩ := hrel
        have ht := Lib.hid (one_step (k + q))
        by_cases hlt2 : q < b + 1 - k
        · have hq64 : q ≤ 64 := by omega
          have h1 : (k : Int) + (q : Int) ≤ (b : Int) := by omega
          by_cases hbit : (fld x q 1 == 1) = true
          · have HZ := Lib.hid (put_one v x hv HX.out k q (b + 1 - k) (by omega) (by omega) hbit HM.out)
            go_wp2_with (go_at_call 107; refine (bit_any x q _ HX.out hq64).mono ?_; rintro e w' ⟨rfl, rfl⟩)
            go_round
            case rel => exact ⟨q + 1, by omega, by go_num, by rw [ht.out]; rfl, by rw [HZ.out]⟩
            case measure => simp [intOf]; omega
          · have hbit' : (fld x q 1 == 1) = false := by simpa using hbit
            have HZ := Lib.hid (put_none x HX.out k q hbit')
            clear hbit
            go_wp2_with (go_at_call 107; refine (bit_any x q _ HX.out hq64).mono ?_; rintro e w' ⟨rfl, rfl⟩)
            go_round
            case rel => exact ⟨q + 1, by omega, by go_num, by rw [ht.out]; rfl, by rw [HZ.out]⟩
            case measure => simp [intOf]; omega
        · have e1 := Lib.hid (show q = b + 1 - k by omega)
          have h1 : (b : Int) < (k : Int) + (q : Int) := by omega
          go_wp2
          go_ret
          exact ⟨ret_int (by rw [e1.out]), rfl⟩
end Go.Proofs.YtffkjdmpeeagoaaDoor
namespace Go.Proofs.YtffkjdmpeeagoaaDoor
open Go.RowKit

/-- Above what is there a field fits. -/
theorem put_fits (v x : Int) (a m : Nat) (hv : v < 2 ^ a) (ha : a + m ≤ 64) : v + pw x a m < 18446744073709551616 := by
  have h1 := Int.emod_lt_of_pos x (two_pow_pos m)
  have h2 := two_pow_le ha
  rw [p64, Int.pow_add] at h2
  have h3 : x % 2 ^ m * 2 ^ a ≤ (2 ^ m - 1) * 2 ^ a := Int.mul_le_mul_of_nonneg_right (by omega) (Int.le_of_lt (two_pow_pos a))
  rw [Int.sub_mul, Int.one_mul, Int.mul_comm (2 ^ m)] at h3
  unfold pw
  omega
theorem mod_u32 (x : Int) (a m : Nat) (h : m ≤ 32) : fld x a m % 4294967296 = fld x a m := by
  have h2 := two_pow_le h
  rw [p32] at h2
  exact Int.emod_eq_of_lt (fld_nonneg x a m) (Int.lt_of_lt_of_le (fld_lt x a m) h2)
theorem mod_u8 (x : Int) (a m : Nat) (h : m ≤ 8) : fld x a m % 256 = fld x a m := by
  have h2 := two_pow_le h
  rw [p8] at h2
  exact Int.emod_eq_of_lt (fld_nonneg x a m) (Int.lt_of_lt_of_le (fld_lt x a m) h2)
theorem bit_ne (x : Int) (k : Nat) : (fld x k 1 == 1) = (fld x k 1 != 0) := by rcases fld_bit x k with e | e <;> rw [e] <;> rfl

-- FIELD BY FIELD
theorem put_0_15 (v x : Int) (w : World) (hv : 0 ≤ v) (hx : U64 x) (hlt : v < 2 ^ 0) : Calls Tryd.prog 90 #[.int .u64 v, .int .u64 x, .int .i64 0, .int .i64 15] w fun e w' => e = .returned (.int .u64 (v + pw x 0 16)) ∧ w' = w :=
  putS_any v x 0 15 w hv hx (by decide) (by decide) (put_fits v x 0 16 hlt (by decide))
theorem put_16_47 (v x : Int) (w : World) (hv : 0 ≤ v) (hx : U64 x) (hlt : v < 2 ^ 16) : Calls Tryd.prog 90 #[.int .u64 v, .int .u64 x, .int .i64 16, .int .i64 47] w fun e w' => e = .returned (.int .u64 (v + pw x 16 32)) ∧ w' = w :=
  putS_any v x 16 47 w hv hx (by decide) (by decide) (put_fits v x 16 32 hlt (by decide))
theorem put_63_63 (v x : Int) (w : World) (hv : 0 ≤ v) (hx : U64 x) (hlt : v < 2 ^ 63) : Calls Tryd.prog 90 #[.int .u64 v, .int .u64 x, .int .i64 63, .int .i64 63] w fun e w' => e = .returned (.int .u64 (v + pw x 63 1)) ∧ w' = w :=
  putS_any v x 63 63 w hv hx (by decide) (by decide) (put_fits v x 63 1 hlt (by decide))
theorem put_16_63 (v x : Int) (w : World) (hv : 0 ≤ v) (hx : U64 x) (hlt : v < 2 ^ 16) : Calls Tryd.prog 90 #[.int .u64 v, .int .u64 x, .int .i64 16, .int .i64 63] w fun e w' => e = .returned (.int .u64 (v + pw x 16 48)) ∧ w' = w :=
  putS_any v x 16 63 w hv hx (by decide) (by decide) (put_fits v x 16 48 hlt (by decide))
theorem put_3_34 (v x : Int) (w : World) (hv : 0 ≤ v) (hx : U64 x) (hlt : v < 2 ^ 3) : Calls Tryd.prog 90 #[.int .u64 v, .int .u64 x, .int .i64 3, .int .i64 34] w fun e w' => e = .returned (.int .u64 (v + pw x 3 32)) ∧ w' = w :=
  putS_any v x 3 34 w hv hx (by decide) (by decide) (put_fits v x 3 32 hlt (by decide))
theorem put_3_5 (v x : Int) (w : World) (hv : 0 ≤ v) (hx : U64 x) (hlt : v < 2 ^ 3) : Calls Tryd.prog 90 #[.int .u64 v, .int .u64 x, .int .i64 3, .int .i64 5] w fun e w' => e = .returned (.int .u64 (v + pw x 3 3)) ∧ w' = w :=
  putS_any v x 3 5 w hv hx (by decide) (by decide) (put_fits v x 3 3 hlt (by decide))
theorem put_6_8 (v x : Int) (w : World) (hv : 0 ≤ v) (hx : U64 x) (hlt : v < 2 ^ 6) : Calls Tryd.prog 90 #[.int .u64 v, .int .u64 x, .int .i64 6, .int .i64 8] w fun e w' => e = .returned (.int .u64 (v + pw x 6 3)) ∧ w' = w :=
  putS_any v x 6 8 w hv hx (by decide) (by decide) (put_fits v x 6 3 hlt (by decide))
theorem put_32_32 (v x : Int) (w : World) (hv : 0 ≤ v) (hx : U64 x) (hlt : v < 2 ^ 32) : Calls Tryd.prog 90 #[.int .u64 v, .int .u64 x, .int .i64 32, .int .i64 32] w fun e w' => e = .returned (.int .u64 (v + pw x 32 1)) ∧ w' = w :=
  putS_any v x 32 32 w hv hx (by decide) (by decide) (put_fits v x 32 1 hlt (by decide))

theorem pw_small (v : Int) (m : Nat) (h0 : 0 ≤ v) (h1 : v < 2 ^ m) : pw v 0 m = v := by
  unfold pw
  rw [Int.emod_eq_of_lt h0 h1]
  simp

set_option maxHeartbeats 1000000 in
theorem block30_any (j : Int) (c : Bool) (w : World) (hj : U32 j) : Calls Tryd.prog 67 #[.int .u32 j, .bool c] w fun e w' => e = .returned (.int .u64 (blockW j c)) ∧ w' = w := by
  have hj0 := hj.1
  have hj1 := hj.2
  have h3 : IntKind.u64.wrap j = j := wrap_of_u64 j (u64_small hj0 hj1)
  have E := Lib.hid (show blockW j c = j + pw (bitB c) 32 1 by unfold blockW; rw [pw_small j 32 hj0 (by rw [p32]; exact hj1)])
  clear hj
  cases c
  · go_enter Tryd.func67, Tryd.ntmps67
    go_wp2
    go_ret
    exact ⟨ret_int (by rw [E.out]; simp [bitB, pw]), rfl⟩
  · go_enter Tryd.func67, Tryd.ntmps67
    go_wp2_with (go_at_call 90; refine (put_32_32 j 1 _ hj0 ⟨by decide, by decide⟩ (by rw [p32]; exact hj1)).mono ?_; rintro e w' ⟨rfl, rfl⟩)
    go_ret
    exact ⟨ret_int E.out.symm, rfl⟩
end Go.Proofs.YtffkjdmpeeagoaaDoor
