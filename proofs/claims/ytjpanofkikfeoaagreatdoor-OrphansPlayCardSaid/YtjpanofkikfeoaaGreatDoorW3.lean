/-
  The calls of the document's own answers for layer 1: each gives back the chapter's number, and changes nothing that was there; condition: the arguments are numbers of their kinds.
  The calls of the document's own answers for layer 1, from Ref to AsBlock: each gives back the chapter's number, and changes nothing that was there; condition: the arguments are numbers of their kinds.
-/
import Derived.Test.YtjpanofkikfeoaaGreatDoorW1
namespace Go.Proofs.YtjpanofkikfeoaaGreatDoor
open Go.RowKit

theorem nat_mod_succ (y k : Nat) : y % 2 ^ (k + 1) = 2 * (y / 2 % 2 ^ k) + y % 2 := by
  rw [Nat.pow_succ, Nat.mul_comm (2 ^ k) 2, Nat.mod_mul]; omega
theorem nat_mod_top (y k : Nat) : y % 2 ^ (k + 1) = y % 2 ^ k + y / 2 ^ k % 2 * 2 ^ k := by
  rw [Nat.pow_succ, Nat.mod_mul, Nat.mul_comm (2 ^ k)]
theorem fldN (x a m : Nat) : fld (x : Int) a m = ((x / 2 ^ a % 2 ^ m : Nat) : Int) := by
  unfold fld
  rw [pow_cast, pow_cast]
  norm_cast
theorem fld_down (x : Int) (hx : 0 ≤ x) (c k : Nat) : fld x c (k + 1) = 2 * fld x (c + 1) k + fld x c 1 := by
  obtain ⟨X, rfl⟩ := nat_of hx
  rw [fldN, fldN, fldN, nat_mod_succ, Nat.div_div_eq_div_mul, ← Nat.pow_succ, Nat.pow_one]
  norm_cast
theorem pw_step (x : Int) (hx : 0 ≤ x) (a k : Nat) : pw x a (k + 1) = pw x a k + fld x k 1 * 2 ^ (a + k) := by
  obtain ⟨X, rfl⟩ := nat_of hx
  rw [pwN, pwN, fldN, pow_cast, nat_mod_top, Nat.add_mul, Nat.pow_one, Nat.mul_assoc, ← Nat.pow_add, Nat.add_comm k a]
  norm_cast
theorem half_step (x : Int) (k : Nat) : x / 2 ^ k / 2 = x / 2 ^ (k + 1) := by
  rw [Int.pow_succ, Int.ediv_ediv_of_nonneg (Int.le_of_lt (two_pow_pos k))]

theorem quo_step (x : Int) (k : Nat) (hx : U64 x) : IntKind.u64.wrap ((x / 2 ^ k).tdiv 2) = x / 2 ^ (k + 1) := by
  rw [Int.tdiv_eq_ediv_of_nonneg (div_u64 x k hx).1, half_step]
  exact wrap_of_u64 _ (div_u64 x (k + 1) hx)

theorem rem_two (x : Int) (k : Nat) (hx : U64 x) : (x / 2 ^ k).tmod 2 = fld x k 1 := by
  rw [Int.tmod_eq_emod_of_nonneg (div_u64 x k hx).1]
  rfl

set_option maxHeartbeats 400000 in
theorem bit_any (x : Int) (i : Nat) (w : World) (hx : U64 x) (hi : i ≤ 64) : Calls Tryz.prog 77 #[.int .u64 x, .int .i64 (i : Int)] w fun e w' => e = .returned (.int .u64 (fld x i 1)) ∧ w' = w := by
  go_enter Tryz.func77, Tryz.ntmps77
  go_wp2
  go_loop [0, 5] (fun y j => ∃ k : Nat, k ≤ i ∧ j = .int .i64 (k : Int) ∧ y = .int .u64 (x / 2 ^ k)) (fun _ j => i - (intOf j).toNat)
  case atStart => exact ⟨0, Nat.zero_le _, rfl, by simp⟩
  case round =>
    obtain ⟨k, hk, rfl, rfl⟩ := hrel
    have hs := Lib.hid (quo_step x k hx)
    by_cases hlt : k < i
    · go_wp2
      go_round
      case rel => exact ⟨k + 1, by omega, by go_num, by rw [← hs.out]⟩
      case measure => simp [intOf]; omega
    · obtain rfl : k = i := by omega
      go_wp2
      go_ret
      exact ⟨ret_int (rem_two x k hx), rfl⟩

theorem fld_step (x : Int) (hx : U64 x) (c k : Nat) (hk : k + 1 ≤ 64) : IntKind.u64.wrap (IntKind.u64.wrap (2 * fld x (c + 1) k) + fld x c 1) = fld x c (k + 1) := by
  have h1 := fld_u64 x c (k + 1) hk
  have h2 := fld_down x hx.1 c k
  have h3 := fld_nonneg x (c + 1) k
  have h4 := fld_nonneg x c 1
  have h5 : U64 (2 * fld x (c + 1) k) := ⟨by omega, by have := h1.2; omega⟩
  rw [wrap_of_u64 _ h5, ← h2]
  exact wrap_of_u64 _ h1

set_option maxHeartbeats 400000 in
theorem field_any (x : Int) (a b : Nat) (w : World) (hx : U64 x) (hab : a ≤ b) (hb : b ≤ 63) :
    Calls Tryz.prog 61 #[.int .u64 x, .int .i64 (a : Int), .int .i64 (b : Int)] w fun e w' => e = .returned (.int .u64 (fld x a (b + 1 - a))) ∧ w' = w := by
  have HX := Lib.hid hx
  clear hx
  go_enter Tryz.func61, Tryz.ntmps61
  go_wp2
  go_loop [7, 8] (fun o j => ∃ k : Nat, k ≤ b + 1 - a ∧ j = .int .i64 ((b : Int) - (k : Int)) ∧ o = .int .u64 (fld x (b + 1 - k) k)) (fun _ j => (intOf j + 1 - a).toNat)
  case atStart => exact ⟨0, Nat.zero_le _, by simp, by simp [fld, Int.emod_one]⟩
  case round =>
    obtain ⟨k, hk, rfl, rfl⟩ := hrel
    by_cases hlt : k < b + 1 - a
    · obtain ⟨c, hc⟩ : ∃ c : Nat, c + k = b := ⟨b - k, by omega⟩
      have e1 : b + 1 - k = c + 1 := by omega
      have e2 : (b : Int) - (k : Int) = (c : Int) := by omega
      rw [e1, e2]
      have hs := Lib.hid (fld_step x HX.out c k (by omega))
      have hca : a ≤ c := by omega
      clear e1
      go_wp2_with (go_at_call 77; refine (bit_any x c _ HX.out (by omega)).mono ?_; rintro e w' ⟨rfl, rfl⟩)
      have e3 : b + 1 - (k + 1) = c := by omega
      exact ⟨⟨k + 1, by omega, congrArg _ (by omega), by rw [e3, hs.out]⟩, by simp [intOf]; omega⟩
    · have e1 : b + 1 - k = a := by omega
      have e2 : (b : Int) - (k : Int) = (a : Int) - 1 := by omega
      have e3 : b + 1 - a = k := by omega
      have E3 := Lib.hid e3
      rw [e1, e2]
      clear e1 e2 e3
      go_wp2
      go_ret
      exact ⟨ret_int (by rw [E3.out]), rfl⟩

theorem pw_mono (x : Int) (hx : 0 ≤ x) (a k m : Nat) (h : k ≤ m) : pw x a k ≤ pw x a m := by
  obtain ⟨X, rfl⟩ := nat_of hx
  rw [pwN, pwN]
  have e : X % 2 ^ k ≤ X % 2 ^ m := by
    rw [← Nat.mod_mod_of_dvd X (Nat.pow_dvd_pow 2 h)]
    exact Nat.mod_le _ _
  have := Nat.mul_le_mul_right (2 ^ a) e
  omega
theorem one_step (i : Nat) : IntKind.u64.wrap (IntKind.u64.wrap (2 ^ i) * 2) = IntKind.u64.wrap (2 ^ (i + 1)) := by
  rw [IntKind.wrap_u64, IntKind.wrap_u64, IntKind.wrap_u64, Int.pow_succ]
  omega
theorem one_in (i : Nat) (h : i ≤ 63) : IntKind.u64.wrap (2 ^ i) = 2 ^ i := by
  refine wrap_of_u64 _ ⟨Int.le_of_lt (two_pow_pos i), ?_⟩
  have := two_pow_le h
  rw [p63] at this
  omega
theorem fld_bit (x : Int) (k : Nat) : fld x k 1 = 0 ∨ fld x k 1 = 1 := by
  have h1 := fld_nonneg x k 1
  have h2 := fld_lt x k 1
  omega

theorem put_none (x : Int) (hx : U64 x) (a k : Nat) (h : (fld x k 1 == 1) = false) : pw x a k = pw x a (k + 1) := by
  have h2 := pw_step x hx.1 a k
  have h3 : fld x k 1 = 0 := by rcases fld_bit x k with e | e; exact e; rw [e] at h; simp at h
  rw [h2, h3]
  omega
theorem put_one (v x : Int) (hv : 0 ≤ v) (hx : U64 x) (a k m : Nat) (hk : k + 1 ≤ m) (ha : a + k ≤ 63) (h : (fld x k 1 == 1) = true) (hm : v + pw x a m < 18446744073709551616) :
    IntKind.u64.wrap (v + pw x a k + IntKind.u64.wrap (2 ^ (a + k))) = v + pw x a (k + 1) := by
  have h2 := pw_step x hx.1 a k
  have h3 : fld x k 1 = 1 := by simpa using h
  have h4 := pw_mono x hx.1 a (k + 1) m hk
  have h5 := pw_nonneg x a (k + 1)
  rw [h3, Int.one_mul] at h2
  rw [one_in (a + k) ha]
  rw [show v + pw x a k + 2 ^ (a + k) = v + pw x a (k + 1) by omega]
  exact wrap_of_u64 _ ⟨by omega, by omega⟩

set_option maxHeartbeats 400000 in
theorem putS_any (v x : Int) (a b : Nat) (w : World) (hv : 0 ≤ v) (hx : U64 x) (hab : a ≤ b) (hb : b ≤ 63) (hm : v + pw x a (b + 1 - a) < 18446744073709551616) :
    Calls Tryz.prog 62 #[.int .u64 v, .int .u64 x, .int .i64 (a : Int), .int .i64 (b : Int)] w fun e w' => e = .returned (.int .u64 (v + pw x a (b + 1 - a))) ∧ w' = w := by
  have HX := Lib.hid hx
  have HM := Lib.hid hm
  clear hx hm
  go_enter Tryz.func62, Tryz.ntmps62
  go_wp2
  go_loop [9, 10] (fun o j => ∃ k : Nat, k ≤ a ∧ j = .int .i64 (k : Int) ∧ o = .int .u64 (IntKind.u64.wrap (2 ^ k))) (fun _ j => a - (intOf j).toNat)
  case atStart => exact ⟨0, Nat.zero_le _, rfl, by rw [one_in 0 (by omega)]; rfl⟩
  case round =>
    obtain ⟨k, hk, rfl, rfl⟩ := hrel
    have hs := Lib.hid (one_step k)
    by_cases hlt : k < a
    · go_wp2
      go_round
      case rel => exact ⟨k + 1, by omega, by go_num, by rw [hs.out]⟩
      case measure => simp [intOf]; omega
    · obtain rfl : k = a := by omega
      go_wp2
      go_loop [0, 9, 11] (fun y o j => ∃ q : Nat, q ≤ b + 1 - k ∧ j = .int .i64 (q : Int) ∧ o = .int .u64 (IntKind.u64.wrap (2 ^ (k + q))) ∧ y = .int .u64 (v + pw x k q)) (fun _ _ j => b + 1 - (intOf j).toNat)
      case atStart => exact ⟨0, Nat.zero_le _, rfl, rfl, by simp [pw, Int.emod_one]⟩
      case round =>
        obtain ⟨q, hq, rfl, rfl, rfl⟩ := hrel
        have ht := Lib.hid (one_step (k + q))
        by_cases hlt2 : q < b + 1 - k
        · have hq64 : q ≤ 64 := by omega
          have h1 : (k : Int) + (q : Int) ≤ (b : Int) := by omega
          by_cases hbit : (fld x q 1 == 1) = true
          · have HZ := Lib.hid (put_one v x hv HX.out k q (b + 1 - k) (by omega) (by omega) hbit HM.out)
            go_wp2_with (go_at_call 77; refine (bit_any x q _ HX.out hq64).mono ?_; rintro e w' ⟨rfl, rfl⟩)
            go_round
            case rel => exact ⟨q + 1, by omega, by go_num, by rw [ht.out]; rfl, by rw [HZ.out]⟩
            case measure => simp [intOf]; omega
          · have hbit' : (fld x q 1 == 1) = false := by simpa using hbit
            have HZ := Lib.hid (put_none x HX.out k q hbit')
            clear hbit
            go_wp2_with (go_at_call 77; refine (bit_any x q _ HX.out hq64).mono ?_; rintro e w' ⟨rfl, rfl⟩)
            go_round
            case rel => exact ⟨q + 1, by omega, by go_num, by rw [ht.out]; rfl, by rw [HZ.out]⟩
            case measure => simp [intOf]; omega
        · have e1 := Lib.hid (show q = b + 1 - k by omega)
          have h1 : (b : Int) < (k : Int) + (q : Int) := by omega
          go_wp2
          go_ret
          exact ⟨ret_int (by rw [e1.out]), rfl⟩
end Go.Proofs.YtjpanofkikfeoaaGreatDoor
namespace Go.Proofs.YtjpanofkikfeoaaGreatDoor
open Go.RowKit

/-- Above what is there a field fits. -/
theorem put_fits (v x : Int) (a m : Nat) (hv : v < 2 ^ a) (ha : a + m ≤ 64) : v + pw x a m < 18446744073709551616 := by
  have h1 := Int.emod_lt_of_pos x (two_pow_pos m)
  have h2 := two_pow_le ha
  rw [p64, Int.pow_add] at h2
  have h3 : x % 2 ^ m * 2 ^ a ≤ (2 ^ m - 1) * 2 ^ a := Int.mul_le_mul_of_nonneg_right (by omega) (Int.le_of_lt (two_pow_pos a))
  rw [Int.sub_mul, Int.one_mul, Int.mul_comm (2 ^ m)] at h3
  unfold pw
  omega
theorem mod_u32 (x : Int) (a m : Nat) (h : m ≤ 32) : fld x a m % 4294967296 = fld x a m := by
  have h2 := two_pow_le h
  rw [p32] at h2
  exact Int.emod_eq_of_lt (fld_nonneg x a m) (Int.lt_of_lt_of_le (fld_lt x a m) h2)
theorem mod_u8 (x : Int) (a m : Nat) (h : m ≤ 8) : fld x a m % 256 = fld x a m := by
  have h2 := two_pow_le h
  rw [p8] at h2
  exact Int.emod_eq_of_lt (fld_nonneg x a m) (Int.lt_of_lt_of_le (fld_lt x a m) h2)
theorem bit_ne (x : Int) (k : Nat) : (fld x k 1 == 1) = (fld x k 1 != 0) := by rcases fld_bit x k with e | e <;> rw [e] <;> rfl

-- FIELD BY FIELD
theorem field_63_63 (x : Int) (w : World) (hx : U64 x) : Calls Tryz.prog 61 #[.int .u64 x, .int .i64 63, .int .i64 63] w fun e w' => e = .returned (.int .u64 (fld x 63 1)) ∧ w' = w :=
  field_any x 63 63 w hx (by decide) (by decide)
theorem field_0_62 (x : Int) (w : World) (hx : U64 x) : Calls Tryz.prog 61 #[.int .u64 x, .int .i64 0, .int .i64 62] w fun e w' => e = .returned (.int .u64 (fld x 0 63)) ∧ w' = w :=
  field_any x 0 62 w hx (by decide) (by decide)
theorem field_16_47 (x : Int) (w : World) (hx : U64 x) : Calls Tryz.prog 61 #[.int .u64 x, .int .i64 16, .int .i64 47] w fun e w' => e = .returned (.int .u64 (fld x 16 32)) ∧ w' = w :=
  field_any x 16 47 w hx (by decide) (by decide)
theorem field_0_15 (x : Int) (w : World) (hx : U64 x) : Calls Tryz.prog 61 #[.int .u64 x, .int .i64 0, .int .i64 15] w fun e w' => e = .returned (.int .u64 (fld x 0 16)) ∧ w' = w :=
  field_any x 0 15 w hx (by decide) (by decide)
theorem field_16_63 (x : Int) (w : World) (hx : U64 x) : Calls Tryz.prog 61 #[.int .u64 x, .int .i64 16, .int .i64 63] w fun e w' => e = .returned (.int .u64 (fld x 16 48)) ∧ w' = w :=
  field_any x 16 63 w hx (by decide) (by decide)
theorem field_3_34 (x : Int) (w : World) (hx : U64 x) : Calls Tryz.prog 61 #[.int .u64 x, .int .i64 3, .int .i64 34] w fun e w' => e = .returned (.int .u64 (fld x 3 32)) ∧ w' = w :=
  field_any x 3 34 w hx (by decide) (by decide)
theorem field_0_2 (x : Int) (w : World) (hx : U64 x) : Calls Tryz.prog 61 #[.int .u64 x, .int .i64 0, .int .i64 2] w fun e w' => e = .returned (.int .u64 (fld x 0 3)) ∧ w' = w :=
  field_any x 0 2 w hx (by decide) (by decide)
theorem field_3_5 (x : Int) (w : World) (hx : U64 x) : Calls Tryz.prog 61 #[.int .u64 x, .int .i64 3, .int .i64 5] w fun e w' => e = .returned (.int .u64 (fld x 3 3)) ∧ w' = w :=
  field_any x 3 5 w hx (by decide) (by decide)
theorem field_6_8 (x : Int) (w : World) (hx : U64 x) : Calls Tryz.prog 61 #[.int .u64 x, .int .i64 6, .int .i64 8] w fun e w' => e = .returned (.int .u64 (fld x 6 3)) ∧ w' = w :=
  field_any x 6 8 w hx (by decide) (by decide)
theorem field_0_31 (x : Int) (w : World) (hx : U64 x) : Calls Tryz.prog 61 #[.int .u64 x, .int .i64 0, .int .i64 31] w fun e w' => e = .returned (.int .u64 (fld x 0 32)) ∧ w' = w :=
  field_any x 0 31 w hx (by decide) (by decide)
theorem field_32_32 (x : Int) (w : World) (hx : U64 x) : Calls Tryz.prog 61 #[.int .u64 x, .int .i64 32, .int .i64 32] w fun e w' => e = .returned (.int .u64 (fld x 32 1)) ∧ w' = w :=
  field_any x 32 32 w hx (by decide) (by decide)
theorem put_0_15 (v x : Int) (w : World) (hv : 0 ≤ v) (hx : U64 x) (hlt : v < 2 ^ 0) : Calls Tryz.prog 62 #[.int .u64 v, .int .u64 x, .int .i64 0, .int .i64 15] w fun e w' => e = .returned (.int .u64 (v + pw x 0 16)) ∧ w' = w :=
  putS_any v x 0 15 w hv hx (by decide) (by decide) (put_fits v x 0 16 hlt (by decide))
theorem put_16_47 (v x : Int) (w : World) (hv : 0 ≤ v) (hx : U64 x) (hlt : v < 2 ^ 16) : Calls Tryz.prog 62 #[.int .u64 v, .int .u64 x, .int .i64 16, .int .i64 47] w fun e w' => e = .returned (.int .u64 (v + pw x 16 32)) ∧ w' = w :=
  putS_any v x 16 47 w hv hx (by decide) (by decide) (put_fits v x 16 32 hlt (by decide))
theorem put_63_63 (v x : Int) (w : World) (hv : 0 ≤ v) (hx : U64 x) (hlt : v < 2 ^ 63) : Calls Tryz.prog 62 #[.int .u64 v, .int .u64 x, .int .i64 63, .int .i64 63] w fun e w' => e = .returned (.int .u64 (v + pw x 63 1)) ∧ w' = w :=
  putS_any v x 63 63 w hv hx (by decide) (by decide) (put_fits v x 63 1 hlt (by decide))
theorem put_16_63 (v x : Int) (w : World) (hv : 0 ≤ v) (hx : U64 x) (hlt : v < 2 ^ 16) : Calls Tryz.prog 62 #[.int .u64 v, .int .u64 x, .int .i64 16, .int .i64 63] w fun e w' => e = .returned (.int .u64 (v + pw x 16 48)) ∧ w' = w :=
  putS_any v x 16 63 w hv hx (by decide) (by decide) (put_fits v x 16 48 hlt (by decide))
theorem put_3_34 (v x : Int) (w : World) (hv : 0 ≤ v) (hx : U64 x) (hlt : v < 2 ^ 3) : Calls Tryz.prog 62 #[.int .u64 v, .int .u64 x, .int .i64 3, .int .i64 34] w fun e w' => e = .returned (.int .u64 (v + pw x 3 32)) ∧ w' = w :=
  putS_any v x 3 34 w hv hx (by decide) (by decide) (put_fits v x 3 32 hlt (by decide))
theorem put_3_5 (v x : Int) (w : World) (hv : 0 ≤ v) (hx : U64 x) (hlt : v < 2 ^ 3) : Calls Tryz.prog 62 #[.int .u64 v, .int .u64 x, .int .i64 3, .int .i64 5] w fun e w' => e = .returned (.int .u64 (v + pw x 3 3)) ∧ w' = w :=
  putS_any v x 3 5 w hv hx (by decide) (by decide) (put_fits v x 3 3 hlt (by decide))
theorem put_6_8 (v x : Int) (w : World) (hv : 0 ≤ v) (hx : U64 x) (hlt : v < 2 ^ 6) : Calls Tryz.prog 62 #[.int .u64 v, .int .u64 x, .int .i64 6, .int .i64 8] w fun e w' => e = .returned (.int .u64 (v + pw x 6 3)) ∧ w' = w :=
  putS_any v x 6 8 w hv hx (by decide) (by decide) (put_fits v x 6 3 hlt (by decide))
theorem put_32_32 (v x : Int) (w : World) (hv : 0 ≤ v) (hx : U64 x) (hlt : v < 2 ^ 32) : Calls Tryz.prog 62 #[.int .u64 v, .int .u64 x, .int .i64 32, .int .i64 32] w fun e w' => e = .returned (.int .u64 (v + pw x 32 1)) ∧ w' = w :=
  putS_any v x 32 32 w hv hx (by decide) (by decide) (put_fits v x 32 1 hlt (by decide))

set_option maxHeartbeats 1000000 in
theorem slot38_any (x : Int) (w : World) (hx : U64 x) : Calls Tryz.prog 60 #[.int .u64 x] w fun e w' => e = .returned (.int .i64 (wSlot x)) ∧ w' = w := by
  have H0 := (fld16 x).1
  have H1 := (fld16 x).2
  have HX := Lib.hid hx
  clear hx
  by_cases h : 256 < fld x 0 16
  · have E := Lib.hid (show wSlot x = -1 from if_pos h)
    go_enter Tryz.func60, Tryz.ntmps60
    go_wp2_with (go_at_call 61; refine (field_0_15 x _ HX.out).mono ?_; rintro e w' ⟨rfl, rfl⟩)
    go_ret
    exact ⟨ret_int E.out.symm, rfl⟩
  · have E := Lib.hid (show wSlot x = fld x 0 16 - 1 from if_neg h)
    go_enter Tryz.func60, Tryz.ntmps60
    go_wp2_with (go_at_call 61; refine (field_0_15 x _ HX.out).mono ?_; rintro e w' ⟨rfl, rfl⟩)
    go_ret
    exact ⟨ret_int E.out.symm, rfl⟩

set_option maxHeartbeats 1000000 in
theorem asHead10_any (x : Int) (w : World) (hx : U64 x) : Calls Tryz.prog 44 #[.int .u64 x] w fun e w' => e = .returned (.tuple #[.int .i64 (wSlot x), .int .u64 (fld x 16 48)]) ∧ w' = w := by
  have HX := Lib.hid hx
  clear hx
  go_enter Tryz.func44, Tryz.ntmps44
  go_wp2_with (first | (go_at_call 60; refine (slot38_any x _ HX.out).mono ?_; rintro e w' ⟨rfl, rfl⟩) | (go_at_call 61; refine (field_16_63 x _ HX.out).mono ?_; rintro e w' ⟨rfl, rfl⟩))
  go_ret2
  exact ⟨rfl, rfl⟩

set_option maxHeartbeats 1000000 in
theorem asHeader24_any (x : Int) (w : World) (hx : U64 x) : Calls Tryz.prog 48 #[.int .u64 x] w fun e w' => e = .returned (.tuple #[.int .u8 (stS (fld x 0 3)), .int .u32 (fld x 3 32)]) ∧ w' = w := by
  have HX := Lib.hid hx
  have m1 := mod_u8 x 0 3 (by decide)
  have m2 := mod_u32 x 3 32 (by decide)
  clear hx
  by_cases h : 4 < fld x 0 3
  · have E := Lib.hid (show stS (fld x 0 3) = 4 from if_pos h)
    go_enter Tryz.func48, Tryz.ntmps48
    go_wp2_with fail
    refine (field_0_2 x _ HX.out).mono ?_
    rintro e w' ⟨rfl, rfl⟩
    go_wp2_with fail
    refine (field_3_34 x _ HX.out).mono ?_
    rintro e w' ⟨rfl, rfl⟩
    go_wp2_with fail
    go_ret2
    rw [E.out]
    exact ⟨rfl, rfl⟩
  · have E := Lib.hid (show stS (fld x 0 3) = fld x 0 3 from if_neg h)
    go_enter Tryz.func48, Tryz.ntmps48
    go_wp2_with fail
    refine (field_0_2 x _ HX.out).mono ?_
    rintro e w' ⟨rfl, rfl⟩
    go_wp2_with fail
    refine (field_3_34 x _ HX.out).mono ?_
    rintro e w' ⟨rfl, rfl⟩
    go_wp2_with fail
    go_ret2
    rw [E.out]
    exact ⟨rfl, rfl⟩

theorem pw_small (v : Int) (m : Nat) (h0 : 0 ≤ v) (h1 : v < 2 ^ m) : pw v 0 m = v := by
  unfold pw
  rw [Int.emod_eq_of_lt h0 h1]
  simp

set_option maxHeartbeats 1000000 in
theorem head16_any (s t : Int) (w : World) (ht : U64 t) : Calls Tryz.prog 47 #[.int .i64 s, .int .u64 t] w fun e w' => e = .returned (.int .u64 (headW s t)) ∧ w' = w := by
  have HT := Lib.hid ht
  clear ht
  by_cases h0 : 0 ≤ s
  · by_cases h1 : s < 256
    · have h1' : s ≤ 255 := by omega
      have h2 : IntKind.u64.wrap s = s := wrap_of_u64 s (u64_small (by omega) (by omega))
      have h3 : IntKind.u64.wrap (s + 1) = s + 1 := wrap_of_u64 _ (u64_small (by omega) (by omega))
      have h4 : (0 : Int) ≤ s + 1 := by omega
      have E := Lib.hid (show headW s t = s + 1 + pw t 16 48 by unfold headW; rw [numS_yes h0 h1, pw_small _ _ (by omega) (by omega)])
      go_enter Tryz.func47, Tryz.ntmps47
      go_wp2_with (go_at_call 62; refine (put_16_63 (s + 1) t _ h4 HT.out (by omega)).mono ?_; rintro e w' ⟨rfl, rfl⟩)
      go_ret
      exact ⟨ret_int E.out.symm, rfl⟩
    · have h1' : ¬ s ≤ 255 := by omega
      have E := Lib.hid (show headW s t = 0 + pw t 16 48 by unfold headW; rw [numS_no (by omega)]; rfl)
      go_enter Tryz.func47, Tryz.ntmps47
      go_wp2_with (go_at_call 62; refine (put_16_63 0 t _ (by decide) HT.out (by decide)).mono ?_; rintro e w' ⟨rfl, rfl⟩)
      go_ret
      exact ⟨ret_int (by rw [E.out]; omega), rfl⟩
  · have E := Lib.hid (show headW s t = 0 + pw t 16 48 by unfold headW; rw [numS_no (by omega)]; rfl)
    go_enter Tryz.func47, Tryz.ntmps47
    go_wp2_with (go_at_call 62; refine (put_16_63 0 t _ (by decide) HT.out (by decide)).mono ?_; rintro e w' ⟨rfl, rfl⟩)
    go_ret
    exact ⟨ret_int (by rw [E.out]; omega), rfl⟩

end Go.Proofs.YtjpanofkikfeoaaGreatDoor
