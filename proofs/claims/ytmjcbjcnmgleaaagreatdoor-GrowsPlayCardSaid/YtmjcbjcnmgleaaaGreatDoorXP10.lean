/-
  The calls of the document's own answers for layer 1; The calls of the document's own answers for layer 1, from Re; The document's operation on the list of free slots; conditions as each theorem says.
-/
import Derived.Test.YtmjcbjcnmgleaaaGreatDoorXP01
import Derived.Test.YtmjcbjcnmgleaaaGreatDoorXP07
import Derived.Test.YtmjcbjcnmgleaaaGreatDoorXP09
import Derived.StillTailTactics
import Derived.Outline
namespace Go.Proofs.YtmjcbjcnmgleaaaGreatDoor
open Go.RowKit
theorem nat_mod_succ (y k : Nat) : y % 2 ^ (k + 1) = 2 * (y / 2 % 2 ^ k) + y % 2 := by
  rw [Nat.pow_succ, Nat.mul_comm (2 ^ k) 2, Nat.mod_mul]; omega
theorem nat_mod_top (y k : Nat) : y % 2 ^ (k + 1) = y % 2 ^ k + y / 2 ^ k % 2 * 2 ^ k := by
  rw [Nat.pow_succ, Nat.mod_mul, Nat.mul_comm (2 ^ k)]
theorem fldN (x a m : Nat) : fld (x : Int) a m = ((x / 2 ^ a % 2 ^ m : Nat) : Int) := by
  unfold fld
  rw [pow_cast, pow_cast]
  norm_cast
theorem fld_down (x : Int) (hx : 0 ≤ x) (c k : Nat) : fld x c (k + 1) = 2 * fld x (c + 1) k + fld x c 1 := by
  obtain ⟨X, rfl⟩ := nat_of hx
  rw [fldN, fldN, fldN, nat_mod_succ, Nat.div_div_eq_div_mul, ← Nat.pow_succ, Nat.pow_one]
  norm_cast
theorem pw_step (x : Int) (hx : 0 ≤ x) (a k : Nat) : pw x a (k + 1) = pw x a k + fld x k 1 * 2 ^ (a + k) := by
  obtain ⟨X, rfl⟩ := nat_of hx
  rw [pwN, pwN, fldN, pow_cast, nat_mod_top, Nat.add_mul, Nat.pow_one, Nat.mul_assoc, ← Nat.pow_add, Nat.add_comm k a]
  norm_cast
theorem half_step (x : Int) (k : Nat) : x / 2 ^ k / 2 = x / 2 ^ (k + 1) := by
  rw [Int.pow_succ, Int.ediv_ediv_of_nonneg (Int.le_of_lt (two_pow_pos k))]
theorem quo_step (x : Int) (k : Nat) (hx : U64 x) : IntKind.u64.wrap ((x / 2 ^ k).tdiv 2) = x / 2 ^ (k + 1) := by
  rw [Int.tdiv_eq_ediv_of_nonneg (div_u64 x k hx).1, half_step]
  exact wrap_of_u64 _ (div_u64 x (k + 1) hx)
theorem rem_two (x : Int) (k : Nat) (hx : U64 x) : (x / 2 ^ k).tmod 2 = fld x k 1 := by
  rw [Int.tmod_eq_emod_of_nonneg (div_u64 x k hx).1]
  rfl
set_option maxHeartbeats 400000 in
theorem bit_any (x : Int) (i : Nat) (w : World) (hx : U64 x) (hi : i ≤ 64) : Calls Tryz.prog 146 #[.int .u64 x, .int .i64 (i : Int)] w fun e w' => e = .returned (.int .u64 (fld x i 1)) ∧ w' = w := by
  go_enter Tryz.func146, Tryz.ntmps146
  go_wp2
  go_loop [0, 5] (fun y j => ∃ k : Nat, k ≤ i ∧ j = .int .i64 (k : Int) ∧ y = .int .u64 (x / 2 ^ k)) (fun _ j => i - (intOf j).toNat)
  case atStart => exact ⟨0, Nat.zero_le _, rfl, by simp⟩
  case round =>
    obtain ⟨k, hk, rfl, rfl⟩ := hrel
    have hs := Lib.hid (quo_step x k hx)
    by_cases hlt : k < i
    · go_wp2
      go_round
      case rel => exact ⟨k + 1, by omega, by go_num, by rw [← hs.out]⟩
      case measure => simp [intOf]; omega
    · obtain rfl : k = i := by omega
      go_wp2
      go_ret
      exact ⟨ret_int (rem_two x k hx), rfl⟩
theorem fld_step (x : Int) (hx : U64 x) (c k : Nat) (hk : k + 1 ≤ 64) : IntKind.u64.wrap (IntKind.u64.wrap (2 * fld x (c + 1) k) + fld x c 1) = fld x c (k + 1) := by
  have h1 := fld_u64 x c (k + 1) hk
  have h2 := fld_down x hx.1 c k
  have h3 := fld_nonneg x (c + 1) k
  have h4 := fld_nonneg x c 1
  have h5 : U64 (2 * fld x (c + 1) k) := ⟨by omega, by have := h1.2; omega⟩
  rw [wrap_of_u64 _ h5, ← h2]
  exact wrap_of_u64 _ h1
set_option maxHeartbeats 400000 in
theorem field_any (x : Int) (a b : Nat) (w : World) (hx : U64 x) (hab : a ≤ b) (hb : b ≤ 63) :
    Calls Tryz.prog 128 #[.int .u64 x, .int .i64 (a : Int), .int .i64 (b : Int)] w fun e w' => e = .returned (.int .u64 (fld x a (b + 1 - a))) ∧ w' = w := by
  have HX := Lib.hid hx
  clear hx
  go_enter Tryz.func128, Tryz.ntmps128
  go_wp2
  go_loop [7, 8] (fun o j => ∃ k : Nat, k ≤ b + 1 - a ∧ j = .int .i64 ((b : Int) - (k : Int)) ∧ o = .int .u64 (fld x (b + 1 - k) k)) (fun _ j => (intOf j + 1 - a).toNat)
  case atStart => exact ⟨0, Nat.zero_le _, by simp, by simp [fld, Int.emod_one]⟩
  case round =>
    obtain ⟨k, hk, rfl, rfl⟩ := hrel
    by_cases hlt : k < b + 1 - a
    · obtain ⟨c, hc⟩ : ∃ c : Nat, c + k = b := ⟨b - k, by omega⟩
      have e1 : b + 1 - k = c + 1 := by omega
      have e2 : (b : Int) - (k : Int) = (c : Int) := by omega
      rw [e1, e2]
      have hs := Lib.hid (fld_step x HX.out c k (by omega))
      have hca : a ≤ c := by omega
      clear e1
      go_wp2_with (go_at_call 146; refine (bit_any x c _ HX.out (by omega)).mono ?_; rintro e w' ⟨rfl, rfl⟩)
      have e3 : b + 1 - (k + 1) = c := by omega
      exact ⟨⟨k + 1, by omega, congrArg _ (by omega), by rw [e3, hs.out]⟩, by simp [intOf]; omega⟩
    · have e1 : b + 1 - k = a := by omega
      have e2 : (b : Int) - (k : Int) = (a : Int) - 1 := by omega
      have e3 : b + 1 - a = k := by omega
      have E3 := Lib.hid e3
      rw [e1, e2]
      clear e1 e2 e3
      go_wp2
      go_ret
      exact ⟨ret_int (by rw [E3.out]), rfl⟩
theorem pw_mono (x : Int) (hx : 0 ≤ x) (a k m : Nat) (h : k ≤ m) : pw x a k ≤ pw x a m := by
  obtain ⟨X, rfl⟩ := nat_of hx
  rw [pwN, pwN]
  have e : X % 2 ^ k ≤ X % 2 ^ m := by
    rw [← Nat.mod_mod_of_dvd X (Nat.pow_dvd_pow 2 h)]
    exact Nat.mod_le _ _
  have := Nat.mul_le_mul_right (2 ^ a) e
  omega
theorem one_step (i : Nat) : IntKind.u64.wrap (IntKind.u64.wrap (2 ^ i) * 2) = IntKind.u64.wrap (2 ^ (i + 1)) := by
  rw [IntKind.wrap_u64, IntKind.wrap_u64, IntKind.wrap_u64, Int.pow_succ]
  omega
theorem one_in (i : Nat) (h : i ≤ 63) : IntKind.u64.wrap (2 ^ i) = 2 ^ i := by
  refine wrap_of_u64 _ ⟨Int.le_of_lt (two_pow_pos i), ?_⟩
  have := two_pow_le h
  rw [p63] at this
  omega
theorem fld_bit (x : Int) (k : Nat) : fld x k 1 = 0 ∨ fld x k 1 = 1 := by
  have h1 := fld_nonneg x k 1
  have h2 := fld_lt x k 1
  omega
theorem put_none (x : Int) (hx : U64 x) (a k : Nat) (h : (fld x k 1 == 1) = false) : pw x a k = pw x a (k + 1) := by
  have h2 := pw_step x hx.1 a k
  have h3 : fld x k 1 = 0 := by rcases fld_bit x k with e | e; exact e; rw [e] at h; simp at h
  rw [h2, h3]
  omega
theorem put_one (v x : Int) (hv : 0 ≤ v) (hx : U64 x) (a k m : Nat) (hk : k + 1 ≤ m) (ha : a + k ≤ 63) (h : (fld x k 1 == 1) = true) (hm : v + pw x a m < 18446744073709551616) :
    IntKind.u64.wrap (v + pw x a k + IntKind.u64.wrap (2 ^ (a + k))) = v + pw x a (k + 1) := by
  have h2 := pw_step x hx.1 a k
  have h3 : fld x k 1 = 1 := by simpa using h
  have h4 := pw_mono x hx.1 a (k + 1) m hk
  have h5 := pw_nonneg x a (k + 1)
  rw [h3, Int.one_mul] at h2
  rw [one_in (a + k) ha]
  rw [show v + pw x a k + 2 ^ (a + k) = v + pw x a (k + 1) by omega]
  exact wrap_of_u64 _ ⟨by omega, by omega⟩
set_option maxHeartbeats 400000 in
theorem putS_any (v x : Int) (a b : Nat) (w : World) (hv : 0 ≤ v) (hx : U64 x) (hab : a ≤ b) (hb : b ≤ 63) (hm : v + pw x a (b + 1 - a) < 18446744073709551616) :
    Calls Tryz.prog 129 #[.int .u64 v, .int .u64 x, .int .i64 (a : Int), .int .i64 (b : Int)] w fun e w' => e = .returned (.int .u64 (v + pw x a (b + 1 - a))) ∧ w' = w := by
  have HX := Lib.hid hx
  have HM := Lib.hid hm
  clear hx hm
  go_enter Tryz.func129, Tryz.ntmps129
  go_wp2
  go_loop [9, 10] (fun o j => ∃ k : Nat, k ≤ a ∧ j = .int .i64 (k : Int) ∧ o = .int .u64 (IntKind.u64.wrap (2 ^ k))) (fun _ j => a - (intOf j).toNat)
  case atStart => exact ⟨0, Nat.zero_le _, rfl, by rw [one_in 0 (by omega)]; rfl⟩
  case round =>
    obtain ⟨k, hk, rfl, rfl⟩ := hrel
    have hs := Lib.hid (one_step k)
    by_cases hlt : k < a
    · go_wp2
      go_round
      case rel => exact ⟨k + 1, by omega, by go_num, by rw [hs.out]⟩
      case measure => simp [intOf]; omega
    · obtain rfl : k = a := by omega
      go_wp2
      go_loop [0, 9, 11] (fun y o j => ∃ q : Nat, q ≤ b + 1 - k ∧ j = .int .i64 (q : Int) ∧ o = .int .u64 (IntKind.u64.wrap (2 ^ (k + q))) ∧ y = .int .u64 (v + pw x k q)) (fun _ _ j => b + 1 - (intOf j).toNat)
      case atStart => exact ⟨0, Nat.zero_le _, rfl, rfl, by simp [pw, Int.emod_one]⟩
      case round =>
        obtain ⟨q, hq, rfl, rfl, rfl⟩ := hrel
        have ht := Lib.hid (one_step (k + q))
        by_cases hlt2 : q < b + 1 - k
        · have hq64 : q ≤ 64 := by omega
          have h1 : (k : Int) + (q : Int) ≤ (b : Int) := by omega
          by_cases hbit : (fld x q 1 == 1) = true
          · have HZ := Lib.hid (put_one v x hv HX.out k q (b + 1 - k) (by omega) (by omega) hbit HM.out)
            go_wp2_with (go_at_call 146; refine (bit_any x q _ HX.out hq64).mono ?_; rintro e w' ⟨rfl, rfl⟩)
            go_round
            case rel => exact ⟨q + 1, by omega, by go_num, by rw [ht.out]; rfl, by rw [HZ.out]⟩
            case measure => simp [intOf]; omega
          · have hbit' : (fld x q 1 == 1) = false := by simpa using hbit
            have HZ := Lib.hid (put_none x HX.out k q hbit')
            clear hbit
            go_wp2_with (go_at_call 146; refine (bit_any x q _ HX.out hq64).mono ?_; rintro e w' ⟨rfl, rfl⟩)
            go_round
            case rel => exact ⟨q + 1, by omega, by go_num, by rw [ht.out]; rfl, by rw [HZ.out]⟩
            case measure => simp [intOf]; omega
        · have e1 := Lib.hid (show q = b + 1 - k by omega)
          have h1 : (b : Int) < (k : Int) + (q : Int) := by omega
          go_wp2
          go_ret
          exact ⟨ret_int (by rw [e1.out]), rfl⟩
end Go.Proofs.YtmjcbjcnmgleaaaGreatDoor
namespace Go.Proofs.YtmjcbjcnmgleaaaGreatDoor
open Go.RowKit
theorem put_fits (v x : Int) (a m : Nat) (hv : v < 2 ^ a) (ha : a + m ≤ 64) : v + pw x a m < 18446744073709551616 := by
  have h1 := Int.emod_lt_of_pos x (two_pow_pos m)
  have h2 := two_pow_le ha
  rw [p64, Int.pow_add] at h2
  have h3 : x % 2 ^ m * 2 ^ a ≤ (2 ^ m - 1) * 2 ^ a := Int.mul_le_mul_of_nonneg_right (by omega) (Int.le_of_lt (two_pow_pos a))
  rw [Int.sub_mul, Int.one_mul, Int.mul_comm (2 ^ m)] at h3
  unfold pw
  omega
theorem mod_u32 (x : Int) (a m : Nat) (h : m ≤ 32) : fld x a m % 4294967296 = fld x a m := by
  have h2 := two_pow_le h
  rw [p32] at h2
  exact Int.emod_eq_of_lt (fld_nonneg x a m) (Int.lt_of_lt_of_le (fld_lt x a m) h2)
theorem mod_u8 (x : Int) (a m : Nat) (h : m ≤ 8) : fld x a m % 256 = fld x a m := by
  have h2 := two_pow_le h
  rw [p8] at h2
  exact Int.emod_eq_of_lt (fld_nonneg x a m) (Int.lt_of_lt_of_le (fld_lt x a m) h2)
theorem field_0_15 (x : Int) (w : World) (hx : U64 x) : Calls Tryz.prog 128 #[.int .u64 x, .int .i64 0, .int .i64 15] w fun e w' => e = .returned (.int .u64 (fld x 0 16)) ∧ w' = w :=
  field_any x 0 15 w hx (by decide) (by decide)
theorem field_16_63 (x : Int) (w : World) (hx : U64 x) : Calls Tryz.prog 128 #[.int .u64 x, .int .i64 16, .int .i64 63] w fun e w' => e = .returned (.int .u64 (fld x 16 48)) ∧ w' = w :=
  field_any x 16 63 w hx (by decide) (by decide)
theorem field_3_34 (x : Int) (w : World) (hx : U64 x) : Calls Tryz.prog 128 #[.int .u64 x, .int .i64 3, .int .i64 34] w fun e w' => e = .returned (.int .u64 (fld x 3 32)) ∧ w' = w :=
  field_any x 3 34 w hx (by decide) (by decide)
theorem field_0_2 (x : Int) (w : World) (hx : U64 x) : Calls Tryz.prog 128 #[.int .u64 x, .int .i64 0, .int .i64 2] w fun e w' => e = .returned (.int .u64 (fld x 0 3)) ∧ w' = w :=
  field_any x 0 2 w hx (by decide) (by decide)
theorem put_16_63 (v x : Int) (w : World) (hv : 0 ≤ v) (hx : U64 x) (hlt : v < 2 ^ 16) : Calls Tryz.prog 129 #[.int .u64 v, .int .u64 x, .int .i64 16, .int .i64 63] w fun e w' => e = .returned (.int .u64 (v + pw x 16 48)) ∧ w' = w :=
  putS_any v x 16 63 w hv hx (by decide) (by decide) (put_fits v x 16 48 hlt (by decide))
theorem put_3_34 (v x : Int) (w : World) (hv : 0 ≤ v) (hx : U64 x) (hlt : v < 2 ^ 3) : Calls Tryz.prog 129 #[.int .u64 v, .int .u64 x, .int .i64 3, .int .i64 34] w fun e w' => e = .returned (.int .u64 (v + pw x 3 32)) ∧ w' = w :=
  putS_any v x 3 34 w hv hx (by decide) (by decide) (put_fits v x 3 32 hlt (by decide))
set_option maxHeartbeats 1000000 in
theorem slot38_any (x : Int) (w : World) (hx : U64 x) : Calls Tryz.prog 147 #[.int .u64 x] w fun e w' => e = .returned (.int .i64 (wSlot x)) ∧ w' = w := by
  have H0 := (fld16 x).1
  have H1 := (fld16 x).2
  have HX := Lib.hid hx
  clear hx
  by_cases h : 256 < fld x 0 16
  · have E := Lib.hid (show wSlot x = -1 from if_pos h)
    go_enter Tryz.func147, Tryz.ntmps147
    go_wp2_with (go_at_call 128; refine (field_0_15 x _ HX.out).mono ?_; rintro e w' ⟨rfl, rfl⟩)
    go_ret
    exact ⟨ret_int E.out.symm, rfl⟩
  · have E := Lib.hid (show wSlot x = fld x 0 16 - 1 from if_neg h)
    go_enter Tryz.func147, Tryz.ntmps147
    go_wp2_with (go_at_call 128; refine (field_0_15 x _ HX.out).mono ?_; rintro e w' ⟨rfl, rfl⟩)
    go_ret
    exact ⟨ret_int E.out.symm, rfl⟩
set_option maxHeartbeats 1000000 in
theorem asHead10_any (x : Int) (w : World) (hx : U64 x) : Calls Tryz.prog 130 #[.int .u64 x] w fun e w' => e = .returned (.tuple #[.int .i64 (wSlot x), .int .u64 (fld x 16 48)]) ∧ w' = w := by
  have HX := Lib.hid hx
  clear hx
  go_enter Tryz.func130, Tryz.ntmps130
  go_wp2_with (first | (go_at_call 147; refine (slot38_any x _ HX.out).mono ?_; rintro e w' ⟨rfl, rfl⟩) | (go_at_call 128; refine (field_16_63 x _ HX.out).mono ?_; rintro e w' ⟨rfl, rfl⟩))
  go_ret2
  exact ⟨rfl, rfl⟩
set_option maxHeartbeats 1000000 in
theorem asHeader24_any (x : Int) (w : World) (hx : U64 x) : Calls Tryz.prog 98 #[.int .u64 x] w fun e w' => e = .returned (.tuple #[.int .u8 (stS (fld x 0 3)), .int .u32 (fld x 3 32)]) ∧ w' = w := by
  have HX := Lib.hid hx
  have m1 := mod_u8 x 0 3 (by decide)
  have m2 := mod_u32 x 3 32 (by decide)
  clear hx
  by_cases h : 4 < fld x 0 3
  · have E := Lib.hid (show stS (fld x 0 3) = 4 from if_pos h)
    go_enter Tryz.func98, Tryz.ntmps98
    go_wp2_with fail
    refine (field_0_2 x _ HX.out).mono ?_
    rintro e w' ⟨rfl, rfl⟩
    go_wp2_with fail
    refine (field_3_34 x _ HX.out).mono ?_
    rintro e w' ⟨rfl, rfl⟩
    go_wp2_with fail
    go_ret2
    rw [E.out]
    exact ⟨rfl, rfl⟩
  · have E := Lib.hid (show stS (fld x 0 3) = fld x 0 3 from if_neg h)
    go_enter Tryz.func98, Tryz.ntmps98
    go_wp2_with fail
    refine (field_0_2 x _ HX.out).mono ?_
    rintro e w' ⟨rfl, rfl⟩
    go_wp2_with fail
    refine (field_3_34 x _ HX.out).mono ?_
    rintro e w' ⟨rfl, rfl⟩
    go_wp2_with fail
    go_ret2
    rw [E.out]
    exact ⟨rfl, rfl⟩
theorem pw_small (v : Int) (m : Nat) (h0 : 0 ≤ v) (h1 : v < 2 ^ m) : pw v 0 m = v := by
  unfold pw
  rw [Int.emod_eq_of_lt h0 h1]
  simp
set_option maxHeartbeats 1000000 in
theorem head16_any (s t : Int) (w : World) (ht : U64 t) : Calls Tryz.prog 131 #[.int .i64 s, .int .u64 t] w fun e w' => e = .returned (.int .u64 (headW s t)) ∧ w' = w := by
  have HT := Lib.hid ht
  clear ht
  by_cases h0 : 0 ≤ s
  · by_cases h1 : s < 256
    · have h1' : s ≤ 255 := by omega
      have h2 : IntKind.u64.wrap s = s := wrap_of_u64 s (u64_small (by omega) (by omega))
      have h3 : IntKind.u64.wrap (s + 1) = s + 1 := wrap_of_u64 _ (u64_small (by omega) (by omega))
      have h4 : (0 : Int) ≤ s + 1 := by omega
      have E := Lib.hid (show headW s t = s + 1 + pw t 16 48 by unfold headW; rw [numS_yes h0 h1, pw_small _ _ (by omega) (by omega)])
      go_enter Tryz.func131, Tryz.ntmps131
      go_wp2_with (go_at_call 129; refine (put_16_63 (s + 1) t _ h4 HT.out (by omega)).mono ?_; rintro e w' ⟨rfl, rfl⟩)
      go_ret
      exact ⟨ret_int E.out.symm, rfl⟩
    · have h1' : ¬ s ≤ 255 := by omega
      have E := Lib.hid (show headW s t = 0 + pw t 16 48 by unfold headW; rw [numS_no (by omega)]; rfl)
      go_enter Tryz.func131, Tryz.ntmps131
      go_wp2_with (go_at_call 129; refine (put_16_63 0 t _ (by decide) HT.out (by decide)).mono ?_; rintro e w' ⟨rfl, rfl⟩)
      go_ret
      exact ⟨ret_int (by rw [E.out]; omega), rfl⟩
  · have E := Lib.hid (show headW s t = 0 + pw t 16 48 by unfold headW; rw [numS_no (by omega)]; rfl)
    go_enter Tryz.func131, Tryz.ntmps131
    go_wp2_with (go_at_call 129; refine (put_16_63 0 t _ (by decide) HT.out (by decide)).mono ?_; rintro e w' ⟨rfl, rfl⟩)
    go_ret
    exact ⟨ret_int (by rw [E.out]; omega), rfl⟩
set_option maxHeartbeats 1000000 in
theorem header28_any (s g : Int) (w : World) (hs : U8 s) (hg : U64 g) : Calls Tryz.prog 100 #[.int .u8 s, .int .u32 g] w fun e w' => e = .returned (.int .u64 (headerW s g)) ∧ w' = w := by
  have HG := Lib.hid hg
  have hs0 := hs.1
  have hs1 := hs.2
  have h2 : IntKind.u64.wrap s = s := wrap_of_u64 s (u64_small (by omega) (by omega))
  have h3 : IntKind.u64.wrap g = g := wrap_of_u64 g hg
  clear hg hs
  by_cases h : 4 < s
  · have E := Lib.hid (show headerW s g = 4 + pw g 3 32 by unfold headerW stS; rw [if_pos h, pw_small _ _ (by omega) (by omega)])
    go_enter Tryz.func100, Tryz.ntmps100
    go_wp2_with (go_at_call 129; refine (put_3_34 4 g _ (by decide) HG.out (by decide)).mono ?_; rintro e w' ⟨rfl, rfl⟩)
    go_ret
    exact ⟨ret_int E.out.symm, rfl⟩
  · have h4 : s ≤ 4 := by omega
    have E := Lib.hid (show headerW s g = s + pw g 3 32 by unfold headerW stS; rw [if_neg h, pw_small _ _ (by omega) (by omega)])
    go_enter Tryz.func100, Tryz.ntmps100
    go_wp2_with (go_at_call 129; refine (put_3_34 s g _ hs0 HG.out (by omega)).mono ?_; rintro e w' ⟨rfl, rfl⟩)
    go_ret
    exact ⟨ret_int E.out.symm, rfl⟩
end Go.Proofs.YtmjcbjcnmgleaaaGreatDoor
namespace Go.Proofs.YtmjcbjcnmgleaaaGreatDoor
open Go.RowKit Go.Maps
def RefAt (e : Nat) (psh : Bool) (sl ln : Int) (got : Bool) (h n : Int) (w : World) : Prop := w.heap[e]? = some (.cells #[.bool psh, .int .i64 sl, .int .i64 ln, .bool got, .int .u64 h, .int .u64 n] 177 (0, 0))
structure Fx (B p b q e : Nat) (X Y : World) : Prop where
  low : Below B X Y
  far : ∀ x cs t fr, X.heap[x]? = some (.cells cs t fr) → t ≠ 118 → x ≠ p → x ≠ b → x ≠ q → x ≠ e → Y.heap[x]? = some (.cells cs t fr)
section
variable {B p m b q e : Nat} {X Y Z : World}
theorem Fx.trans (h : Fx B p b q e X Y) (k : Fx B p b q e Y Z) : Fx B p b q e X Z := ⟨h.low.trans k.low, fun x cs t fr hx ht h1 h2 h3 h4 => k.far x cs t fr (h.far x cs t fr hx ht h1 h2 h3 h4) ht h1 h2 h3 h4⟩
theorem Fx.of_fr (h : Fr p m b X Y) (hB : B ≤ m) : Fx B p b q e X Y := ⟨h.low.mono hB, fun x cs t fr hx ht h1 h2 _ _ => h.far x cs t fr hx ht h1 h2⟩
theorem Fx.of_below (h : Below X.heap.size X Y) (hB : B ≤ X.heap.size) : Fx B p b q e X Y := ⟨h.mono hB, fun _ _ _ _ hx _ _ _ _ _ => (h.block _ (Array.getElem?_eq_some_iff.1 hx).1).trans hx⟩
theorem Fx.setE (X : World) (hB : B ≤ e) (i : Nat) (v : Value) : Fx B p b q e X (X.setCell ⟨e, i, none⟩ v) := ⟨(Below.refl B X).setCell (p := ⟨e, i, none⟩) hB v, fun x _ _ _ hx _ _ _ _ h4 => (Below.heap_setCell X ⟨e, i, none⟩ v x h4).trans hx⟩
end
section
variable {B p m b n q e : Nat} {psh got : Bool} {sl ln h nn : Int} {D : DataW Unit} {s r : Acc8} {L : List (Ad × Int)} {w w' : World}
theorem RefAt.lt (R : RefAt e psh sl ln got h nn w) : e < w.heap.size := (Array.getElem?_eq_some_iff.1 R).1
theorem RefAt.same (R : RefAt e psh sl ln got h nn w) (hb : w'.heap[e]? = w.heap[e]?) : RefAt e psh sl ln got h nn w' := hb.trans R
theorem RefAt.below (R : RefAt e psh sl ln got h nn w) (hb : Below w.heap.size w w') : RefAt e psh sl ln got h nn w' := R.same (hb.block e R.lt)
theorem RefAt.cells (R : RefAt e psh sl ln got h nn w) : w.cell? ⟨e, 0, none⟩ = some (.bool psh) ∧ w.cell? ⟨e, 1, none⟩ = some (.int .i64 sl) ∧ w.cell? ⟨e, 2, none⟩ = some (.int .i64 ln) ∧ w.cell? ⟨e, 3, none⟩ = some (.bool got) ∧ w.cell? ⟨e, 4, none⟩ = some (.int .u64 h) ∧ w.cell? ⟨e, 5, none⟩ = some (.int .u64 nn) ∧ ∀ i, w.frozen? ⟨e, i, none⟩ = false := by
  unfold RefAt at R
  simp [World.cell?, World.frozen?, R]
theorem RefAt.set1 (R : RefAt e psh sl ln got h nn w) (v : Int) : RefAt e psh v ln got h nn (w.setCell ⟨e, 1, none⟩ (.int .i64 v)) := by
  have := setCell_blk R 1 (.int .i64 v); unfold RefAt; simpa using this
theorem RefAt.set2 (R : RefAt e psh sl ln got h nn w) (v : Int) : RefAt e psh sl v got h nn (w.setCell ⟨e, 2, none⟩ (.int .i64 v)) := by
  have := setCell_blk R 2 (.int .i64 v); unfold RefAt; simpa using this
theorem RefAt.set3 (R : RefAt e psh sl ln got h nn w) (v : Bool) : RefAt e psh sl ln v h nn (w.setCell ⟨e, 3, none⟩ (.bool v)) := by
  have := setCell_blk R 3 (.bool v); unfold RefAt; simpa using this
theorem RefAt.set4 (R : RefAt e psh sl ln got h nn w) (v : Int) : RefAt e psh sl ln got v nn (w.setCell ⟨e, 4, none⟩ (.int .u64 v)) := by
  have := setCell_blk R 4 (.int .u64 v); unfold RefAt; simpa using this
theorem RefAt.set5 (R : RefAt e psh sl ln got h nn w) (v : Int) : RefAt e psh sl ln got h v (w.setCell ⟨e, 5, none⟩ (.int .u64 v)) := by
  have := setCell_blk R 5 (.int .u64 v); unfold RefAt; simpa using this
theorem RefAt.fr (R : RefAt e psh sl ln got h nn w) (hf : Fr p m b w w') (hp : e ≠ p) (hb : e ≠ b) : RefAt e psh sl ln got h nn w' := hf.cell R (by decide) hp hb
theorem Pr.setX {x : Nat} {cs : Array Value} {t : TypeId} (h : Pr p m b n D s L r w) (hX : w.heap[x]? = some (.cells cs t (0, 0))) (ht : t ≠ 118) (hp : x ≠ p) (hb : x ≠ b) (j : Nat) (u : Value) : Pr p m b n D s L r (w.setCell ⟨x, j, none⟩ u) := by
  have far : ∀ z, z ≠ x → (w.setCell ⟨x, j, none⟩ u).heap[z]? = w.heap[z]? := fun z hz => Below.heap_setCell w _ _ z (by simpa using hz)
  obtain ⟨es, c, hm⟩ := h.prog.map_at
  obtain ⟨v, hr⟩ := h.ref
  refine ⟨h.prog.keep (far p (Ne.symm hp)) (far m fun e => ?_), ⟨v, (far b (Ne.symm hb)).trans hr.blk, ⟨hr.own.1, ?_⟩, hr.pos⟩, h.mp, h.pb⟩
  · subst e; rw [hX] at hm; cases hm
  · rcases hr.own.2 with hn | ⟨g, cap, cur, hv, hB, hg, rest⟩
    · exact .inl hn
    · refine .inr ⟨g, cap, cur, hv, hB, (far g fun e => ?_).trans hg, rest⟩
      subst e
      rw [hX] at hg
      injection hg with hg
      injection hg with _ h3
      exact ht h3
theorem Pr.val_u64 (h : Pr p m b n D s L r w) (hr : Rel D L) (x : Ad) : U64 (vals L x) := by
  rw [← hr.val]
  exact h.prog.val_u64 x
theorem ref_newPop (w : World) : Calls Tryz.prog 103 #[] w fun ee w' => ee = .returned (.pointer (some ⟨w.heap.size, 0, none⟩)) ∧ RefAt w.heap.size false 0 1 false 0 0 w' ∧ Below w.heap.size w w' ∧ w'.heap.size = w.heap.size + 1 := by
  go_enter Tryz.func103, Tryz.ntmps103
  go_wp2
  go_ret
  exact ⟨rfl, alloc_blk _ _, (Below.refl _ _).alloc (Nat.le_refl _) _, by simp⟩
theorem ref_newPush (s : Int) (h0 : 0 ≤ s) (h1 : s < 256) (w : World) : Calls Tryz.prog 101 #[.int .i64 s] w fun ee w' => ee = .returned (.pointer (some ⟨w.heap.size, 0, none⟩)) ∧ RefAt w.heap.size true s 1 false 0 0 w' ∧ Below w.heap.size w w' ∧ w'.heap.size = w.heap.size + 1 := by
  have h2 : s ≤ 255 := by omega
  clear h1
  go_enter Tryz.func101, Tryz.ntmps101
  go_wp2
  go_ret
  exact ⟨rfl, alloc_blk _ _, (Below.refl _ _).alloc (Nat.le_refl _) _, by simp⟩
theorem load_rF (h : Pr p m b n D s L r w) (hL : L.length ≤ 4999) (h0 : 0 ≤ r.st) (h1 : r.st < 1000000) :
    Calls Tryz.prog 67 #[.pointer (some ⟨b, 0, none⟩), .agg #[.int .u8 0, .int .i64 0, .int .i64 0]] w fun ee w' => ee = .returned (.int .u64 (vals L adF)) ∧ Pr p m b n D s L (r.touch 1 adF (vals L adF) (vals L adF) false) w' ∧ Fr p m b w w' := load_r adF h hL h0 h1
theorem load_rL (t : Int) (ht : I64w t) (h : Pr p m b n D s L r w) (hL : L.length ≤ 4999) (h0 : 0 ≤ r.st) (h1 : r.st < 1000000) :
    Calls Tryz.prog 67 #[.pointer (some ⟨b, 0, none⟩), .agg #[.int .u8 9, .int .i64 t, .int .i64 2]] w fun ee w' => ee = .returned (.int .u64 (vals L (adL t ht))) ∧ Pr p m b n D s L (r.touch 1 (adL t ht) (vals L (adL t ht)) (vals L (adL t ht)) false) w' ∧ Fr p m b w w' := load_r (adL t ht) h hL h0 h1
theorem store_rL (t : Int) (ht : I64w t) (v : Int) (h : Pr p m b n D s L r w) (hL : L.length ≤ 4999) (h0 : 0 ≤ r.st) (h1 : r.st < 1000000) :
    Calls Tryz.prog 33 #[.pointer (some ⟨b, 0, none⟩), .agg #[.int .u8 9, .int .i64 t, .int .i64 2], .int .u64 v] w fun ee w' => ee = .returned (.tuple #[]) ∧ Pr p m b n D s (storeA L (adL t ht) v) (r.touch 2 (adL t ht) (vals L (adL t ht)) (vals (storeA L (adL t ht) v) (adL t ht)) false) w' ∧ Fr p m b w w' := store_r (adL t ht) v h hL h0 h1
theorem cas_rF {u v : Int} {c : Bool} (hc : casA L adF u = c) (h : Pr p m b n D s L r w) (hL : L.length ≤ 4999) (h0 : 0 ≤ r.st) (h1 : r.st < 1000000) :
    Calls Tryz.prog 70 #[.pointer (some ⟨b, 0, none⟩), .agg #[.int .u8 0, .int .i64 0, .int .i64 0], .int .u64 u, .int .u64 v] w fun ee w' => ee = .returned (.bool c) ∧ Pr p m b n D s (casL L adF u v) (r.touch 3 adF (vals L adF) (vals (casL L adF u v) adF) c) w' ∧ Fr p m b w w' := by
  subst hc
  exact cas_r adF u v h hL h0 h1
end
end Go.Proofs.YtmjcbjcnmgleaaaGreatDoor
