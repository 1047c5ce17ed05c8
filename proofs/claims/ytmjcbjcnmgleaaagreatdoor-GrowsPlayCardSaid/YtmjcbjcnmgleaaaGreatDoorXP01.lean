/-
  Plain arithmetic of fields of words of 64 bits; conditions as each theorem says.
-/
import Derived.Laws.BitsAllLaws
import Derived.Test.YtmjcbjcnmgleaaaGreatDoorRows
import Derived.WalkKit
import Derived.WalkSpells
import Derived.WalkLawsBesides
import Derived.Deep.QuietTactic
import Derived.BigQuiet
import Derived.Lib.Hide
import Derived.Deep.RegionWith
namespace Go.Proofs.YtmjcbjcnmgleaaaGreatDoor
open Go
def fld (x : Int) (a m : Nat) : Int := x / 2 ^ a % 2 ^ m
def pw (v : Int) (a m : Nat) : Int := v % 2 ^ m * 2 ^ a
def U64 (x : Int) : Prop := 0 ≤ x ∧ x < 18446744073709551616
def U32 (x : Int) : Prop := 0 ≤ x ∧ x < 4294967296
def U8 (x : Int) : Prop := 0 ≤ x ∧ x < 256
theorem two_pow_pos (m : Nat) : (0 : Int) < 2 ^ m := by
  have := Int.pow_pos (n := (2 : Int)) (m := m) (by decide); exact this
theorem two_pow_le {a b : Nat} (h : a ≤ b) : (2 : Int) ^ a ≤ 2 ^ b := by
  have := Nat.pow_le_pow_right (n := 2) (by decide) h
  exact_mod_cast this
theorem p64 : (2 : Int) ^ 64 = 18446744073709551616 := by decide
theorem p63 : (2 : Int) ^ 63 = 9223372036854775808 := by decide
theorem np63 : (2 : Nat) ^ 63 = 9223372036854775808 := by decide
theorem p62 : (2 : Int) ^ 62 = 4611686018427387904 := by decide
theorem p32 : (2 : Int) ^ 32 = 4294967296 := by decide
theorem p8 : (2 : Int) ^ 8 = 256 := by decide
theorem fld_nonneg (x : Int) (a m : Nat) : 0 ≤ fld x a m := Int.emod_nonneg _ (by have := two_pow_pos m; omega)
theorem fld_lt (x : Int) (a m : Nat) : fld x a m < 2 ^ m := Int.emod_lt_of_pos _ (two_pow_pos m)
theorem fld_u64 (x : Int) (a m : Nat) (h : m ≤ 64) : U64 (fld x a m) := ⟨fld_nonneg x a m, by have := fld_lt x a m; have := two_pow_le h; rw [p64] at this; omega⟩
theorem mask_val (m : Nat) (h : m ≤ 63) : IntKind.u64.wrap (IntKind.u64.wrap (2 ^ m) - 1) = 2 ^ m - 1 := by
  have h1 := two_pow_pos m
  have h2 := two_pow_le h
  rw [p63] at h2
  rw [IntKind.wrap_u64, IntKind.wrap_u64]
  omega
theorem pow_cast (m : Nat) : (2 : Int) ^ m = ((2 ^ m : Nat) : Int) := by norm_cast
theorem pred_cast (P : Nat) (h : 0 < P) : (P : Int) - 1 = ((P - 1 : Nat) : Int) := by omega
theorem pred_lt (P : Nat) (h : P ≤ 9223372036854775808) : P - 1 < 18446744073709551616 := by omega
theorem lt_cast (X : Nat) (h : (X : Int) < 18446744073709551616) : X < 18446744073709551616 := by omega
theorem and_val (x : Int) (m : Nat) (hx : U64 x) (h : m ≤ 63) : bits .and .u64 x (2 ^ m - 1) = x % 2 ^ m := by
  obtain ⟨h0, h1⟩ := hx
  obtain ⟨X, rfl⟩ := Int.eq_ofNat_of_zero_le h0
  have hp : (0 : Nat) < 2 ^ m := Nat.two_pow_pos m
  have hq : (2 : Nat) ^ m ≤ 9223372036854775808 := by
    have := Nat.pow_le_pow_right (n := 2) (by decide) h
    rwa [np63] at this
  rw [pow_cast, pred_cast _ hp, u64_and_nat X (2 ^ m - 1) (lt_cast X h1) (pred_lt _ hq), Nat.and_two_pow_sub_one_eq_mod]
  exact Int.natCast_emod _ _
theorem div_u64 (x : Int) (a : Nat) (hx : U64 x) : U64 (x / 2 ^ a) := by
  obtain ⟨h0, h1⟩ := hx
  have hp := two_pow_pos a
  exact ⟨Int.ediv_nonneg h0 (by omega), Int.lt_of_le_of_lt (Int.ediv_le_self _ h0) h1⟩
theorem take_val (x : Int) (a m : Nat) (hx : U64 x) (h : m ≤ 63) : bits .and .u64 (x / 2 ^ a) (2 ^ m - 1) = fld x a m :=
  and_val _ m (div_u64 x a hx) h
theorem pw_nonneg (v : Int) (a m : Nat) : 0 ≤ pw v a m := Int.mul_nonneg (Int.emod_nonneg _ (by have := two_pow_pos m; omega)) (Int.le_of_lt (two_pow_pos a))
theorem pw_lt (v : Int) (a m : Nat) : pw v a m < 2 ^ (a + m) := by
  have h := Int.emod_lt_of_pos v (two_pow_pos m)
  have := Int.mul_lt_mul_of_pos_right h (two_pow_pos a)
  rw [Int.pow_add, Int.mul_comm (2 ^ a)]
  exact this
theorem pw_u64 (v : Int) (a m : Nat) (ha : a + m ≤ 64) : U64 (pw v a m) := by
  have h1 := pw_lt v a m
  have h2 := two_pow_le ha
  rw [p64] at h2
  exact ⟨pw_nonneg v a m, Int.lt_of_lt_of_le h1 h2⟩
end Go.Proofs.YtmjcbjcnmgleaaaGreatDoor
namespace Go.Proofs.YtmjcbjcnmgleaaaGreatDoor
open Go
def numS (s : Int) : Int := if 0 ≤ s ∧ s < 256 then s + 1 else 0
def slotS (n : Int) : Int := if 256 < n then -1 else n - 1
def stS (s : Int) : Int := if 4 < s then 4 else s
theorem numS_in (s : Int) : 0 ≤ numS s ∧ numS s ≤ 256 := by unfold numS; split <;> omega
theorem numS_yes {s : Int} (h0 : 0 ≤ s) (h1 : s < 256) : numS s = s + 1 := by unfold numS; rw [if_pos ⟨h0, h1⟩]
theorem numS_no {s : Int} (h : ¬ (0 ≤ s ∧ s < 256)) : numS s = 0 := by unfold numS; rw [if_neg h]
theorem stS_in (s : Int) (h : 0 ≤ s) : 0 ≤ stS s ∧ stS s ≤ 4 := by unfold stS; split <;> omega
theorem u64_small {x : Int} (h0 : 0 ≤ x) (h1 : x < 4294967296) : U64 x := ⟨h0, by omega⟩
def headW (s t : Int) : Int := pw (numS s) 0 16 + pw t 16 48
def headerW (s g : Int) : Int := pw (stS s) 0 3 + pw g 3 32
def wSlot (w : Int) : Int := slotS (fld w 0 16)
theorem or_nat' (i x y : Nat) (hx : x % 2 ^ i = 0) (hy : y < 2 ^ i) (h1 : x < 18446744073709551616) (h2 : y < 18446744073709551616) : bits .or .u64 (y : Int) (x : Int) = ((y + x : Nat) : Int) := by
  rw [u64_or_nat y x h2 h1, Nat.or_comm, nat_join i x y hx hy, Nat.add_comm]
theorem pwN (v a m : Nat) : pw (v : Int) a m = ((v % 2 ^ m * 2 ^ a : Nat) : Int) := by
  unfold pw
  rw [pow_cast, pow_cast]
  norm_cast
theorem nat_of {v : Int} (h : 0 ≤ v) : ∃ n : Nat, v = (n : Int) := Int.eq_ofNat_of_zero_le h
theorem or_up (v u : Int) (m b n : Nat) (hv : 0 ≤ v) (hu : 0 ≤ u) (hb : m ≤ b) (hn : b + n ≤ 64) : bits .or .u64 (pw v 0 m) (pw u b n) = pw v 0 m + pw u b n := by
  obtain ⟨V, rfl⟩ := nat_of hv
  obtain ⟨U, rfl⟩ := nat_of hu
  have l1 := pw_u64 (V : Int) 0 m (by omega)
  have l2 := pw_u64 (U : Int) b n hn
  have l3 := pw_lt (V : Int) 0 m
  rw [pwN] at l1 l3
  rw [pwN] at l2
  rw [pwN, pwN]
  have e2 : V % 2 ^ m * 2 ^ 0 < 2 ^ b := by
    rw [Nat.pow_zero, Nat.mul_one]
    exact Nat.lt_of_lt_of_le (Nat.mod_lt _ (Nat.two_pow_pos m)) (Nat.pow_le_pow_right (by decide) hb)
  rw [or_nat' b _ _ (Nat.mul_mod_left _ _) e2 (lt_cast _ l2.2) (lt_cast _ l1.2)]
  norm_cast
end Go.Proofs.YtmjcbjcnmgleaaaGreatDoor
namespace Go.Proofs.YtmjcbjcnmgleaaaGreatDoor
open Go.RowKit
def tab (k : Nat) : Nat := [0, 16, 16, 32, 63, 1, 0, 16, 16, 48, 0, 3, 3, 32, 0, 3, 3, 3, 6, 3, 16, 48, 0, 32, 32, 1].getD k 0
def Lay (w : World) : Prop := 1 < w.heap.size ∧ ∀ k : Nat, k < 26 → w.cell? ⟨1, k, none⟩ = some (.int .u8 ((tab k : Nat) : Int))
theorem Lay.drewN {w : World} (h : Lay w) (n : Nat) : Lay (w.drewN n) := h
theorem Lay.below {w w' : World} (h : Lay w) (hb : Below w.heap.size w w') : Lay w' := ⟨Nat.lt_of_lt_of_le h.1 hb.size, fun k hk => (hb.cell (p := ⟨1, k, none⟩) h.1).trans (h.2 k hk)⟩
theorem wrap_of_u64 (v : Int) (h : U64 v) : IntKind.u64.wrap v = v := by
  obtain ⟨h0, h1⟩ := h
  rw [IntKind.wrap_u64]
  omega
theorem ret_int {k : IntKind} {a b : Int} (h : a = b) : Ending.returned (.int k a) = .returned (.int k b) := by rw [h]
theorem take_i64 (x : Int) (a m : Nat) (hx : U64 x) (h : m ≤ 62) : wrap64 (bits .and .u64 (x / 2 ^ a) (2 ^ m - 1)) = fld x a m := by
  rw [take_val x a m hx (by omega)]
  have h0 := fld_nonneg x a m
  have h1 := fld_lt x a m
  have h2 := two_pow_le (show m ≤ 62 from h)
  rw [p62] at h2
  exact IntWalk.wrap64_in _ ⟨by omega, by omega⟩
theorem take_u32 (x : Int) (a m : Nat) (hx : U64 x) (h : m ≤ 32) : bits .and .u64 (x / 2 ^ a) (2 ^ m - 1) % 4294967296 = fld x a m := by
  rw [take_val x a m hx (by omega)]
  have h2 := two_pow_le h
  rw [p32] at h2
  exact Int.emod_eq_of_lt (fld_nonneg x a m) (Int.lt_of_lt_of_le (fld_lt x a m) h2)
theorem take_u8 (x : Int) (a m : Nat) (hx : U64 x) (h : m ≤ 8) : bits .and .u64 (x / 2 ^ a) (2 ^ m - 1) % 256 = fld x a m := by
  rw [take_val x a m hx (by omega)]
  have h2 := two_pow_le h
  rw [p8] at h2
  exact Int.emod_eq_of_lt (fld_nonneg x a m) (Int.lt_of_lt_of_le (fld_lt x a m) h2)
theorem put_u64 (v : Int) (a m : Nat) (hv : U64 v) (ha : a + m ≤ 64) (h : m ≤ 63) : IntKind.u64.wrap (bits .and .u64 v (2 ^ m - 1) * 2 ^ a) = pw v a m := by
  rw [and_val v m hv h]
  exact wrap_of_u64 _ (pw_u64 v a m ha)
theorem put_less (v : Int) (a m : Nat) (hv : U64 v) (ha : a + m ≤ 64) (h : m ≤ 63) : IntKind.u64.wrap (bits .and .u64 (IntKind.u64.wrap v) (2 ^ m - 1) * 2 ^ a) = pw v a m := by
  rw [wrap_of_u64 v hv]
  exact put_u64 v a m hv ha h
set_option maxHeartbeats 400000 in
theorem mask_any (f : Int) (m : Nat) (w : World) (hf0 : 0 ≤ f) (hf : f < 13) (hm : m ≤ 63) (hc : w.cell? ⟨1, f.toNat * 2 + 1, none⟩ = some (.int .u8 (m : Int))) :
    Calls Tryz.prog 120 #[.int .i64 f] w fun e w' => e = .returned (.int .u64 (2 ^ m - 1)) ∧ w' = w := by
  have hz : (0 : Int) ≤ (m : Int) := by omega
  go_enter Tryz.func120, Tryz.ntmps120
  go_wp2
  go_ret
  exact ⟨ret_int (by simpa using mask_val m hm), rfl⟩
set_option maxHeartbeats 400000 in
theorem take36 (f : Int) (x : Int) (a m : Nat) (w : World) (hf0 : 0 ≤ f) (hf : f < 13) (ha : a ≤ 63) (hm : m ≤ 62) (hx : U64 x) (hc : w.cell? ⟨1, f.toNat * 2, none⟩ = some (.int .u8 (a : Int)))
    (hd : w.cell? ⟨1, f.toNat * 2 + 1, none⟩ = some (.int .u8 (m : Int))) :
    Calls Tryz.prog 95 #[.int .u64 x, .int .i64 f] w fun e w' => e = .returned (.int .i64 (fld x a m)) ∧ ∃ n, w' = w.drewN n := by
  have hz : (0 : Int) ≤ (a : Int) := by omega
  go_enter Tryz.func95, Tryz.ntmps95
  go_wp2
  go_quiet ((go_at_call 120; exact Calls.quiet_of_same (mask_any f m _ hf0 hf (by omega) hd)))
  go_wp2
  go_ret
  exact ⟨ret_int (take_i64 x a m hx hm), nq, rfl⟩
set_option maxHeartbeats 400000 in
theorem take37 (f : Int) (x : Int) (a m : Nat) (w : World) (hf0 : 0 ≤ f) (hf : f < 13) (ha : a ≤ 63) (hm : m ≤ 63) (hx : U64 x) (hc : w.cell? ⟨1, f.toNat * 2, none⟩ = some (.int .u8 (a : Int)))
    (hd : w.cell? ⟨1, f.toNat * 2 + 1, none⟩ = some (.int .u8 (m : Int))) :
    Calls Tryz.prog 96 #[.int .u64 x, .int .i64 f] w fun e w' => e = .returned (.int .u64 (fld x a m)) ∧ ∃ n, w' = w.drewN n := by
  have hz : (0 : Int) ≤ (a : Int) := by omega
  go_enter Tryz.func96, Tryz.ntmps96
  go_wp2
  go_quiet ((go_at_call 120; exact Calls.quiet_of_same (mask_any f m _ hf0 hf (by omega) hd)))
  go_wp2
  go_ret
  exact ⟨ret_int (take_val x a m hx hm), nq, rfl⟩
set_option maxHeartbeats 400000 in
theorem take44 (f : Int) (x : Int) (a m : Nat) (w : World) (hf0 : 0 ≤ f) (hf : f < 13) (ha : a ≤ 63) (hm : m ≤ 32) (hx : U64 x) (hc : w.cell? ⟨1, f.toNat * 2, none⟩ = some (.int .u8 (a : Int)))
    (hd : w.cell? ⟨1, f.toNat * 2 + 1, none⟩ = some (.int .u8 (m : Int))) :
    Calls Tryz.prog 127 #[.int .u64 x, .int .i64 f] w fun e w' => e = .returned (.int .u32 (fld x a m)) ∧ ∃ n, w' = w.drewN n := by
  have hz : (0 : Int) ≤ (a : Int) := by omega
  go_enter Tryz.func127, Tryz.ntmps127
  go_wp2
  go_quiet ((go_at_call 120; exact Calls.quiet_of_same (mask_any f m _ hf0 hf (by omega) hd)))
  go_wp2
  go_ret
  exact ⟨ret_int (take_u32 x a m hx hm), nq, rfl⟩
set_option maxHeartbeats 400000 in
theorem take48 (f : Int) (x : Int) (a m : Nat) (w : World) (hf0 : 0 ≤ f) (hf : f < 13) (ha : a ≤ 63) (hm : m ≤ 8) (hx : U64 x) (hc : w.cell? ⟨1, f.toNat * 2, none⟩ = some (.int .u8 (a : Int)))
    (hd : w.cell? ⟨1, f.toNat * 2 + 1, none⟩ = some (.int .u8 (m : Int))) :
    Calls Tryz.prog 126 #[.int .u64 x, .int .i64 f] w fun e w' => e = .returned (.int .u8 (fld x a m)) ∧ ∃ n, w' = w.drewN n := by
  have hz : (0 : Int) ≤ (a : Int) := by omega
  go_enter Tryz.func126, Tryz.ntmps126
  go_wp2
  go_quiet ((go_at_call 120; exact Calls.quiet_of_same (mask_any f m _ hf0 hf (by omega) hd)))
  go_wp2
  go_ret
  exact ⟨ret_int (take_u8 x a m hx hm), nq, rfl⟩
set_option maxHeartbeats 400000 in
theorem put42 (f : Int) (v : Int) (a m : Nat) (w : World) (hf0 : 0 ≤ f) (hf : f < 13) (ha : a + m ≤ 64) (hm : m ≤ 63) (hv : U64 v) (hc : w.cell? ⟨1, f.toNat * 2, none⟩ = some (.int .u8 (a : Int)))
    (hd : w.cell? ⟨1, f.toNat * 2 + 1, none⟩ = some (.int .u8 (m : Int))) :
    Calls Tryz.prog 165 #[.int .u64 v, .int .i64 f] w fun e w' => e = .returned (.int .u64 (pw v a m)) ∧ ∃ n, w' = w.drewN n := by
  have hz : (0 : Int) ≤ (a : Int) := by omega
  go_enter Tryz.func165, Tryz.ntmps165
  go_wp2
  go_quiet ((go_at_call 120; exact Calls.quiet_of_same (mask_any f m _ hf0 hf (by omega) hd)))
  go_wp2
  go_ret
  exact ⟨ret_int (put_u64 v a m hv ha hm), nq, rfl⟩
set_option maxHeartbeats 400000 in
theorem put43 (f : Int) (v : Int) (a m : Nat) (w : World) (hf0 : 0 ≤ f) (hf : f < 13) (ha : a + m ≤ 64) (hm : m ≤ 63) (hv : U64 v) (hc : w.cell? ⟨1, f.toNat * 2, none⟩ = some (.int .u8 (a : Int)))
    (hd : w.cell? ⟨1, f.toNat * 2 + 1, none⟩ = some (.int .u8 (m : Int))) :
    Calls Tryz.prog 86 #[.int .u32 v, .int .i64 f] w fun e w' => e = .returned (.int .u64 (pw v a m)) ∧ ∃ n, w' = w.drewN n := by
  have hz : (0 : Int) ≤ (a : Int) := by omega
  go_enter Tryz.func86, Tryz.ntmps86
  go_wp2
  go_quiet ((go_at_call 120; exact Calls.quiet_of_same (mask_any f m _ hf0 hf (by omega) hd)))
  go_wp2
  go_ret
  exact ⟨ret_int (put_less v a m hv ha hm), nq, rfl⟩
set_option maxHeartbeats 400000 in
theorem put49 (f : Int) (v : Int) (a m : Nat) (w : World) (hf0 : 0 ≤ f) (hf : f < 13) (ha : a + m ≤ 64) (hm : m ≤ 63) (hv : U64 v) (hc : w.cell? ⟨1, f.toNat * 2, none⟩ = some (.int .u8 (a : Int)))
    (hd : w.cell? ⟨1, f.toNat * 2 + 1, none⟩ = some (.int .u8 (m : Int))) :
    Calls Tryz.prog 84 #[.int .u8 v, .int .i64 f] w fun e w' => e = .returned (.int .u64 (pw v a m)) ∧ ∃ n, w' = w.drewN n := by
  have hz : (0 : Int) ≤ (a : Int) := by omega
  go_enter Tryz.func84, Tryz.ntmps84
  go_wp2
  go_quiet ((go_at_call 120; exact Calls.quiet_of_same (mask_any f m _ hf0 hf (by omega) hd)))
  go_wp2
  go_ret
  exact ⟨ret_int (put_less v a m hv ha hm), nq, rfl⟩
theorem take36_3 (x : Int) (w : World) (hL : Lay w) (hx : U64 x) : Calls Tryz.prog 95 #[.int .u64 x, .int .i64 3] w fun e w' => e = .returned (.int .i64 (fld x 0 16)) ∧ ∃ n, w' = w.drewN n :=
  take36 3 x 0 16 w (by decide) (by decide) (by decide) (by decide) hx (hL.2 6 (by decide)) (hL.2 7 (by decide))
theorem take37_4 (x : Int) (w : World) (hL : Lay w) (hx : U64 x) : Calls Tryz.prog 96 #[.int .u64 x, .int .i64 4] w fun e w' => e = .returned (.int .u64 (fld x 16 48)) ∧ ∃ n, w' = w.drewN n :=
  take37 4 x 16 48 w (by decide) (by decide) (by decide) (by decide) hx (hL.2 8 (by decide)) (hL.2 9 (by decide))
theorem take44_6 (x : Int) (w : World) (hL : Lay w) (hx : U64 x) : Calls Tryz.prog 127 #[.int .u64 x, .int .i64 6] w fun e w' => e = .returned (.int .u32 (fld x 3 32)) ∧ ∃ n, w' = w.drewN n :=
  take44 6 x 3 32 w (by decide) (by decide) (by decide) (by decide) hx (hL.2 12 (by decide)) (hL.2 13 (by decide))
theorem take48_5 (x : Int) (w : World) (hL : Lay w) (hx : U64 x) : Calls Tryz.prog 126 #[.int .u64 x, .int .i64 5] w fun e w' => e = .returned (.int .u8 (fld x 0 3)) ∧ ∃ n, w' = w.drewN n :=
  take48 5 x 0 3 w (by decide) (by decide) (by decide) (by decide) hx (hL.2 10 (by decide)) (hL.2 11 (by decide))
theorem put42_3 (v : Int) (w : World) (hL : Lay w) (hv : U64 v) : Calls Tryz.prog 165 #[.int .u64 v, .int .i64 3] w fun e w' => e = .returned (.int .u64 (pw v 0 16)) ∧ ∃ n, w' = w.drewN n :=
  put42 3 v 0 16 w (by decide) (by decide) (by decide) (by decide) hv (hL.2 6 (by decide)) (hL.2 7 (by decide))
theorem put42_4 (v : Int) (w : World) (hL : Lay w) (hv : U64 v) : Calls Tryz.prog 165 #[.int .u64 v, .int .i64 4] w fun e w' => e = .returned (.int .u64 (pw v 16 48)) ∧ ∃ n, w' = w.drewN n :=
  put42 4 v 16 48 w (by decide) (by decide) (by decide) (by decide) hv (hL.2 8 (by decide)) (hL.2 9 (by decide))
theorem put43_6 (v : Int) (w : World) (hL : Lay w) (hv : U64 v) : Calls Tryz.prog 86 #[.int .u32 v, .int .i64 6] w fun e w' => e = .returned (.int .u64 (pw v 3 32)) ∧ ∃ n, w' = w.drewN n :=
  put43 6 v 3 32 w (by decide) (by decide) (by decide) (by decide) hv (hL.2 12 (by decide)) (hL.2 13 (by decide))
theorem put49_5 (v : Int) (w : World) (hL : Lay w) (hv : U64 v) : Calls Tryz.prog 84 #[.int .u8 v, .int .i64 5] w fun e w' => e = .returned (.int .u64 (pw v 0 3)) ∧ ∃ n, w' = w.drewN n :=
  put49 5 v 0 3 w (by decide) (by decide) (by decide) (by decide) hv (hL.2 10 (by decide)) (hL.2 11 (by decide))
end Go.Proofs.YtmjcbjcnmgleaaaGreatDoor
namespace Go.Proofs.YtmjcbjcnmgleaaaGreatDoor
open Go.RowKit
theorem below_drewN' {B : Nat} {a w : World} (h : Below B a w) (n : Nat) : Below B a (w.drewN n) := ⟨h.os, h.tape, h.output, h.size, h.block⟩
set_option maxHeartbeats 400000 in
theorem number_any (s : Int) (w : World) : Calls Tryz.prog 166 #[.int .i64 s] w fun e w' => e = .returned (.int .u64 (numS s)) ∧ w' = w := by
  by_cases h0 : s < 0
  · go_enter Tryz.func166, Tryz.ntmps166
    go_wp2
    go_ret
    exact ⟨ret_int (numS_no (by omega)).symm, rfl⟩
  · by_cases h1 : 256 ≤ s
    · go_enter Tryz.func166, Tryz.ntmps166
      go_wp2
      go_ret
      exact ⟨ret_int (numS_no (by omega)).symm, rfl⟩
    · have h2 : IntKind.u64.wrap s = s := wrap_of_u64 s (u64_small (by omega) (by omega))
      have h3 : IntKind.u64.wrap (s + 1) = s + 1 := wrap_of_u64 _ (u64_small (by omega) (by omega))
      go_enter Tryz.func166, Tryz.ntmps166
      go_wp2
      go_ret
      exact ⟨ret_int (numS_yes (by omega) (by omega)).symm, rfl⟩
set_option maxHeartbeats 400000 in
theorem asSlot_any (n : Int) (w : World) (h0 : 0 ≤ n) (h1 : n ≤ 65535) : Calls Tryz.prog 94 #[.int .i64 n] w fun e w' => e = .returned (.int .i64 (slotS n)) ∧ w' = w := by
  by_cases h : 256 < n
  · go_enter Tryz.func94, Tryz.ntmps94
    go_wp2
    go_ret
    exact ⟨ret_int (by unfold slotS; rw [if_pos h]), rfl⟩
  · go_enter Tryz.func94, Tryz.ntmps94
    go_wp2
    go_ret
    exact ⟨ret_int (by unfold slotS; rw [if_neg (by omega)]), rfl⟩
set_option maxHeartbeats 400000 in
theorem state_any (s : Int) (w : World) : Calls Tryz.prog 85 #[.int .u8 s] w fun e w' => e = .returned (.int .u8 (stS s)) ∧ w' = w := by
  by_cases h : 4 < s
  · go_enter Tryz.func85, Tryz.ntmps85
    go_wp2
    go_ret
    exact ⟨ret_int (by unfold stS; rw [if_pos h]), rfl⟩
  · go_enter Tryz.func85, Tryz.ntmps85
    go_wp2
    go_ret
    exact ⟨ret_int (by unfold stS; rw [if_neg (by omega)]), rfl⟩
theorem numS_u64 (s : Int) : U64 (numS s) := by have := numS_in s; exact u64_small (by omega) (by omega)
theorem fld16 (x : Int) : 0 ≤ fld x 0 16 ∧ fld x 0 16 ≤ 65535 := ⟨fld_nonneg x 0 16, by have := fld_lt x 0 16; omega⟩
set_option maxHeartbeats 1000000 in
theorem head_any (s t : Int) (w : World) (hL : Lay w) (ht : U64 t) : Calls Tryz.prog 154 #[.int .i64 s, .int .u64 t] w fun e w' => e = .returned (.int .u64 (headW s t)) ∧ ∃ n, w' = w.drewN n := by
  have H := Lib.hid hL
  have HT := Lib.hid ht
  clear hL ht
  go_enter Tryz.func154, Tryz.ntmps154
  go_wp2_with fail
  refine (number_any _ _).mono ?_
  rintro e w' ⟨rfl, rfl⟩
  go_wp2_with fail
  refine (put42_3 _ _ H.out (numS_u64 _)).mono ?_
  rintro e w' ⟨rfl, n, rfl⟩
  go_wp2_with fail
  refine (put42_4 _ _ (H.out.drewN _) HT.out).mono ?_
  rintro e w' ⟨rfl, n2, rfl⟩
  go_wp2_with fail
  go_ret
  exact ⟨ret_int (or_up _ _ 16 16 48 (numS_in s).1 HT.out.1 (by decide) (by decide)), _, rfl⟩
set_option maxHeartbeats 1000000 in
theorem asHead_any (x : Int) (w : World) (hL : Lay w) (hx : U64 x) : Calls Tryz.prog 59 #[.int .u64 x] w fun e w' => e = .returned (.tuple #[.int .i64 (wSlot x), .int .u64 (fld x 16 48)]) ∧ ∃ n, w' = w.drewN n := by
  have H := Lib.hid hL
  have HX := Lib.hid hx
  clear hL hx
  go_enter Tryz.func59, Tryz.ntmps59
  go_wp2_with fail
  refine (take36_3 _ _ H.out HX.out).mono ?_
  rintro e w' ⟨rfl, n, rfl⟩
  go_wp2_with fail
  refine (asSlot_any _ _ (fld16 x).1 (fld16 x).2).mono ?_
  rintro e w' ⟨rfl, rfl⟩
  go_wp2_with fail
  refine (take37_4 _ _ (H.out.drewN _) HX.out).mono ?_
  rintro e w' ⟨rfl, n2, rfl⟩
  go_wp2_with fail
  go_ret2
  exact ⟨rfl, _, rfl⟩
set_option maxHeartbeats 1000000 in
theorem asHeader_any (x : Int) (w : World) (hL : Lay w) (hx : U64 x) : Calls Tryz.prog 93 #[.int .u64 x] w fun e w' => e = .returned (.tuple #[.int .u8 (stS (fld x 0 3)), .int .u32 (fld x 3 32)]) ∧ ∃ n, w' = w.drewN n := by
  have H := Lib.hid hL
  have HX := Lib.hid hx
  clear hL hx
  go_enter Tryz.func93, Tryz.ntmps93
  go_wp2_with fail
  refine (take48_5 _ _ H.out HX.out).mono ?_
  rintro e w' ⟨rfl, n, rfl⟩
  go_wp2_with fail
  refine (state_any _ _).mono ?_
  rintro e w' ⟨rfl, rfl⟩
  go_wp2_with fail
  refine (take44_6 _ _ (H.out.drewN _) HX.out).mono ?_
  rintro e w' ⟨rfl, n2, rfl⟩
  go_wp2_with fail
  go_ret2
  exact ⟨rfl, _, rfl⟩
set_option maxHeartbeats 1000000 in
theorem header_any (s g : Int) (w : World) (hL : Lay w) (hs : 0 ≤ s) (hg : U64 g) : Calls Tryz.prog 49 #[.int .u8 s, .int .u32 g] w fun e w' => e = .returned (.int .u64 (headerW s g)) ∧ ∃ n, w' = w.drewN n := by
  have H := Lib.hid hL
  have HG := Lib.hid hg
  have hst : U64 (stS s) := by have := stS_in s hs; exact u64_small (by omega) (by omega)
  have HS := Lib.hid hst
  clear hL hg hst
  go_enter Tryz.func49, Tryz.ntmps49
  go_wp2_with fail
  refine (state_any _ _).mono ?_
  rintro e w' ⟨rfl, rfl⟩
  go_wp2_with fail
  refine (put49_5 _ _ H.out HS.out).mono ?_
  rintro e w' ⟨rfl, n, rfl⟩
  go_wp2_with fail
  refine (put43_6 _ _ (H.out.drewN _) HG.out).mono ?_
  rintro e w' ⟨rfl, n2, rfl⟩
  go_wp2_with fail
  go_ret
  exact ⟨ret_int (or_up _ _ 3 3 32 HS.out.1 HG.out.1 (by decide) (by decide)), _, rfl⟩
end Go.Proofs.YtmjcbjcnmgleaaaGreatDoor
namespace Go.Proofs.YtmjcbjcnmgleaaaGreatDoor
open Go
theorem q0 : (2 : Int) ^ 0 = 1 := by decide
theorem q1 : (2 : Int) ^ 1 = 2 := by decide
theorem q3 : (2 : Int) ^ 3 = 8 := by decide
theorem headerW_eq (s g : Int) (hs : 0 ≤ s) (hg : U32 g) : headerW s g = stS s + g * 8 := by
  have hn := stS_in s hs
  obtain ⟨hg0, hg1⟩ := hg
  unfold headerW pw
  rw [q3, q0, p32]
  omega
theorem headerW_u64 (s g : Int) (hs : 0 ≤ s) (hg : U32 g) : U64 (headerW s g) := by
  rw [headerW_eq s g hs hg]
  have := stS_in s hs
  obtain ⟨hg0, hg1⟩ := hg
  exact ⟨by omega, by omega⟩
end Go.Proofs.YtmjcbjcnmgleaaaGreatDoor
