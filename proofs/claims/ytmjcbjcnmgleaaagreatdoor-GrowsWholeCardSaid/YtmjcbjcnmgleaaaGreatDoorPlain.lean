/-
  Plain arithmetic of fields of words of 64 bits: no program is named here; no condition.
  What the words of chapter 1 are, as plain functions of numbers, and the arithmetic of their fields: no program is named here; no condition.
  The calls of take and put of package words, field by field: each gives back the field's arithmetic and only reads; condition: the table of fields reads as the program lays it.
  The calls of package words: each gives back the chapter's number, and changes nothing that was there; condition: the table of fields reads as the program lays it, and the arguments are numbers of their kinds.
  What is put together is taken apart as it was, and unlike refs and heads have unlike words: plain arithmetic; conditions: slots from -1 to 255, numbers of their kinds.
-/
import Derived.Laws.BitsAllLaws
import Derived.Test.YtmjcbjcnmgleaaaGreatDoorRows
import Derived.WalkKit
import Derived.WalkSpells
import Derived.WalkLawsBesides
import Derived.Deep.QuietTactic
import Derived.BigQuiet
import Derived.Lib.Hide
import Derived.Deep.RegionWith
namespace Go.Proofs.YtmjcbjcnmgleaaaGreatDoor
open Go

/-- The field of m bits from bit a on. -/
def fld (x : Int) (a m : Nat) : Int := x / 2 ^ a % 2 ^ m
/-- A value of m bits laid at bit a. -/
def pw (v : Int) (a m : Nat) : Int := v % 2 ^ m * 2 ^ a
def U64 (x : Int) : Prop := 0 ≤ x ∧ x < 18446744073709551616
def U32 (x : Int) : Prop := 0 ≤ x ∧ x < 4294967296
def U8 (x : Int) : Prop := 0 ≤ x ∧ x < 256
def I64 (x : Int) : Prop := -9223372036854775808 ≤ x ∧ x < 9223372036854775808

theorem two_pow_pos (m : Nat) : (0 : Int) < 2 ^ m := by
  have := Int.pow_pos (n := (2 : Int)) (m := m) (by decide); exact this
theorem two_pow_le {a b : Nat} (h : a ≤ b) : (2 : Int) ^ a ≤ 2 ^ b := by
  have := Nat.pow_le_pow_right (n := 2) (by decide) h
  exact_mod_cast this
theorem p64 : (2 : Int) ^ 64 = 18446744073709551616 := by decide
theorem p63 : (2 : Int) ^ 63 = 9223372036854775808 := by decide
theorem np63 : (2 : Nat) ^ 63 = 9223372036854775808 := by decide
theorem p62 : (2 : Int) ^ 62 = 4611686018427387904 := by decide
theorem p32 : (2 : Int) ^ 32 = 4294967296 := by decide
theorem p8 : (2 : Int) ^ 8 = 256 := by decide

theorem fld_nonneg (x : Int) (a m : Nat) : 0 ≤ fld x a m := Int.emod_nonneg _ (by have := two_pow_pos m; omega)
theorem fld_lt (x : Int) (a m : Nat) : fld x a m < 2 ^ m := Int.emod_lt_of_pos _ (two_pow_pos m)
theorem fld_u64 (x : Int) (a m : Nat) (h : m ≤ 64) : U64 (fld x a m) := ⟨fld_nonneg x a m, by have := fld_lt x a m; have := two_pow_le h; rw [p64] at this; omega⟩

theorem mask_val (m : Nat) (h : m ≤ 63) : IntKind.u64.wrap (IntKind.u64.wrap (2 ^ m) - 1) = 2 ^ m - 1 := by
  have h1 := two_pow_pos m
  have h2 := two_pow_le h
  rw [p63] at h2
  rw [IntKind.wrap_u64, IntKind.wrap_u64]
  omega

theorem pow_cast (m : Nat) : (2 : Int) ^ m = ((2 ^ m : Nat) : Int) := by norm_cast
theorem pred_cast (P : Nat) (h : 0 < P) : (P : Int) - 1 = ((P - 1 : Nat) : Int) := by omega
theorem pred_lt (P : Nat) (h : P ≤ 9223372036854775808) : P - 1 < 18446744073709551616 := by omega
theorem lt_cast (X : Nat) (h : (X : Int) < 18446744073709551616) : X < 18446744073709551616 := by omega
theorem and_val (x : Int) (m : Nat) (hx : U64 x) (h : m ≤ 63) : bits .and .u64 x (2 ^ m - 1) = x % 2 ^ m := by
  obtain ⟨h0, h1⟩ := hx
  obtain ⟨X, rfl⟩ := Int.eq_ofNat_of_zero_le h0
  have hp : (0 : Nat) < 2 ^ m := Nat.two_pow_pos m
  have hq : (2 : Nat) ^ m ≤ 9223372036854775808 := by
    have := Nat.pow_le_pow_right (n := 2) (by decide) h
    rwa [np63] at this
  rw [pow_cast, pred_cast _ hp, u64_and_nat X (2 ^ m - 1) (lt_cast X h1) (pred_lt _ hq), Nat.and_two_pow_sub_one_eq_mod]
  exact Int.natCast_emod _ _
theorem div_u64 (x : Int) (a : Nat) (hx : U64 x) : U64 (x / 2 ^ a) := by
  obtain ⟨h0, h1⟩ := hx
  have hp := two_pow_pos a
  exact ⟨Int.ediv_nonneg h0 (by omega), Int.lt_of_le_of_lt (Int.ediv_le_self _ h0) h1⟩
theorem take_val (x : Int) (a m : Nat) (hx : U64 x) (h : m ≤ 63) : bits .and .u64 (x / 2 ^ a) (2 ^ m - 1) = fld x a m :=
  and_val _ m (div_u64 x a hx) h
theorem pw_nonneg (v : Int) (a m : Nat) : 0 ≤ pw v a m := Int.mul_nonneg (Int.emod_nonneg _ (by have := two_pow_pos m; omega)) (Int.le_of_lt (two_pow_pos a))
theorem pw_lt (v : Int) (a m : Nat) : pw v a m < 2 ^ (a + m) := by
  have h := Int.emod_lt_of_pos v (two_pow_pos m)
  have := Int.mul_lt_mul_of_pos_right h (two_pow_pos a)
  rw [Int.pow_add, Int.mul_comm (2 ^ a)]
  exact this
theorem pw_u64 (v : Int) (a m : Nat) (ha : a + m ≤ 64) : U64 (pw v a m) := by
  have h1 := pw_lt v a m
  have h2 := two_pow_le ha
  rw [p64] at h2
  exact ⟨pw_nonneg v a m, Int.lt_of_lt_of_le h1 h2⟩
end Go.Proofs.YtmjcbjcnmgleaaaGreatDoor
namespace Go.Proofs.YtmjcbjcnmgleaaaGreatDoor
open Go

def numS (s : Int) : Int := if 0 ≤ s ∧ s < 256 then s + 1 else 0
def slotS (n : Int) : Int := if 256 < n then -1 else n - 1
def bitB (b : Bool) : Int := if b = true then 1 else 0
def stS (s : Int) : Int := if 4 < s then 4 else s
def phS (p : Int) : Int := if 3 < p then 0 else p

theorem numS_in (s : Int) : 0 ≤ numS s ∧ numS s ≤ 256 := by unfold numS; split <;> omega
theorem numS_yes {s : Int} (h0 : 0 ≤ s) (h1 : s < 256) : numS s = s + 1 := by unfold numS; rw [if_pos ⟨h0, h1⟩]
theorem numS_no {s : Int} (h : ¬ (0 ≤ s ∧ s < 256)) : numS s = 0 := by unfold numS; rw [if_neg h]
theorem bitB_in (b : Bool) : 0 ≤ bitB b ∧ bitB b ≤ 1 := by cases b <;> simp [bitB]
theorem stS_in (s : Int) (h : 0 ≤ s) : 0 ≤ stS s ∧ stS s ≤ 4 := by unfold stS; split <;> omega
theorem phS_in (s : Int) (h : 0 ≤ s) : 0 ≤ phS s ∧ phS s ≤ 3 := by unfold phS; split <;> omega
theorem u64_small {x : Int} (h0 : 0 ≤ x) (h1 : x < 4294967296) : U64 x := ⟨h0, by omega⟩

/-- The words. -/
def refW (s g : Int) (m : Bool) : Int := if numS s = 0 then pw (bitB m) 63 1 else pw (bitB m) 63 1 + pw (numS s) 0 16 + pw g 16 32
def headW (s t : Int) : Int := pw (numS s) 0 16 + pw t 16 48
def headerW (s g : Int) : Int := pw (stS s) 0 3 + pw g 3 32
def phaseW (p o n k : Int) : Int := pw (phS p) 0 3 + pw o 3 3 + pw n 6 3 + pw k 16 48
def blockW (j : Int) (c : Bool) : Int := pw j 0 32 + pw (bitB c) 32 1
/-- What a word says. -/
def wSlot (w : Int) : Int := slotS (fld w 0 16)
def wGen (w : Int) : Int := if 0 ≤ wSlot w then fld w 16 32 else 0
def wMark (w : Int) : Bool := fld w 63 1 != 0

theorem or_nat (i x y : Nat) (hx : x % 2 ^ i = 0) (hy : y < 2 ^ i) (h1 : x < 18446744073709551616) (h2 : y < 18446744073709551616) : bits .or .u64 (x : Int) (y : Int) = ((x + y : Nat) : Int) := by
  rw [u64_or_nat x y h1 h2, nat_join i x y hx hy]
theorem or_nat' (i x y : Nat) (hx : x % 2 ^ i = 0) (hy : y < 2 ^ i) (h1 : x < 18446744073709551616) (h2 : y < 18446744073709551616) : bits .or .u64 (y : Int) (x : Int) = ((y + x : Nat) : Int) := by
  rw [u64_or_nat y x h2 h1, Nat.or_comm, nat_join i x y hx hy, Nat.add_comm]
theorem or_mid (M N G : Nat) (hM : M % 2 ^ 48 = 0) (hG : G < 2 ^ 48) (hG' : G % 2 ^ 16 = 0) (hN : N < 2 ^ 16) (h1 : M < 18446744073709551616) :
    bits .or .u64 (bits .or .u64 (M : Int) (N : Int)) (G : Int) = ((M + N + G : Nat) : Int) := by
  have a1 : M ||| N < 2 ^ 64 := Nat.or_lt_two_pow (by omega) (by omega)
  have hj : (M + G) % 2 ^ 16 = 0 := by omega
  rw [u64_or_nat M N h1 (by omega), u64_or_nat (M ||| N) G a1 (by omega), Nat.or_assoc, Nat.or_comm N G, ← Nat.or_assoc, nat_join 48 M G hM hG, nat_join 16 (M + G) N hj hN]
  congr 1
  omega
theorem pwN (v a m : Nat) : pw (v : Int) a m = ((v % 2 ^ m * 2 ^ a : Nat) : Int) := by
  unfold pw
  rw [pow_cast, pow_cast]
  norm_cast
theorem nat_of {v : Int} (h : 0 ≤ v) : ∃ n : Nat, v = (n : Int) := Int.eq_ofNat_of_zero_le h

/-- Two fields that do not meet, the low one first. -/
theorem or_up (v u : Int) (m b n : Nat) (hv : 0 ≤ v) (hu : 0 ≤ u) (hb : m ≤ b) (hn : b + n ≤ 64) : bits .or .u64 (pw v 0 m) (pw u b n) = pw v 0 m + pw u b n := by
  obtain ⟨V, rfl⟩ := nat_of hv
  obtain ⟨U, rfl⟩ := nat_of hu
  have l1 := pw_u64 (V : Int) 0 m (by omega)
  have l2 := pw_u64 (U : Int) b n hn
  have l3 := pw_lt (V : Int) 0 m
  rw [pwN] at l1 l3
  rw [pwN] at l2
  rw [pwN, pwN]
  have e2 : V % 2 ^ m * 2 ^ 0 < 2 ^ b := by
    rw [Nat.pow_zero, Nat.mul_one]
    exact Nat.lt_of_lt_of_le (Nat.mod_lt _ (Nat.two_pow_pos m)) (Nat.pow_le_pow_right (by decide) hb)
  rw [or_nat' b _ _ (Nat.mul_mod_left _ _) e2 (lt_cast _ l2.2) (lt_cast _ l1.2)]
  norm_cast
theorem pw_max (u : Int) (b n : Nat) (hn : b + n ≤ 64) : pw u b n < 18446744073709551616 := (pw_u64 u b n hn).2
/-- A field laid above all that is there. -/
theorem or_on (x u : Int) (b n : Nat) (hx : U64 x) (hlt : x < 2 ^ b) (hu : 0 ≤ u) (hn : b + n ≤ 64) : bits .or .u64 x (pw u b n) = x + pw u b n := by
  obtain ⟨X, rfl⟩ := nat_of hx.1
  obtain ⟨U, rfl⟩ := nat_of hu
  have l2 := pw_u64 (U : Int) b n hn
  rw [pwN] at l2
  rw [pwN]
  rw [pow_cast] at hlt
  rw [or_nat' b _ _ (Nat.mul_mod_left _ _) (Int.ofNat_lt.1 hlt) (lt_cast _ l2.2) (lt_cast _ hx.2)]
  norm_cast
theorem ref_or (v n g : Int) (hv : 0 ≤ v) (hn : 0 ≤ n) (hg : 0 ≤ g) : bits .or .u64 (bits .or .u64 (pw v 63 1) (pw n 0 16)) (pw g 16 32) = pw v 63 1 + pw n 0 16 + pw g 16 32 := by
  obtain ⟨V, rfl⟩ := nat_of hv
  obtain ⟨N, rfl⟩ := nat_of hn
  obtain ⟨G, rfl⟩ := nat_of hg
  have l1 := pw_u64 (V : Int) 63 1 (by decide)
  rw [pwN] at l1
  rw [pwN, pwN, pwN]
  have e1 : V % 2 ^ 1 * 2 ^ 63 % 2 ^ 48 = 0 := by
    have e : V % 2 ^ 1 * 2 ^ 63 = (V % 2 ^ 1 * 2 ^ 15) * 2 ^ 48 := by rw [Nat.mul_assoc, ← Nat.pow_add]
    rw [e]
    exact Nat.mul_mod_left _ _
  have e2 : G % 2 ^ 32 * 2 ^ 16 < 2 ^ 48 := by
    have := Nat.mod_lt G (Nat.two_pow_pos 32)
    omega
  have e3 : N % 2 ^ 16 * 2 ^ 0 < 2 ^ 16 := by
    have := Nat.mod_lt N (Nat.two_pow_pos 16)
    omega
  rw [or_mid _ _ _ e1 e2 (Nat.mul_mod_left _ _) e3 (lt_cast _ l1.2)]
  norm_cast

/-- A word with its bit 63 set, and not. -/
def unmarkW (w : Int) : Int := w % 2 ^ 63
def markW (w : Int) : Int := w % 2 ^ 63 + 2 ^ 63
theorem pw_one : pw 1 63 1 = 9223372036854775808 := by decide
theorem mark_nat (W : Nat) (h : W < 18446744073709551616) : W ||| 9223372036854775808 = W % 9223372036854775808 + 9223372036854775808 := by
  have e : ∀ r : Nat, r < 9223372036854775808 → 9223372036854775808 ||| r = 9223372036854775808 + r := fun r hr => by
    have := nat_join 63 9223372036854775808 r (by decide) (by rw [np63]; exact hr)
    exact this
  by_cases hw : W < 9223372036854775808
  · rw [Nat.or_comm, e W hw, Nat.mod_eq_of_lt hw, Nat.add_comm]
  · obtain ⟨r, rfl⟩ : ∃ r, W = 9223372036854775808 + r := ⟨W - 9223372036854775808, by omega⟩
    have hr : r < 9223372036854775808 := by omega
    have a : (9223372036854775808 + r) ||| 9223372036854775808 = 9223372036854775808 + r := by rw [← e r hr, Nat.or_comm, ← Nat.or_assoc, Nat.or_self]
    rw [a]
    omega
theorem mark_or (w : Int) (hw : U64 w) : bits .or .u64 w (pw 1 63 1) = markW w := by
  obtain ⟨W, rfl⟩ := nat_of hw.1
  have hW := lt_cast W hw.2
  have e := u64_or_nat W 9223372036854775808 hW (by decide)
  unfold markW
  rw [pw_one, p63]
  rw [mark_nat W hW] at e
  exact e.trans (by omega)
theorem unmark_and (w : Int) (hw : U64 w) : bits .andNot .u64 w (pw 1 63 1) = unmarkW w := by
  obtain ⟨W, rfl⟩ := nat_of hw.1
  have hW := lt_cast W hw.2
  have e := u64_andNot_nat W 9223372036854775808 hW (by decide)
  have e2 : W &&& (18446744073709551615 - 9223372036854775808) = W % 9223372036854775808 := by
    have := Nat.and_two_pow_sub_one_eq_mod W 63
    rw [np63] at this
    exact this
  unfold unmarkW
  rw [pw_one, p63]
  rw [e2] at e
  exact e.trans (by omega)
theorem refW_u64 (s g : Int) (m : Bool) : U64 (refW s g m) := by
  unfold refW
  split
  · exact pw_u64 _ _ _ (by decide)
  · have h1 := Int.emod_lt_of_pos (bitB m) (two_pow_pos 1)
    have h2 := Int.emod_lt_of_pos (numS s) (two_pow_pos 16)
    have h3 := Int.emod_lt_of_pos g (two_pow_pos 32)
    have k1 := pw_nonneg (bitB m) 63 1
    have k2 := pw_nonneg (numS s) 0 16
    have k3 := pw_nonneg g 16 32
    refine ⟨by omega, ?_⟩
    unfold pw
    omega
theorem phase_or (p o m k : Int) (ho : 0 ≤ o) (hm : 0 ≤ m) (hk : 0 ≤ k) :
    bits .or .u64 (bits .or .u64 (bits .or .u64 (pw (phS p) 0 3) (pw o 3 3)) (pw m 6 3)) (pw k 16 48) = phaseW p o m k := by
  have b1 := pw_lt (phS p) 0 3
  have b2 := pw_lt o 3 3
  have b3 := pw_lt m 6 3
  have c1 := pw_nonneg (phS p) 0 3
  have c2 := pw_nonneg o 3 3
  have c3 := pw_nonneg m 6 3
  have e1 := or_on (pw (phS p) 0 3) o 3 3 (u64_small c1 (by omega)) (by omega) ho (by decide)
  have d2 : pw o 3 3 ≤ 56 := by unfold pw; omega
  have d3 : pw m 6 3 ≤ 448 := by unfold pw; omega
  have e2 := or_on (pw (phS p) 0 3 + pw o 3 3) m 6 3 (u64_small (by omega) (by omega)) (by omega) hm (by decide)
  have e3 := or_on (pw (phS p) 0 3 + pw o 3 3 + pw m 6 3) k 16 48 (u64_small (by omega) (by omega)) (by omega) hk (by decide)
  rw [e1, e2, e3]
  rfl
end Go.Proofs.YtmjcbjcnmgleaaaGreatDoor
namespace Go.Proofs.YtmjcbjcnmgleaaaGreatDoor
open Go.RowKit

/-- What the table of the fields' bits holds, cell by cell. -/
def tab (k : Nat) : Nat := [0, 16, 16, 32, 63, 1, 0, 16, 16, 48, 0, 3, 3, 32, 0, 3, 3, 3, 6, 3, 16, 48, 0, 32, 32, 1].getD k 0
/-- The table of fields lies in its block. -/
def Lay (w : World) : Prop := 1 < w.heap.size ∧ ∀ k : Nat, k < 26 → w.cell? ⟨1, k, none⟩ = some (.int .u8 ((tab k : Nat) : Int))
theorem Lay.drewN {w : World} (h : Lay w) (n : Nat) : Lay (w.drewN n) := h
theorem Lay.drew {w : World} (h : Lay w) : Lay w.drew := h
theorem Lay.below {w w' : World} (h : Lay w) (hb : Below w.heap.size w w') : Lay w' := ⟨Nat.lt_of_lt_of_le h.1 hb.size, fun k hk => (hb.cell (p := ⟨1, k, none⟩) h.1).trans (h.2 k hk)⟩
theorem Lay.alloc {w : World} (h : Lay w) (o : Obj) : Lay (w.alloc o) := h.below ((Below.refl _ _).alloc (Nat.le_refl _) o)
theorem Lay.setCell {w : World} (h : Lay w) (a : Addr) (ha : 1 < a.block) (u : Value) : Lay (w.setCell a u) :=
  ⟨by have := h.1; simpa [World.setCell] using this, fun k hk => (World.cell?_of_block (w := w) (a := ⟨1, k, none⟩) (Below.heap_setCell w a u 1 (by omega))).trans (h.2 k hk)⟩
theorem wrap_of_u64 (v : Int) (h : U64 v) : IntKind.u64.wrap v = v := by
  obtain ⟨h0, h1⟩ := h
  rw [IntKind.wrap_u64]
  omega
theorem ret_int {k : IntKind} {a b : Int} (h : a = b) : Ending.returned (.int k a) = .returned (.int k b) := by rw [h]

theorem take_i64 (x : Int) (a m : Nat) (hx : U64 x) (h : m ≤ 62) : wrap64 (bits .and .u64 (x / 2 ^ a) (2 ^ m - 1)) = fld x a m := by
  rw [take_val x a m hx (by omega)]
  have h0 := fld_nonneg x a m
  have h1 := fld_lt x a m
  have h2 := two_pow_le (show m ≤ 62 from h)
  rw [p62] at h2
  exact IntWalk.wrap64_in _ ⟨by omega, by omega⟩
theorem take_u32 (x : Int) (a m : Nat) (hx : U64 x) (h : m ≤ 32) : bits .and .u64 (x / 2 ^ a) (2 ^ m - 1) % 4294967296 = fld x a m := by
  rw [take_val x a m hx (by omega)]
  have h2 := two_pow_le h
  rw [p32] at h2
  exact Int.emod_eq_of_lt (fld_nonneg x a m) (Int.lt_of_lt_of_le (fld_lt x a m) h2)
theorem take_u8 (x : Int) (a m : Nat) (hx : U64 x) (h : m ≤ 8) : bits .and .u64 (x / 2 ^ a) (2 ^ m - 1) % 256 = fld x a m := by
  rw [take_val x a m hx (by omega)]
  have h2 := two_pow_le h
  rw [p8] at h2
  exact Int.emod_eq_of_lt (fld_nonneg x a m) (Int.lt_of_lt_of_le (fld_lt x a m) h2)
theorem put_u64 (v : Int) (a m : Nat) (hv : U64 v) (ha : a + m ≤ 64) (h : m ≤ 63) : IntKind.u64.wrap (bits .and .u64 v (2 ^ m - 1) * 2 ^ a) = pw v a m := by
  rw [and_val v m hv h]
  exact wrap_of_u64 _ (pw_u64 v a m ha)
theorem put_less (v : Int) (a m : Nat) (hv : U64 v) (ha : a + m ≤ 64) (h : m ≤ 63) : IntKind.u64.wrap (bits .and .u64 (IntKind.u64.wrap v) (2 ^ m - 1) * 2 ^ a) = pw v a m := by
  rw [wrap_of_u64 v hv]
  exact put_u64 v a m hv ha h

set_option maxHeartbeats 400000 in
theorem mask_any (f : Int) (m : Nat) (w : World) (hf0 : 0 ≤ f) (hf : f < 13) (hm : m ≤ 63) (hc : w.cell? ⟨1, f.toNat * 2 + 1, none⟩ = some (.int .u8 (m : Int))) :
    Calls Tryz.prog 120 #[.int .i64 f] w fun e w' => e = .returned (.int .u64 (2 ^ m - 1)) ∧ w' = w := by
  have hz : (0 : Int) ≤ (m : Int) := by omega
  go_enter Tryz.func120, Tryz.ntmps120
  go_wp2
  go_ret
  exact ⟨ret_int (by simpa using mask_val m hm), rfl⟩

set_option maxHeartbeats 400000 in
theorem take36 (f : Int) (x : Int) (a m : Nat) (w : World) (hf0 : 0 ≤ f) (hf : f < 13) (ha : a ≤ 63) (hm : m ≤ 62) (hx : U64 x) (hc : w.cell? ⟨1, f.toNat * 2, none⟩ = some (.int .u8 (a : Int)))
    (hd : w.cell? ⟨1, f.toNat * 2 + 1, none⟩ = some (.int .u8 (m : Int))) :
    Calls Tryz.prog 95 #[.int .u64 x, .int .i64 f] w fun e w' => e = .returned (.int .i64 (fld x a m)) ∧ ∃ n, w' = w.drewN n := by
  have hz : (0 : Int) ≤ (a : Int) := by omega
  go_enter Tryz.func95, Tryz.ntmps95
  go_wp2
  go_quiet ((go_at_call 120; exact Calls.quiet_of_same (mask_any f m _ hf0 hf (by omega) hd)))
  go_wp2
  go_ret
  exact ⟨ret_int (take_i64 x a m hx hm), nq, rfl⟩

set_option maxHeartbeats 400000 in
theorem take37 (f : Int) (x : Int) (a m : Nat) (w : World) (hf0 : 0 ≤ f) (hf : f < 13) (ha : a ≤ 63) (hm : m ≤ 63) (hx : U64 x) (hc : w.cell? ⟨1, f.toNat * 2, none⟩ = some (.int .u8 (a : Int)))
    (hd : w.cell? ⟨1, f.toNat * 2 + 1, none⟩ = some (.int .u8 (m : Int))) :
    Calls Tryz.prog 96 #[.int .u64 x, .int .i64 f] w fun e w' => e = .returned (.int .u64 (fld x a m)) ∧ ∃ n, w' = w.drewN n := by
  have hz : (0 : Int) ≤ (a : Int) := by omega
  go_enter Tryz.func96, Tryz.ntmps96
  go_wp2
  go_quiet ((go_at_call 120; exact Calls.quiet_of_same (mask_any f m _ hf0 hf (by omega) hd)))
  go_wp2
  go_ret
  exact ⟨ret_int (take_val x a m hx hm), nq, rfl⟩

set_option maxHeartbeats 400000 in
theorem take44 (f : Int) (x : Int) (a m : Nat) (w : World) (hf0 : 0 ≤ f) (hf : f < 13) (ha : a ≤ 63) (hm : m ≤ 32) (hx : U64 x) (hc : w.cell? ⟨1, f.toNat * 2, none⟩ = some (.int .u8 (a : Int)))
    (hd : w.cell? ⟨1, f.toNat * 2 + 1, none⟩ = some (.int .u8 (m : Int))) :
    Calls Tryz.prog 127 #[.int .u64 x, .int .i64 f] w fun e w' => e = .returned (.int .u32 (fld x a m)) ∧ ∃ n, w' = w.drewN n := by
  have hz : (0 : Int) ≤ (a : Int) := by omega
  go_enter Tryz.func127, Tryz.ntmps127
  go_wp2
  go_quiet ((go_at_call 120; exact Calls.quiet_of_same (mask_any f m _ hf0 hf (by omega) hd)))
  go_wp2
  go_ret
  exact ⟨ret_int (take_u32 x a m hx hm), nq, rfl⟩

set_option maxHeartbeats 400000 in
theorem take48 (f : Int) (x : Int) (a m : Nat) (w : World) (hf0 : 0 ≤ f) (hf : f < 13) (ha : a ≤ 63) (hm : m ≤ 8) (hx : U64 x) (hc : w.cell? ⟨1, f.toNat * 2, none⟩ = some (.int .u8 (a : Int)))
    (hd : w.cell? ⟨1, f.toNat * 2 + 1, none⟩ = some (.int .u8 (m : Int))) :
    Calls Tryz.prog 126 #[.int .u64 x, .int .i64 f] w fun e w' => e = .returned (.int .u8 (fld x a m)) ∧ ∃ n, w' = w.drewN n := by
  have hz : (0 : Int) ≤ (a : Int) := by omega
  go_enter Tryz.func126, Tryz.ntmps126
  go_wp2
  go_quiet ((go_at_call 120; exact Calls.quiet_of_same (mask_any f m _ hf0 hf (by omega) hd)))
  go_wp2
  go_ret
  exact ⟨ret_int (take_u8 x a m hx hm), nq, rfl⟩

set_option maxHeartbeats 400000 in
theorem put42 (f : Int) (v : Int) (a m : Nat) (w : World) (hf0 : 0 ≤ f) (hf : f < 13) (ha : a + m ≤ 64) (hm : m ≤ 63) (hv : U64 v) (hc : w.cell? ⟨1, f.toNat * 2, none⟩ = some (.int .u8 (a : Int)))
    (hd : w.cell? ⟨1, f.toNat * 2 + 1, none⟩ = some (.int .u8 (m : Int))) :
    Calls Tryz.prog 165 #[.int .u64 v, .int .i64 f] w fun e w' => e = .returned (.int .u64 (pw v a m)) ∧ ∃ n, w' = w.drewN n := by
  have hz : (0 : Int) ≤ (a : Int) := by omega
  go_enter Tryz.func165, Tryz.ntmps165
  go_wp2
  go_quiet ((go_at_call 120; exact Calls.quiet_of_same (mask_any f m _ hf0 hf (by omega) hd)))
  go_wp2
  go_ret
  exact ⟨ret_int (put_u64 v a m hv ha hm), nq, rfl⟩

set_option maxHeartbeats 400000 in
theorem put43 (f : Int) (v : Int) (a m : Nat) (w : World) (hf0 : 0 ≤ f) (hf : f < 13) (ha : a + m ≤ 64) (hm : m ≤ 63) (hv : U64 v) (hc : w.cell? ⟨1, f.toNat * 2, none⟩ = some (.int .u8 (a : Int)))
    (hd : w.cell? ⟨1, f.toNat * 2 + 1, none⟩ = some (.int .u8 (m : Int))) :
    Calls Tryz.prog 86 #[.int .u32 v, .int .i64 f] w fun e w' => e = .returned (.int .u64 (pw v a m)) ∧ ∃ n, w' = w.drewN n := by
  have hz : (0 : Int) ≤ (a : Int) := by omega
  go_enter Tryz.func86, Tryz.ntmps86
  go_wp2
  go_quiet ((go_at_call 120; exact Calls.quiet_of_same (mask_any f m _ hf0 hf (by omega) hd)))
  go_wp2
  go_ret
  exact ⟨ret_int (put_less v a m hv ha hm), nq, rfl⟩

set_option maxHeartbeats 400000 in
theorem put49 (f : Int) (v : Int) (a m : Nat) (w : World) (hf0 : 0 ≤ f) (hf : f < 13) (ha : a + m ≤ 64) (hm : m ≤ 63) (hv : U64 v) (hc : w.cell? ⟨1, f.toNat * 2, none⟩ = some (.int .u8 (a : Int)))
    (hd : w.cell? ⟨1, f.toNat * 2 + 1, none⟩ = some (.int .u8 (m : Int))) :
    Calls Tryz.prog 84 #[.int .u8 v, .int .i64 f] w fun e w' => e = .returned (.int .u64 (pw v a m)) ∧ ∃ n, w' = w.drewN n := by
  have hz : (0 : Int) ≤ (a : Int) := by omega
  go_enter Tryz.func84, Tryz.ntmps84
  go_wp2
  go_quiet ((go_at_call 120; exact Calls.quiet_of_same (mask_any f m _ hf0 hf (by omega) hd)))
  go_wp2
  go_ret
  exact ⟨ret_int (put_less v a m hv ha hm), nq, rfl⟩

theorem take36_0 (x : Int) (w : World) (hL : Lay w) (hx : U64 x) : Calls Tryz.prog 95 #[.int .u64 x, .int .i64 0] w fun e w' => e = .returned (.int .i64 (fld x 0 16)) ∧ ∃ n, w' = w.drewN n :=
  take36 0 x 0 16 w (by decide) (by decide) (by decide) (by decide) hx (hL.2 0 (by decide)) (hL.2 1 (by decide))
theorem take36_3 (x : Int) (w : World) (hL : Lay w) (hx : U64 x) : Calls Tryz.prog 95 #[.int .u64 x, .int .i64 3] w fun e w' => e = .returned (.int .i64 (fld x 0 16)) ∧ ∃ n, w' = w.drewN n :=
  take36 3 x 0 16 w (by decide) (by decide) (by decide) (by decide) hx (hL.2 6 (by decide)) (hL.2 7 (by decide))
theorem take37_4 (x : Int) (w : World) (hL : Lay w) (hx : U64 x) : Calls Tryz.prog 96 #[.int .u64 x, .int .i64 4] w fun e w' => e = .returned (.int .u64 (fld x 16 48)) ∧ ∃ n, w' = w.drewN n :=
  take37 4 x 16 48 w (by decide) (by decide) (by decide) (by decide) hx (hL.2 8 (by decide)) (hL.2 9 (by decide))
theorem take37_10 (x : Int) (w : World) (hL : Lay w) (hx : U64 x) : Calls Tryz.prog 96 #[.int .u64 x, .int .i64 10] w fun e w' => e = .returned (.int .u64 (fld x 16 48)) ∧ ∃ n, w' = w.drewN n :=
  take37 10 x 16 48 w (by decide) (by decide) (by decide) (by decide) hx (hL.2 20 (by decide)) (hL.2 21 (by decide))
theorem take44_1 (x : Int) (w : World) (hL : Lay w) (hx : U64 x) : Calls Tryz.prog 127 #[.int .u64 x, .int .i64 1] w fun e w' => e = .returned (.int .u32 (fld x 16 32)) ∧ ∃ n, w' = w.drewN n :=
  take44 1 x 16 32 w (by decide) (by decide) (by decide) (by decide) hx (hL.2 2 (by decide)) (hL.2 3 (by decide))
theorem take44_6 (x : Int) (w : World) (hL : Lay w) (hx : U64 x) : Calls Tryz.prog 127 #[.int .u64 x, .int .i64 6] w fun e w' => e = .returned (.int .u32 (fld x 3 32)) ∧ ∃ n, w' = w.drewN n :=
  take44 6 x 3 32 w (by decide) (by decide) (by decide) (by decide) hx (hL.2 12 (by decide)) (hL.2 13 (by decide))
theorem take44_11 (x : Int) (w : World) (hL : Lay w) (hx : U64 x) : Calls Tryz.prog 127 #[.int .u64 x, .int .i64 11] w fun e w' => e = .returned (.int .u32 (fld x 0 32)) ∧ ∃ n, w' = w.drewN n :=
  take44 11 x 0 32 w (by decide) (by decide) (by decide) (by decide) hx (hL.2 22 (by decide)) (hL.2 23 (by decide))
theorem take48_5 (x : Int) (w : World) (hL : Lay w) (hx : U64 x) : Calls Tryz.prog 126 #[.int .u64 x, .int .i64 5] w fun e w' => e = .returned (.int .u8 (fld x 0 3)) ∧ ∃ n, w' = w.drewN n :=
  take48 5 x 0 3 w (by decide) (by decide) (by decide) (by decide) hx (hL.2 10 (by decide)) (hL.2 11 (by decide))
theorem put42_0 (v : Int) (w : World) (hL : Lay w) (hv : U64 v) : Calls Tryz.prog 165 #[.int .u64 v, .int .i64 0] w fun e w' => e = .returned (.int .u64 (pw v 0 16)) ∧ ∃ n, w' = w.drewN n :=
  put42 0 v 0 16 w (by decide) (by decide) (by decide) (by decide) hv (hL.2 0 (by decide)) (hL.2 1 (by decide))
theorem put42_3 (v : Int) (w : World) (hL : Lay w) (hv : U64 v) : Calls Tryz.prog 165 #[.int .u64 v, .int .i64 3] w fun e w' => e = .returned (.int .u64 (pw v 0 16)) ∧ ∃ n, w' = w.drewN n :=
  put42 3 v 0 16 w (by decide) (by decide) (by decide) (by decide) hv (hL.2 6 (by decide)) (hL.2 7 (by decide))
theorem put42_4 (v : Int) (w : World) (hL : Lay w) (hv : U64 v) : Calls Tryz.prog 165 #[.int .u64 v, .int .i64 4] w fun e w' => e = .returned (.int .u64 (pw v 16 48)) ∧ ∃ n, w' = w.drewN n :=
  put42 4 v 16 48 w (by decide) (by decide) (by decide) (by decide) hv (hL.2 8 (by decide)) (hL.2 9 (by decide))
theorem put42_10 (v : Int) (w : World) (hL : Lay w) (hv : U64 v) : Calls Tryz.prog 165 #[.int .u64 v, .int .i64 10] w fun e w' => e = .returned (.int .u64 (pw v 16 48)) ∧ ∃ n, w' = w.drewN n :=
  put42 10 v 16 48 w (by decide) (by decide) (by decide) (by decide) hv (hL.2 20 (by decide)) (hL.2 21 (by decide))
theorem put43_1 (v : Int) (w : World) (hL : Lay w) (hv : U64 v) : Calls Tryz.prog 86 #[.int .u32 v, .int .i64 1] w fun e w' => e = .returned (.int .u64 (pw v 16 32)) ∧ ∃ n, w' = w.drewN n :=
  put43 1 v 16 32 w (by decide) (by decide) (by decide) (by decide) hv (hL.2 2 (by decide)) (hL.2 3 (by decide))
theorem put43_6 (v : Int) (w : World) (hL : Lay w) (hv : U64 v) : Calls Tryz.prog 86 #[.int .u32 v, .int .i64 6] w fun e w' => e = .returned (.int .u64 (pw v 3 32)) ∧ ∃ n, w' = w.drewN n :=
  put43 6 v 3 32 w (by decide) (by decide) (by decide) (by decide) hv (hL.2 12 (by decide)) (hL.2 13 (by decide))
theorem put43_11 (v : Int) (w : World) (hL : Lay w) (hv : U64 v) : Calls Tryz.prog 86 #[.int .u32 v, .int .i64 11] w fun e w' => e = .returned (.int .u64 (pw v 0 32)) ∧ ∃ n, w' = w.drewN n :=
  put43 11 v 0 32 w (by decide) (by decide) (by decide) (by decide) hv (hL.2 22 (by decide)) (hL.2 23 (by decide))
theorem put49_5 (v : Int) (w : World) (hL : Lay w) (hv : U64 v) : Calls Tryz.prog 84 #[.int .u8 v, .int .i64 5] w fun e w' => e = .returned (.int .u64 (pw v 0 3)) ∧ ∃ n, w' = w.drewN n :=
  put49 5 v 0 3 w (by decide) (by decide) (by decide) (by decide) hv (hL.2 10 (by decide)) (hL.2 11 (by decide))
end Go.Proofs.YtmjcbjcnmgleaaaGreatDoor
namespace Go.Proofs.YtmjcbjcnmgleaaaGreatDoor
open Go.RowKit

theorem below_drewN' {B : Nat} {a w : World} (h : Below B a w) (n : Nat) : Below B a (w.drewN n) := ⟨h.os, h.tape, h.output, h.size, h.block⟩

/-- A quiet call in a region whose world has drawn before. -/
theorem quiet_more {P : Program} {f : FuncId} {args : Array Value} {w : World} {i j : Nat} {v : Value}
    (h : Calls P f args (w.drewN (i + j)) fun e w1 => e = .returned v ∧ ∃ m, w1 = (w.drewN (i + j)).drewN m) :
    Calls P f args (w.drewN (i + j)) fun e w1 => e = .returned v ∧ ∃ m, w1 = w.drewN (i + m) := by
  refine h.mono fun e w1 hh => ?_
  obtain ⟨he, m, rfl⟩ := hh
  exact ⟨he, j + m, by rw [World.drewN_drewN, Nat.add_assoc]⟩

set_option maxHeartbeats 400000 in
theorem number_any (s : Int) (w : World) : Calls Tryz.prog 166 #[.int .i64 s] w fun e w' => e = .returned (.int .u64 (numS s)) ∧ w' = w := by
  by_cases h0 : s < 0
  · go_enter Tryz.func166, Tryz.ntmps166
    go_wp2
    go_ret
    exact ⟨ret_int (numS_no (by omega)).symm, rfl⟩
  · by_cases h1 : 256 ≤ s
    · go_enter Tryz.func166, Tryz.ntmps166
      go_wp2
      go_ret
      exact ⟨ret_int (numS_no (by omega)).symm, rfl⟩
    · have h2 : IntKind.u64.wrap s = s := wrap_of_u64 s (u64_small (by omega) (by omega))
      have h3 : IntKind.u64.wrap (s + 1) = s + 1 := wrap_of_u64 _ (u64_small (by omega) (by omega))
      go_enter Tryz.func166, Tryz.ntmps166
      go_wp2
      go_ret
      exact ⟨ret_int (numS_yes (by omega) (by omega)).symm, rfl⟩

set_option maxHeartbeats 400000 in
theorem asSlot_any (n : Int) (w : World) (h0 : 0 ≤ n) (h1 : n ≤ 65535) : Calls Tryz.prog 94 #[.int .i64 n] w fun e w' => e = .returned (.int .i64 (slotS n)) ∧ w' = w := by
  by_cases h : 256 < n
  · go_enter Tryz.func94, Tryz.ntmps94
    go_wp2
    go_ret
    exact ⟨ret_int (by unfold slotS; rw [if_pos h]), rfl⟩
  · go_enter Tryz.func94, Tryz.ntmps94
    go_wp2
    go_ret
    exact ⟨ret_int (by unfold slotS; rw [if_neg (by omega)]), rfl⟩

set_option maxHeartbeats 400000 in
theorem state_any (s : Int) (w : World) : Calls Tryz.prog 85 #[.int .u8 s] w fun e w' => e = .returned (.int .u8 (stS s)) ∧ w' = w := by
  by_cases h : 4 < s
  · go_enter Tryz.func85, Tryz.ntmps85
    go_wp2
    go_ret
    exact ⟨ret_int (by unfold stS; rw [if_pos h]), rfl⟩
  · go_enter Tryz.func85, Tryz.ntmps85
    go_wp2
    go_ret
    exact ⟨ret_int (by unfold stS; rw [if_neg (by omega)]), rfl⟩

theorem bitB_u64 (b : Bool) : U64 (bitB b) := by have := bitB_in b; exact u64_small (by omega) (by omega)
theorem numS_u64 (s : Int) : U64 (numS s) := by have := numS_in s; exact u64_small (by omega) (by omega)

theorem fld16 (x : Int) : 0 ≤ fld x 0 16 ∧ fld x 0 16 ≤ 65535 := ⟨fld_nonneg x 0 16, by have := fld_lt x 0 16; omega⟩
theorem fldU (x : Int) (a m : Nat) (h : m ≤ 32) : U64 (fld x a m) := fld_u64 x a m (by omega)

set_option maxHeartbeats 1000000 in
theorem head_any (s t : Int) (w : World) (hL : Lay w) (ht : U64 t) : Calls Tryz.prog 154 #[.int .i64 s, .int .u64 t] w fun e w' => e = .returned (.int .u64 (headW s t)) ∧ ∃ n, w' = w.drewN n := by
  have H := Lib.hid hL
  have HT := Lib.hid ht
  clear hL ht
  go_enter Tryz.func154, Tryz.ntmps154
  go_wp2_with fail
  refine (number_any _ _).mono ?_
  rintro e w' ⟨rfl, rfl⟩
  go_wp2_with fail
  refine (put42_3 _ _ H.out (numS_u64 _)).mono ?_
  rintro e w' ⟨rfl, n, rfl⟩
  go_wp2_with fail
  refine (put42_4 _ _ (H.out.drewN _) HT.out).mono ?_
  rintro e w' ⟨rfl, n2, rfl⟩
  go_wp2_with fail
  go_ret
  exact ⟨ret_int (or_up _ _ 16 16 48 (numS_in s).1 HT.out.1 (by decide) (by decide)), _, rfl⟩

set_option maxHeartbeats 1000000 in
theorem asHead_any (x : Int) (w : World) (hL : Lay w) (hx : U64 x) : Calls Tryz.prog 59 #[.int .u64 x] w fun e w' => e = .returned (.tuple #[.int .i64 (wSlot x), .int .u64 (fld x 16 48)]) ∧ ∃ n, w' = w.drewN n := by
  have H := Lib.hid hL
  have HX := Lib.hid hx
  clear hL hx
  go_enter Tryz.func59, Tryz.ntmps59
  go_wp2_with fail
  refine (take36_3 _ _ H.out HX.out).mono ?_
  rintro e w' ⟨rfl, n, rfl⟩
  go_wp2_with fail
  refine (asSlot_any _ _ (fld16 x).1 (fld16 x).2).mono ?_
  rintro e w' ⟨rfl, rfl⟩
  go_wp2_with fail
  refine (take37_4 _ _ (H.out.drewN _) HX.out).mono ?_
  rintro e w' ⟨rfl, n2, rfl⟩
  go_wp2_with fail
  go_ret2
  exact ⟨rfl, _, rfl⟩

set_option maxHeartbeats 1000000 in
theorem asHeader_any (x : Int) (w : World) (hL : Lay w) (hx : U64 x) : Calls Tryz.prog 93 #[.int .u64 x] w fun e w' => e = .returned (.tuple #[.int .u8 (stS (fld x 0 3)), .int .u32 (fld x 3 32)]) ∧ ∃ n, w' = w.drewN n := by
  have H := Lib.hid hL
  have HX := Lib.hid hx
  clear hL hx
  go_enter Tryz.func93, Tryz.ntmps93
  go_wp2_with fail
  refine (take48_5 _ _ H.out HX.out).mono ?_
  rintro e w' ⟨rfl, n, rfl⟩
  go_wp2_with fail
  refine (state_any _ _).mono ?_
  rintro e w' ⟨rfl, rfl⟩
  go_wp2_with fail
  refine (take44_6 _ _ (H.out.drewN _) HX.out).mono ?_
  rintro e w' ⟨rfl, n2, rfl⟩
  go_wp2_with fail
  go_ret2
  exact ⟨rfl, _, rfl⟩

set_option maxHeartbeats 1000000 in
theorem header_any (s g : Int) (w : World) (hL : Lay w) (hs : 0 ≤ s) (hg : U64 g) : Calls Tryz.prog 49 #[.int .u8 s, .int .u32 g] w fun e w' => e = .returned (.int .u64 (headerW s g)) ∧ ∃ n, w' = w.drewN n := by
  have H := Lib.hid hL
  have HG := Lib.hid hg
  have hst : U64 (stS s) := by have := stS_in s hs; exact u64_small (by omega) (by omega)
  have HS := Lib.hid hst
  clear hL hg hst
  go_enter Tryz.func49, Tryz.ntmps49
  go_wp2_with fail
  refine (state_any _ _).mono ?_
  rintro e w' ⟨rfl, rfl⟩
  go_wp2_with fail
  refine (put49_5 _ _ H.out HS.out).mono ?_
  rintro e w' ⟨rfl, n, rfl⟩
  go_wp2_with fail
  refine (put43_6 _ _ (H.out.drewN _) HG.out).mono ?_
  rintro e w' ⟨rfl, n2, rfl⟩
  go_wp2_with fail
  go_ret
  exact ⟨ret_int (or_up _ _ 3 3 32 HS.out.1 HG.out.1 (by decide) (by decide)), _, rfl⟩

end Go.Proofs.YtmjcbjcnmgleaaaGreatDoor
namespace Go.Proofs.YtmjcbjcnmgleaaaGreatDoor
open Go

theorem fld_lit (x : Int) (a m : Nat) (A M : Int) (ha : (2 : Int) ^ a = A) (hm : (2 : Int) ^ m = M) : fld x a m = x / A % M := by
  unfold fld
  rw [ha, hm]
theorem q0 : (2 : Int) ^ 0 = 1 := by decide
theorem q1 : (2 : Int) ^ 1 = 2 := by decide
theorem q3 : (2 : Int) ^ 3 = 8 := by decide
theorem q6 : (2 : Int) ^ 6 = 64 := by decide
theorem q16 : (2 : Int) ^ 16 = 65536 := by decide
theorem q48 : (2 : Int) ^ 48 = 281474976710656 := by decide

theorem refW_eq (s g : Int) (m : Bool) (h0 : 0 ≤ s) (h1 : s < 256) (hg : U32 g) : refW s g m = bitB m * 9223372036854775808 + (s + 1) + g * 65536 := by
  have hb := bitB_in m
  obtain ⟨hg0, hg1⟩ := hg
  unfold refW
  rw [numS_yes h0 h1, if_neg (by omega)]
  unfold pw
  rw [p63, q1, q16, p32, q0]
  omega
theorem refW_eq_none (g : Int) (m : Bool) : refW (-1) g m = bitB m * 9223372036854775808 := by
  have hb := bitB_in m
  unfold refW
  rw [numS_no (by omega), if_pos rfl]
  unfold pw
  rw [p63, q1]
  omega
theorem bit_back (m : Bool) : (bitB m != 0) = m := by cases m <;> rfl

theorem ref_back (s g : Int) (m : Bool) (h0 : 0 ≤ s) (h1 : s < 256) (hg : U32 g) : wSlot (refW s g m) = s ∧ wGen (refW s g m) = g ∧ wMark (refW s g m) = m := by
  have hb := bitB_in m
  have e := refW_eq s g m h0 h1 hg
  obtain ⟨hg0, hg1⟩ := hg
  have f1 : fld (refW s g m) 0 16 = s + 1 := by rw [fld_lit _ 0 16 _ _ q0 q16, e]; omega
  have f2 : fld (refW s g m) 16 32 = g := by rw [fld_lit _ 16 32 _ _ q16 p32, e]; omega
  have f3 : fld (refW s g m) 63 1 = bitB m := by rw [fld_lit _ 63 1 _ _ p63 q1, e]; omega
  have hs : wSlot (refW s g m) = s := by unfold wSlot slotS; rw [f1, if_neg (by omega)]; omega
  exact ⟨hs, by unfold wGen; rw [hs, if_pos h0, f2], by unfold wMark; rw [f3, bit_back]⟩
theorem ref_back_none (g : Int) (m : Bool) : wSlot (refW (-1) g m) = -1 ∧ wGen (refW (-1) g m) = 0 ∧ wMark (refW (-1) g m) = m := by
  have hb := bitB_in m
  have e := refW_eq_none g m
  have f1 : fld (refW (-1) g m) 0 16 = 0 := by rw [fld_lit _ 0 16 _ _ q0 q16, e]; omega
  have f3 : fld (refW (-1) g m) 63 1 = bitB m := by rw [fld_lit _ 63 1 _ _ p63 q1, e]; omega
  have hs : wSlot (refW (-1) g m) = -1 := by unfold wSlot slotS; rw [f1, if_neg (by omega)]; omega
  exact ⟨hs, by unfold wGen; rw [hs, if_neg (by omega)], by unfold wMark; rw [f3, bit_back]⟩
theorem ref_back_all (s g : Int) (m : Bool) (h0 : -1 ≤ s) (h1 : s < 256) (hg : U32 g) (hn : s = -1 → g = 0) : wSlot (refW s g m) = s ∧ wGen (refW s g m) = g ∧ wMark (refW s g m) = m := by
  by_cases h : s = -1
  · obtain rfl := h
    obtain rfl := hn rfl
    exact ref_back_none 0 m
  · exact ref_back s g m (by omega) h1 hg

theorem headW_eq (s t : Int) : headW s t = numS s + t % 281474976710656 * 65536 := by
  have hn := numS_in s
  unfold headW pw
  rw [q16, q0, q48]
  omega
theorem head_slot (s t : Int) (h0 : -1 ≤ s) (h1 : s < 256) : wSlot (headW s t) = s := by
  have e := headW_eq s t
  have hn := numS_in s
  have f1 : fld (headW s t) 0 16 = numS s := by rw [fld_lit _ 0 16 _ _ q0 q16, e]; omega
  unfold wSlot slotS
  rw [f1]
  unfold numS
  split <;> split <;> omega
theorem head_tag (s t : Int) : fld (headW s t) 16 48 = t % 281474976710656 := by
  have e := headW_eq s t
  have hn := numS_in s
  rw [fld_lit _ 16 48 _ _ q16 q48, e]
  omega

theorem headerW_eq (s g : Int) (hs : 0 ≤ s) (hg : U32 g) : headerW s g = stS s + g * 8 := by
  have hn := stS_in s hs
  obtain ⟨hg0, hg1⟩ := hg
  unfold headerW pw
  rw [q3, q0, p32]
  omega
theorem header_back (s g : Int) (hs : 0 ≤ s) (hg : U32 g) : fld (headerW s g) 0 3 = stS s ∧ fld (headerW s g) 3 32 = g := by
  have hn := stS_in s hs
  have e := headerW_eq s g hs hg
  obtain ⟨hg0, hg1⟩ := hg
  exact ⟨by rw [fld_lit _ 0 3 _ _ q0 q3, e]; omega, by rw [fld_lit _ 3 32 _ _ q3 p32, e]; omega⟩
theorem stS_small {s : Int} (h : s ≤ 4) : stS s = s := if_neg (by omega)
theorem stS_stS (s : Int) : stS (stS s) = stS s := by
  by_cases h : 4 < s
  · have e : stS s = 4 := if_pos h
    rw [e]
    rfl
  · have e : stS s = s := if_neg h
    rw [e, e]

theorem block_back (j : Int) (c : Bool) (hj : U32 j) : fld (blockW j c) 0 32 = j ∧ (fld (blockW j c) 32 1 != 0) = c := by
  have hb := bitB_in c
  obtain ⟨h0, h1⟩ := hj
  have e : blockW j c = j + bitB c * 4294967296 := by
    unfold blockW pw
    rw [p32, q0, q1]
    omega
  refine ⟨by rw [fld_lit _ 0 32 _ _ q0 p32, e]; omega, ?_⟩
  have f : fld (blockW j c) 32 1 = bitB c := by rw [fld_lit _ 32 1 _ _ p32 q1, e]; omega
  rw [f, bit_back]

theorem phase_back (p o m k : Int) (hp0 : 0 ≤ p) (hp : p ≤ 3) (ho0 : 0 ≤ o) (ho : o < 8) (hm0 : 0 ≤ m) (hm : m < 8) (hk0 : 0 ≤ k) (hk : k < 281474976710656) :
    phS (fld (phaseW p o m k) 0 3) = p ∧ fld (phaseW p o m k) 3 3 = o ∧ fld (phaseW p o m k) 6 3 = m ∧ fld (phaseW p o m k) 16 48 = k := by
  have e : phaseW p o m k = p + o * 8 + m * 64 + k * 65536 := by
    unfold phaseW phS pw
    rw [if_neg (by omega), q3, q0, q6, q16, q48]
    omega
  have f0 : fld (phaseW p o m k) 0 3 = p := by rw [fld_lit _ 0 3 _ _ q0 q3, e]; omega
  refine ⟨by rw [f0]; exact if_neg (by omega), ?_, ?_, ?_⟩
  · rw [fld_lit _ 3 3 _ _ q3 q3, e]; omega
  · rw [fld_lit _ 6 3 _ _ q6 q3, e]; omega
  · rw [fld_lit _ 16 48 _ _ q16 q48, e]; omega

theorem tag_low (t : Int) (ht : U64 t) : IntKind.u64.wrap (t * 65536) / 65536 = t % 281474976710656 := by
  obtain ⟨h0, h1⟩ := ht
  rw [IntKind.wrap_u64]
  omega
theorem tag_eq (t u : Int) (ht : U64 t) (hu : U64 u) : IntKind.u64.wrap (t * 65536) = IntKind.u64.wrap (u * 65536) ↔ t % 281474976710656 = u % 281474976710656 := by
  obtain ⟨h0, h1⟩ := ht
  obtain ⟨h2, h3⟩ := hu
  rw [IntKind.wrap_u64, IntKind.wrap_u64]
  omega
theorem head_same (s t u : Int) (ht : U64 t) (hu : U64 u) (h : (IntKind.u64.wrap (t * 65536) == IntKind.u64.wrap (u * 65536)) = true) : (headW s t == headW s u) = true := by
  have e := (tag_eq t u ht hu).1 (by simpa using h)
  rw [beq_iff_eq, headW_eq, headW_eq, e]
theorem head_other (s t u : Int) (ht : U64 t) (hu : U64 u) (h : (IntKind.u64.wrap (t * 65536) == IntKind.u64.wrap (u * 65536)) = false) : (headW s t == headW s u) = false := by
  rw [beq_eq_false_iff_ne] at h ⊢
  intro e
  refine h ((tag_eq t u ht hu).2 ?_)
  rw [← head_tag s t, ← head_tag s u, e]
theorem head_slots (s z t u : Int) (h0 : -1 ≤ s) (h1 : s < 256) (h2 : -1 ≤ z) (h3 : z < 256) (h : (s == z) = false) : (headW s t == headW z u) = false := by
  rw [beq_eq_false_iff_ne] at h ⊢
  intro e
  refine h ?_
  rw [← head_slot s t h0 h1, ← head_slot z u h2 h3, e]
/-- Slots that are unlike. -/
theorem ref_slots (s z g y : Int) (m n : Bool) (h0 : -1 ≤ s) (h1 : s < 256) (h2 : -1 ≤ z) (h3 : z < 256) (hg : U32 g) (hy : U32 y) (h : (s == z) = false) : (refW s g m == refW z y n) = false := by
  have k : ∀ (s g : Int) (m : Bool), -1 ≤ s → s < 256 → U32 g → wSlot (refW s g m) = s := fun s g m h0 h1 hg => by
    by_cases e : s = -1
    · obtain rfl := e
      exact (ref_back_none g m).1
    · exact (ref_back s g m (by omega) h1 hg).1
  rw [beq_eq_false_iff_ne] at h ⊢
  intro e
  refine h ?_
  rw [← k s g m h0 h1 hg, ← k z y n h2 h3 hy, e]
theorem ref_gens (s g y : Int) (m n : Bool) (h0 : 0 ≤ s) (h1 : s < 256) (hg : U32 g) (hy : U32 y) (h : (g == y) = false) : (refW s g m == refW s y n) = false := by
  rw [beq_eq_false_iff_ne] at h ⊢
  intro e
  refine h ?_
  rw [← (ref_back s g m h0 h1 hg).2.1, ← (ref_back s y n h0 h1 hy).2.1, e]
theorem ref_marks (s g : Int) (m n : Bool) (h0 : 0 ≤ s) (h1 : s < 256) (hg : U32 g) (h : (m == n) = false) : (refW s g m == refW s g n) = false := by
  rw [beq_eq_false_iff_ne] at h ⊢
  intro e
  refine h ?_
  rw [← (ref_back s g m h0 h1 hg).2.2, ← (ref_back s g n h0 h1 hg).2.2, e]
theorem ref_marks_none (g : Int) (m n : Bool) (h : (m == n) = false) : (refW (-1) g m == refW (-1) g n) = false := by
  rw [beq_eq_false_iff_ne] at h ⊢
  intro e
  refine h ?_
  rw [← (ref_back_none g m).2.2, ← (ref_back_none g n).2.2, e]

theorem wSlot_in (x : Int) : -1 ≤ wSlot x ∧ wSlot x < 256 := by
  have h := fld_nonneg x 0 16
  unfold wSlot slotS
  split <;> omega
theorem wGen_u32 (x : Int) : U32 (wGen x) := by
  have h := fld_nonneg x 16 32
  have h2 := fld_lt x 16 32
  rw [p32] at h2
  unfold wGen
  split
  · exact ⟨h, h2⟩
  · exact ⟨by decide, by decide⟩
theorem wGen_none {x : Int} (h : wSlot x = -1) : wGen x = 0 := by
  unfold wGen
  rw [h]
  rfl
theorem mark_parts (x : Int) (hx : U64 x) : wSlot (markW x) = wSlot x ∧ wGen (markW x) = wGen x ∧ wMark (markW x) = true := by
  obtain ⟨h0, h1⟩ := hx
  have f1 : fld (markW x) 0 16 = fld x 0 16 := by rw [fld_lit _ 0 16 _ _ q0 q16, fld_lit _ 0 16 _ _ q0 q16]; unfold markW; rw [p63]; omega
  have f2 : fld (markW x) 16 32 = fld x 16 32 := by rw [fld_lit _ 16 32 _ _ q16 p32, fld_lit _ 16 32 _ _ q16 p32]; unfold markW; rw [p63]; omega
  have f3 : fld (markW x) 63 1 = 1 := by rw [fld_lit _ 63 1 _ _ p63 q1]; unfold markW; rw [p63]; omega
  have hs : wSlot (markW x) = wSlot x := by unfold wSlot; rw [f1]
  exact ⟨hs, by unfold wGen; rw [hs, f2], by unfold wMark; rw [f3]; rfl⟩
theorem unmark_parts (x : Int) (hx : U64 x) : wSlot (unmarkW x) = wSlot x ∧ wGen (unmarkW x) = wGen x ∧ wMark (unmarkW x) = false := by
  obtain ⟨h0, h1⟩ := hx
  have f1 : fld (unmarkW x) 0 16 = fld x 0 16 := by rw [fld_lit _ 0 16 _ _ q0 q16, fld_lit _ 0 16 _ _ q0 q16]; unfold unmarkW; rw [p63]; omega
  have f2 : fld (unmarkW x) 16 32 = fld x 16 32 := by rw [fld_lit _ 16 32 _ _ q16 p32, fld_lit _ 16 32 _ _ q16 p32]; unfold unmarkW; rw [p63]; omega
  have f3 : fld (unmarkW x) 63 1 = 0 := by rw [fld_lit _ 63 1 _ _ p63 q1]; unfold unmarkW; rw [p63]; omega
  have hs : wSlot (unmarkW x) = wSlot x := by unfold wSlot; rw [f1]
  exact ⟨hs, by unfold wGen; rw [hs, f2], by unfold wMark; rw [f3]; rfl⟩
theorem markW_u64 (x : Int) : U64 (markW x) := by unfold markW; rw [p63]; exact ⟨by omega, by omega⟩
theorem unmarkW_u64 (x : Int) : U64 (unmarkW x) := by unfold unmarkW; rw [p63]; exact ⟨by omega, by omega⟩
theorem mark_unmark (x : Int) : markW (unmarkW x) = markW x := by unfold markW unmarkW; rw [p63]; omega
theorem unmark_mark (x : Int) : unmarkW (markW x) = unmarkW x := by unfold markW unmarkW; rw [p63]; omega
theorem mark_or_unmark (x : Int) (hx : U64 x) : markW x = x ∨ unmarkW x = x := by
  obtain ⟨h0, h1⟩ := hx
  unfold markW unmarkW
  rw [p63]
  omega
theorem headW_u64 (s t : Int) : U64 (headW s t) := by rw [headW_eq]; have := numS_in s; exact ⟨by omega, by omega⟩
theorem headerW_u64 (s g : Int) (hs : 0 ≤ s) (hg : U32 g) : U64 (headerW s g) := by
  rw [headerW_eq s g hs hg]
  have := stS_in s hs
  obtain ⟨hg0, hg1⟩ := hg
  exact ⟨by omega, by omega⟩
theorem blockW_u64 (j : Int) (c : Bool) : U64 (blockW j c) := by
  unfold blockW pw
  rw [p32, q0, q1]
  exact ⟨by omega, by omega⟩
theorem phaseW_u64 (p o m k : Int) : U64 (phaseW p o m k) := by
  unfold phaseW pw
  rw [q3, q0, q6, q16, q48]
  exact ⟨by omega, by omega⟩
end Go.Proofs.YtmjcbjcnmgleaaaGreatDoor
