/-
  The calls of take and put of package words, field by field: each gives back the field's arithmetic and only reads; condition: the table of fields reads as the program lays it.
  The calls of package words: each gives back the chapter's number, and changes nothing that was there; condition: the table of fields reads as the program lays it, and the arguments are numbers of their kinds.
-/
import Derived.Test.YtjpanofkikfeoaaGreatDoorRows
import Derived.Test.YtjpanofkikfeoaaGreatDoorPlain
import Derived.WalkKit
import Derived.WalkSpells
import Derived.WalkLawsBesides
import Derived.Deep.QuietTactic
import Derived.BigQuiet
import Derived.Lib.Hide
import Derived.Test.YtjpanofkikfeoaaGreatDoorSpec
import Derived.Deep.RegionWith
namespace Go.Proofs.YtjpanofkikfeoaaGreatDoor
open Go.RowKit

/-- What the table of the fields' bits holds, cell by cell. -/
def tab (k : Nat) : Nat := [0, 16, 16, 32, 63, 1, 0, 16, 16, 48, 0, 3, 3, 32, 0, 3, 3, 3, 6, 3, 16, 48, 0, 32, 32, 1].getD k 0
/-- The table of fields lies in its block. -/
def Lay (w : World) : Prop := 1 < w.heap.size ∧ ∀ k : Nat, k < 26 → w.cell? ⟨1, k, none⟩ = some (.int .u8 ((tab k : Nat) : Int))
theorem Lay.drewN {w : World} (h : Lay w) (n : Nat) : Lay (w.drewN n) := h
theorem Lay.drew {w : World} (h : Lay w) : Lay w.drew := h
theorem Lay.below {w w' : World} (h : Lay w) (hb : Below w.heap.size w w') : Lay w' := ⟨Nat.lt_of_lt_of_le h.1 hb.size, fun k hk => (hb.cell (p := ⟨1, k, none⟩) h.1).trans (h.2 k hk)⟩
theorem Lay.alloc {w : World} (h : Lay w) (o : Obj) : Lay (w.alloc o) := h.below ((Below.refl _ _).alloc (Nat.le_refl _) o)
theorem Lay.setCell {w : World} (h : Lay w) (a : Addr) (ha : 1 < a.block) (u : Value) : Lay (w.setCell a u) :=
  ⟨by have := h.1; simpa [World.setCell] using this, fun k hk => (World.cell?_of_block (w := w) (a := ⟨1, k, none⟩) (Below.heap_setCell w a u 1 (by omega))).trans (h.2 k hk)⟩
theorem wrap_of_u64 (v : Int) (h : U64 v) : IntKind.u64.wrap v = v := by
  obtain ⟨h0, h1⟩ := h
  rw [IntKind.wrap_u64]
  omega
theorem ret_int {k : IntKind} {a b : Int} (h : a = b) : Ending.returned (.int k a) = .returned (.int k b) := by rw [h]

theorem take_i64 (x : Int) (a m : Nat) (hx : U64 x) (h : m ≤ 62) : wrap64 (bits .and .u64 (x / 2 ^ a) (2 ^ m - 1)) = fld x a m := by
  rw [take_val x a m hx (by omega)]
  have h0 := fld_nonneg x a m
  have h1 := fld_lt x a m
  have h2 := two_pow_le (show m ≤ 62 from h)
  rw [p62] at h2
  exact IntWalk.wrap64_in _ ⟨by omega, by omega⟩
theorem take_u32 (x : Int) (a m : Nat) (hx : U64 x) (h : m ≤ 32) : bits .and .u64 (x / 2 ^ a) (2 ^ m - 1) % 4294967296 = fld x a m := by
  rw [take_val x a m hx (by omega)]
  have h2 := two_pow_le h
  rw [p32] at h2
  exact Int.emod_eq_of_lt (fld_nonneg x a m) (Int.lt_of_lt_of_le (fld_lt x a m) h2)
theorem take_u8 (x : Int) (a m : Nat) (hx : U64 x) (h : m ≤ 8) : bits .and .u64 (x / 2 ^ a) (2 ^ m - 1) % 256 = fld x a m := by
  rw [take_val x a m hx (by omega)]
  have h2 := two_pow_le h
  rw [p8] at h2
  exact Int.emod_eq_of_lt (fld_nonneg x a m) (Int.lt_of_lt_of_le (fld_lt x a m) h2)
theorem put_u64 (v : Int) (a m : Nat) (hv : U64 v) (ha : a + m ≤ 64) (h : m ≤ 63) : IntKind.u64.wrap (bits .and .u64 v (2 ^ m - 1) * 2 ^ a) = pw v a m := by
  rw [and_val v m hv h]
  exact wrap_of_u64 _ (pw_u64 v a m ha)
theorem put_less (v : Int) (a m : Nat) (hv : U64 v) (ha : a + m ≤ 64) (h : m ≤ 63) : IntKind.u64.wrap (bits .and .u64 (IntKind.u64.wrap v) (2 ^ m - 1) * 2 ^ a) = pw v a m := by
  rw [wrap_of_u64 v hv]
  exact put_u64 v a m hv ha h

set_option maxHeartbeats 400000 in
theorem mask_any (f : Int) (m : Nat) (w : World) (hf0 : 0 ≤ f) (hf : f < 13) (hm : m ≤ 63) (hc : w.cell? ⟨1, f.toNat * 2 + 1, none⟩ = some (.int .u8 (m : Int))) :
    Calls Tryz.prog 76 #[.int .i64 f] w fun e w' => e = .returned (.int .u64 (2 ^ m - 1)) ∧ w' = w := by
  have hz : (0 : Int) ≤ (m : Int) := by omega
  go_enter Tryz.func76, Tryz.ntmps76
  go_wp2
  go_ret
  exact ⟨ret_int (by simpa using mask_val m hm), rfl⟩

set_option maxHeartbeats 400000 in
theorem take36 (f : Int) (x : Int) (a m : Nat) (w : World) (hf0 : 0 ≤ f) (hf : f < 13) (ha : a ≤ 63) (hm : m ≤ 62) (hx : U64 x) (hc : w.cell? ⟨1, f.toNat * 2, none⟩ = some (.int .u8 (a : Int)))
    (hd : w.cell? ⟨1, f.toNat * 2 + 1, none⟩ = some (.int .u8 (m : Int))) :
    Calls Tryz.prog 95 #[.int .u64 x, .int .i64 f] w fun e w' => e = .returned (.int .i64 (fld x a m)) ∧ ∃ n, w' = w.drewN n := by
  have hz : (0 : Int) ≤ (a : Int) := by omega
  go_enter Tryz.func95, Tryz.ntmps95
  go_wp2
  go_quiet ((go_at_call 76; exact Calls.quiet_of_same (mask_any f m _ hf0 hf (by omega) hd)))
  go_wp2
  go_ret
  exact ⟨ret_int (take_i64 x a m hx hm), nq, rfl⟩

set_option maxHeartbeats 400000 in
theorem take37 (f : Int) (x : Int) (a m : Nat) (w : World) (hf0 : 0 ≤ f) (hf : f < 13) (ha : a ≤ 63) (hm : m ≤ 63) (hx : U64 x) (hc : w.cell? ⟨1, f.toNat * 2, none⟩ = some (.int .u8 (a : Int)))
    (hd : w.cell? ⟨1, f.toNat * 2 + 1, none⟩ = some (.int .u8 (m : Int))) :
    Calls Tryz.prog 96 #[.int .u64 x, .int .i64 f] w fun e w' => e = .returned (.int .u64 (fld x a m)) ∧ ∃ n, w' = w.drewN n := by
  have hz : (0 : Int) ≤ (a : Int) := by omega
  go_enter Tryz.func96, Tryz.ntmps96
  go_wp2
  go_quiet ((go_at_call 76; exact Calls.quiet_of_same (mask_any f m _ hf0 hf (by omega) hd)))
  go_wp2
  go_ret
  exact ⟨ret_int (take_val x a m hx hm), nq, rfl⟩

set_option maxHeartbeats 400000 in
theorem take44 (f : Int) (x : Int) (a m : Nat) (w : World) (hf0 : 0 ≤ f) (hf : f < 13) (ha : a ≤ 63) (hm : m ≤ 32) (hx : U64 x) (hc : w.cell? ⟨1, f.toNat * 2, none⟩ = some (.int .u8 (a : Int)))
    (hd : w.cell? ⟨1, f.toNat * 2 + 1, none⟩ = some (.int .u8 (m : Int))) :
    Calls Tryz.prog 100 #[.int .u64 x, .int .i64 f] w fun e w' => e = .returned (.int .u32 (fld x a m)) ∧ ∃ n, w' = w.drewN n := by
  have hz : (0 : Int) ≤ (a : Int) := by omega
  go_enter Tryz.func100, Tryz.ntmps100
  go_wp2
  go_quiet ((go_at_call 76; exact Calls.quiet_of_same (mask_any f m _ hf0 hf (by omega) hd)))
  go_wp2
  go_ret
  exact ⟨ret_int (take_u32 x a m hx hm), nq, rfl⟩

set_option maxHeartbeats 400000 in
theorem take48 (f : Int) (x : Int) (a m : Nat) (w : World) (hf0 : 0 ≤ f) (hf : f < 13) (ha : a ≤ 63) (hm : m ≤ 8) (hx : U64 x) (hc : w.cell? ⟨1, f.toNat * 2, none⟩ = some (.int .u8 (a : Int)))
    (hd : w.cell? ⟨1, f.toNat * 2 + 1, none⟩ = some (.int .u8 (m : Int))) :
    Calls Tryz.prog 99 #[.int .u64 x, .int .i64 f] w fun e w' => e = .returned (.int .u8 (fld x a m)) ∧ ∃ n, w' = w.drewN n := by
  have hz : (0 : Int) ≤ (a : Int) := by omega
  go_enter Tryz.func99, Tryz.ntmps99
  go_wp2
  go_quiet ((go_at_call 76; exact Calls.quiet_of_same (mask_any f m _ hf0 hf (by omega) hd)))
  go_wp2
  go_ret
  exact ⟨ret_int (take_u8 x a m hx hm), nq, rfl⟩

set_option maxHeartbeats 400000 in
theorem put42 (f : Int) (v : Int) (a m : Nat) (w : World) (hf0 : 0 ≤ f) (hf : f < 13) (ha : a + m ≤ 64) (hm : m ≤ 63) (hv : U64 v) (hc : w.cell? ⟨1, f.toNat * 2, none⟩ = some (.int .u8 (a : Int)))
    (hd : w.cell? ⟨1, f.toNat * 2 + 1, none⟩ = some (.int .u8 (m : Int))) :
    Calls Tryz.prog 97 #[.int .u64 v, .int .i64 f] w fun e w' => e = .returned (.int .u64 (pw v a m)) ∧ ∃ n, w' = w.drewN n := by
  have hz : (0 : Int) ≤ (a : Int) := by omega
  go_enter Tryz.func97, Tryz.ntmps97
  go_wp2
  go_quiet ((go_at_call 76; exact Calls.quiet_of_same (mask_any f m _ hf0 hf (by omega) hd)))
  go_wp2
  go_ret
  exact ⟨ret_int (put_u64 v a m hv ha hm), nq, rfl⟩

set_option maxHeartbeats 400000 in
theorem put43 (f : Int) (v : Int) (a m : Nat) (w : World) (hf0 : 0 ≤ f) (hf : f < 13) (ha : a + m ≤ 64) (hm : m ≤ 63) (hv : U64 v) (hc : w.cell? ⟨1, f.toNat * 2, none⟩ = some (.int .u8 (a : Int)))
    (hd : w.cell? ⟨1, f.toNat * 2 + 1, none⟩ = some (.int .u8 (m : Int))) :
    Calls Tryz.prog 57 #[.int .u32 v, .int .i64 f] w fun e w' => e = .returned (.int .u64 (pw v a m)) ∧ ∃ n, w' = w.drewN n := by
  have hz : (0 : Int) ≤ (a : Int) := by omega
  go_enter Tryz.func57, Tryz.ntmps57
  go_wp2
  go_quiet ((go_at_call 76; exact Calls.quiet_of_same (mask_any f m _ hf0 hf (by omega) hd)))
  go_wp2
  go_ret
  exact ⟨ret_int (put_less v a m hv ha hm), nq, rfl⟩

set_option maxHeartbeats 400000 in
theorem put49 (f : Int) (v : Int) (a m : Nat) (w : World) (hf0 : 0 ≤ f) (hf : f < 13) (ha : a + m ≤ 64) (hm : m ≤ 63) (hv : U64 v) (hc : w.cell? ⟨1, f.toNat * 2, none⟩ = some (.int .u8 (a : Int)))
    (hd : w.cell? ⟨1, f.toNat * 2 + 1, none⟩ = some (.int .u8 (m : Int))) :
    Calls Tryz.prog 55 #[.int .u8 v, .int .i64 f] w fun e w' => e = .returned (.int .u64 (pw v a m)) ∧ ∃ n, w' = w.drewN n := by
  have hz : (0 : Int) ≤ (a : Int) := by omega
  go_enter Tryz.func55, Tryz.ntmps55
  go_wp2
  go_quiet ((go_at_call 76; exact Calls.quiet_of_same (mask_any f m _ hf0 hf (by omega) hd)))
  go_wp2
  go_ret
  exact ⟨ret_int (put_less v a m hv ha hm), nq, rfl⟩

theorem take36_0 (x : Int) (w : World) (hL : Lay w) (hx : U64 x) : Calls Tryz.prog 95 #[.int .u64 x, .int .i64 0] w fun e w' => e = .returned (.int .i64 (fld x 0 16)) ∧ ∃ n, w' = w.drewN n :=
  take36 0 x 0 16 w (by decide) (by decide) (by decide) (by decide) hx (hL.2 0 (by decide)) (hL.2 1 (by decide))
theorem take36_3 (x : Int) (w : World) (hL : Lay w) (hx : U64 x) : Calls Tryz.prog 95 #[.int .u64 x, .int .i64 3] w fun e w' => e = .returned (.int .i64 (fld x 0 16)) ∧ ∃ n, w' = w.drewN n :=
  take36 3 x 0 16 w (by decide) (by decide) (by decide) (by decide) hx (hL.2 6 (by decide)) (hL.2 7 (by decide))
theorem take37_4 (x : Int) (w : World) (hL : Lay w) (hx : U64 x) : Calls Tryz.prog 96 #[.int .u64 x, .int .i64 4] w fun e w' => e = .returned (.int .u64 (fld x 16 48)) ∧ ∃ n, w' = w.drewN n :=
  take37 4 x 16 48 w (by decide) (by decide) (by decide) (by decide) hx (hL.2 8 (by decide)) (hL.2 9 (by decide))
theorem take37_10 (x : Int) (w : World) (hL : Lay w) (hx : U64 x) : Calls Tryz.prog 96 #[.int .u64 x, .int .i64 10] w fun e w' => e = .returned (.int .u64 (fld x 16 48)) ∧ ∃ n, w' = w.drewN n :=
  take37 10 x 16 48 w (by decide) (by decide) (by decide) (by decide) hx (hL.2 20 (by decide)) (hL.2 21 (by decide))
theorem take44_1 (x : Int) (w : World) (hL : Lay w) (hx : U64 x) : Calls Tryz.prog 100 #[.int .u64 x, .int .i64 1] w fun e w' => e = .returned (.int .u32 (fld x 16 32)) ∧ ∃ n, w' = w.drewN n :=
  take44 1 x 16 32 w (by decide) (by decide) (by decide) (by decide) hx (hL.2 2 (by decide)) (hL.2 3 (by decide))
theorem take44_6 (x : Int) (w : World) (hL : Lay w) (hx : U64 x) : Calls Tryz.prog 100 #[.int .u64 x, .int .i64 6] w fun e w' => e = .returned (.int .u32 (fld x 3 32)) ∧ ∃ n, w' = w.drewN n :=
  take44 6 x 3 32 w (by decide) (by decide) (by decide) (by decide) hx (hL.2 12 (by decide)) (hL.2 13 (by decide))
theorem take44_11 (x : Int) (w : World) (hL : Lay w) (hx : U64 x) : Calls Tryz.prog 100 #[.int .u64 x, .int .i64 11] w fun e w' => e = .returned (.int .u32 (fld x 0 32)) ∧ ∃ n, w' = w.drewN n :=
  take44 11 x 0 32 w (by decide) (by decide) (by decide) (by decide) hx (hL.2 22 (by decide)) (hL.2 23 (by decide))
theorem take48_5 (x : Int) (w : World) (hL : Lay w) (hx : U64 x) : Calls Tryz.prog 99 #[.int .u64 x, .int .i64 5] w fun e w' => e = .returned (.int .u8 (fld x 0 3)) ∧ ∃ n, w' = w.drewN n :=
  take48 5 x 0 3 w (by decide) (by decide) (by decide) (by decide) hx (hL.2 10 (by decide)) (hL.2 11 (by decide))
theorem put42_0 (v : Int) (w : World) (hL : Lay w) (hv : U64 v) : Calls Tryz.prog 97 #[.int .u64 v, .int .i64 0] w fun e w' => e = .returned (.int .u64 (pw v 0 16)) ∧ ∃ n, w' = w.drewN n :=
  put42 0 v 0 16 w (by decide) (by decide) (by decide) (by decide) hv (hL.2 0 (by decide)) (hL.2 1 (by decide))
theorem put42_3 (v : Int) (w : World) (hL : Lay w) (hv : U64 v) : Calls Tryz.prog 97 #[.int .u64 v, .int .i64 3] w fun e w' => e = .returned (.int .u64 (pw v 0 16)) ∧ ∃ n, w' = w.drewN n :=
  put42 3 v 0 16 w (by decide) (by decide) (by decide) (by decide) hv (hL.2 6 (by decide)) (hL.2 7 (by decide))
theorem put42_4 (v : Int) (w : World) (hL : Lay w) (hv : U64 v) : Calls Tryz.prog 97 #[.int .u64 v, .int .i64 4] w fun e w' => e = .returned (.int .u64 (pw v 16 48)) ∧ ∃ n, w' = w.drewN n :=
  put42 4 v 16 48 w (by decide) (by decide) (by decide) (by decide) hv (hL.2 8 (by decide)) (hL.2 9 (by decide))
theorem put42_10 (v : Int) (w : World) (hL : Lay w) (hv : U64 v) : Calls Tryz.prog 97 #[.int .u64 v, .int .i64 10] w fun e w' => e = .returned (.int .u64 (pw v 16 48)) ∧ ∃ n, w' = w.drewN n :=
  put42 10 v 16 48 w (by decide) (by decide) (by decide) (by decide) hv (hL.2 20 (by decide)) (hL.2 21 (by decide))
theorem put43_1 (v : Int) (w : World) (hL : Lay w) (hv : U64 v) : Calls Tryz.prog 57 #[.int .u32 v, .int .i64 1] w fun e w' => e = .returned (.int .u64 (pw v 16 32)) ∧ ∃ n, w' = w.drewN n :=
  put43 1 v 16 32 w (by decide) (by decide) (by decide) (by decide) hv (hL.2 2 (by decide)) (hL.2 3 (by decide))
theorem put43_6 (v : Int) (w : World) (hL : Lay w) (hv : U64 v) : Calls Tryz.prog 57 #[.int .u32 v, .int .i64 6] w fun e w' => e = .returned (.int .u64 (pw v 3 32)) ∧ ∃ n, w' = w.drewN n :=
  put43 6 v 3 32 w (by decide) (by decide) (by decide) (by decide) hv (hL.2 12 (by decide)) (hL.2 13 (by decide))
theorem put43_11 (v : Int) (w : World) (hL : Lay w) (hv : U64 v) : Calls Tryz.prog 57 #[.int .u32 v, .int .i64 11] w fun e w' => e = .returned (.int .u64 (pw v 0 32)) ∧ ∃ n, w' = w.drewN n :=
  put43 11 v 0 32 w (by decide) (by decide) (by decide) (by decide) hv (hL.2 22 (by decide)) (hL.2 23 (by decide))
theorem put49_5 (v : Int) (w : World) (hL : Lay w) (hv : U64 v) : Calls Tryz.prog 55 #[.int .u8 v, .int .i64 5] w fun e w' => e = .returned (.int .u64 (pw v 0 3)) ∧ ∃ n, w' = w.drewN n :=
  put49 5 v 0 3 w (by decide) (by decide) (by decide) (by decide) hv (hL.2 10 (by decide)) (hL.2 11 (by decide))
end Go.Proofs.YtjpanofkikfeoaaGreatDoor
namespace Go.Proofs.YtjpanofkikfeoaaGreatDoor
open Go.RowKit

theorem below_drewN' {B : Nat} {a w : World} (h : Below B a w) (n : Nat) : Below B a (w.drewN n) := ⟨h.os, h.tape, h.output, h.size, h.block⟩

/-- A quiet call in a region whose world has drawn before. -/
theorem quiet_more {P : Program} {f : FuncId} {args : Array Value} {w : World} {i j : Nat} {v : Value}
    (h : Calls P f args (w.drewN (i + j)) fun e w1 => e = .returned v ∧ ∃ m, w1 = (w.drewN (i + j)).drewN m) :
    Calls P f args (w.drewN (i + j)) fun e w1 => e = .returned v ∧ ∃ m, w1 = w.drewN (i + m) := by
  refine h.mono fun e w1 hh => ?_
  obtain ⟨he, m, rfl⟩ := hh
  exact ⟨he, j + m, by rw [World.drewN_drewN, Nat.add_assoc]⟩

set_option maxHeartbeats 400000 in
theorem number_any (s : Int) (w : World) : Calls Tryz.prog 98 #[.int .i64 s] w fun e w' => e = .returned (.int .u64 (numS s)) ∧ w' = w := by
  by_cases h0 : s < 0
  · go_enter Tryz.func98, Tryz.ntmps98
    go_wp2
    go_ret
    exact ⟨ret_int (numS_no (by omega)).symm, rfl⟩
  · by_cases h1 : 256 ≤ s
    · go_enter Tryz.func98, Tryz.ntmps98
      go_wp2
      go_ret
      exact ⟨ret_int (numS_no (by omega)).symm, rfl⟩
    · have h2 : IntKind.u64.wrap s = s := wrap_of_u64 s (u64_small (by omega) (by omega))
      have h3 : IntKind.u64.wrap (s + 1) = s + 1 := wrap_of_u64 _ (u64_small (by omega) (by omega))
      go_enter Tryz.func98, Tryz.ntmps98
      go_wp2
      go_ret
      exact ⟨ret_int (numS_yes (by omega) (by omega)).symm, rfl⟩

set_option maxHeartbeats 400000 in
theorem asSlot_any (n : Int) (w : World) (h0 : 0 ≤ n) (h1 : n ≤ 65535) : Calls Tryz.prog 94 #[.int .i64 n] w fun e w' => e = .returned (.int .i64 (slotS n)) ∧ w' = w := by
  by_cases h : 256 < n
  · go_enter Tryz.func94, Tryz.ntmps94
    go_wp2
    go_ret
    exact ⟨ret_int (by unfold slotS; rw [if_pos h]), rfl⟩
  · go_enter Tryz.func94, Tryz.ntmps94
    go_wp2
    go_ret
    exact ⟨ret_int (by unfold slotS; rw [if_neg (by omega)]), rfl⟩

set_option maxHeartbeats 400000 in
theorem state_any (s : Int) (w : World) : Calls Tryz.prog 56 #[.int .u8 s] w fun e w' => e = .returned (.int .u8 (stS s)) ∧ w' = w := by
  by_cases h : 4 < s
  · go_enter Tryz.func56, Tryz.ntmps56
    go_wp2
    go_ret
    exact ⟨ret_int (by unfold stS; rw [if_pos h]), rfl⟩
  · go_enter Tryz.func56, Tryz.ntmps56
    go_wp2
    go_ret
    exact ⟨ret_int (by unfold stS; rw [if_neg (by omega)]), rfl⟩

theorem bitB_u64 (b : Bool) : U64 (bitB b) := by have := bitB_in b; exact u64_small (by omega) (by omega)
theorem numS_u64 (s : Int) : U64 (numS s) := by have := numS_in s; exact u64_small (by omega) (by omega)

theorem fld16 (x : Int) : 0 ≤ fld x 0 16 ∧ fld x 0 16 ≤ 65535 := ⟨fld_nonneg x 0 16, by have := fld_lt x 0 16; omega⟩
theorem fldU (x : Int) (a m : Nat) (h : m ≤ 32) : U64 (fld x a m) := fld_u64 x a m (by omega)

set_option maxHeartbeats 1000000 in
theorem head_any (s t : Int) (w : World) (hL : Lay w) (ht : U64 t) : Calls Tryz.prog 82 #[.int .i64 s, .int .u64 t] w fun e w' => e = .returned (.int .u64 (headW s t)) ∧ ∃ n, w' = w.drewN n := by
  have H := Lib.hid hL
  have HT := Lib.hid ht
  clear hL ht
  go_enter Tryz.func82, Tryz.ntmps82
  go_wp2_with fail
  refine (number_any _ _).mono ?_
  rintro e w' ⟨rfl, rfl⟩
  go_wp2_with fail
  refine (put42_3 _ _ H.out (numS_u64 _)).mono ?_
  rintro e w' ⟨rfl, n, rfl⟩
  go_wp2_with fail
  refine (put42_4 _ _ (H.out.drewN _) HT.out).mono ?_
  rintro e w' ⟨rfl, n2, rfl⟩
  go_wp2_with fail
  go_ret
  exact ⟨ret_int (or_up _ _ 16 16 48 (numS_in s).1 HT.out.1 (by decide) (by decide)), _, rfl⟩

set_option maxHeartbeats 1000000 in
theorem asHead_any (x : Int) (w : World) (hL : Lay w) (hx : U64 x) : Calls Tryz.prog 80 #[.int .u64 x] w fun e w' => e = .returned (.tuple #[.int .i64 (wSlot x), .int .u64 (fld x 16 48)]) ∧ ∃ n, w' = w.drewN n := by
  have H := Lib.hid hL
  have HX := Lib.hid hx
  clear hL hx
  go_enter Tryz.func80, Tryz.ntmps80
  go_wp2_with fail
  refine (take36_3 _ _ H.out HX.out).mono ?_
  rintro e w' ⟨rfl, n, rfl⟩
  go_wp2_with fail
  refine (asSlot_any _ _ (fld16 x).1 (fld16 x).2).mono ?_
  rintro e w' ⟨rfl, rfl⟩
  go_wp2_with fail
  refine (take37_4 _ _ (H.out.drewN _) HX.out).mono ?_
  rintro e w' ⟨rfl, n2, rfl⟩
  go_wp2_with fail
  go_ret2
  exact ⟨rfl, _, rfl⟩

set_option maxHeartbeats 1000000 in
theorem asHeader_any (x : Int) (w : World) (hL : Lay w) (hx : U64 x) : Calls Tryz.prog 84 #[.int .u64 x] w fun e w' => e = .returned (.tuple #[.int .u8 (stS (fld x 0 3)), .int .u32 (fld x 3 32)]) ∧ ∃ n, w' = w.drewN n := by
  have H := Lib.hid hL
  have HX := Lib.hid hx
  clear hL hx
  go_enter Tryz.func84, Tryz.ntmps84
  go_wp2_with fail
  refine (take48_5 _ _ H.out HX.out).mono ?_
  rintro e w' ⟨rfl, n, rfl⟩
  go_wp2_with fail
  refine (state_any _ _).mono ?_
  rintro e w' ⟨rfl, rfl⟩
  go_wp2_with fail
  refine (take44_6 _ _ (H.out.drewN _) HX.out).mono ?_
  rintro e w' ⟨rfl, n2, rfl⟩
  go_wp2_with fail
  go_ret2
  exact ⟨rfl, _, rfl⟩

set_option maxHeartbeats 1000000 in
theorem header_any (s g : Int) (w : World) (hL : Lay w) (hs : 0 ≤ s) (hg : U64 g) : Calls Tryz.prog 36 #[.int .u8 s, .int .u32 g] w fun e w' => e = .returned (.int .u64 (headerW s g)) ∧ ∃ n, w' = w.drewN n := by
  have H := Lib.hid hL
  have HG := Lib.hid hg
  have hst : U64 (stS s) := by have := stS_in s hs; exact u64_small (by omega) (by omega)
  have HS := Lib.hid hst
  clear hL hg hst
  go_enter Tryz.func36, Tryz.ntmps36
  go_wp2_with fail
  refine (state_any _ _).mono ?_
  rintro e w' ⟨rfl, rfl⟩
  go_wp2_with fail
  refine (put49_5 _ _ H.out HS.out).mono ?_
  rintro e w' ⟨rfl, n, rfl⟩
  go_wp2_with fail
  refine (put43_6 _ _ (H.out.drewN _) HG.out).mono ?_
  rintro e w' ⟨rfl, n2, rfl⟩
  go_wp2_with fail
  go_ret
  exact ⟨ret_int (or_up _ _ 3 3 32 HS.out.1 HG.out.1 (by decide) (by decide)), _, rfl⟩

end Go.Proofs.YtjpanofkikfeoaaGreatDoor
