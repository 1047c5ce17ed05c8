/-
  Numbers of 64 bits, of a seat that calls nothing of package words; no condition.
  The calls of package words: each gives back the chapter's number, and changes nothing that was there; condition: the table of fields reads as the program lays it, and the arguments are numbers of their kinds.
-/
import Derived.Test.YtapcgikamldchaaDoorRows
import Derived.Test.YtapcgikamldchaaDoorPlain
import Derived.WalkKit
import Derived.WalkSpells
import Derived.WalkLawsBesides
import Derived.Deep.QuietTactic
import Derived.BigQuiet
import Derived.Lib.Hide
import Derived.Test.YtapcgikamldchaaDoorSpec
import Derived.Deep.RegionWith
namespace Go.Proofs.YtapcgikamldchaaDoor
open Go.RowKit

/-- A seat that calls nothing of package words: there is no table of fields to lie. -/
def Lay (_w : World) : Prop := True
theorem Lay.all (w : World) : Lay w := trivial
theorem Lay.drewN {w : World} (h : Lay w) (n : Nat) : Lay (w.drewN n) := h
theorem Lay.drew {w : World} (h : Lay w) : Lay w.drew := h
theorem Lay.below {w w' : World} (_h : Lay w) (_hb : Below w.heap.size w w') : Lay w' := trivial
theorem Lay.alloc {w : World} (_h : Lay w) (o : Obj) : Lay (w.alloc o) := trivial
theorem Lay.setCell {w : World} (_h : Lay w) (a : Addr) (_ha : 0 ≤ a.block) (u : Value) : Lay (w.setCell a u) := trivial
theorem wrap_of_u64 (v : Int) (h : U64 v) : IntKind.u64.wrap v = v := by
  obtain ⟨h0, h1⟩ := h
  rw [IntKind.wrap_u64]
  omega
theorem ret_int {k : IntKind} {a b : Int} (h : a = b) : Ending.returned (.int k a) = .returned (.int k b) := by rw [h]

theorem take_i64 (x : Int) (a m : Nat) (hx : U64 x) (h : m ≤ 62) : wrap64 (bits .and .u64 (x / 2 ^ a) (2 ^ m - 1)) = fld x a m := by
  rw [take_val x a m hx (by omega)]
  have h0 := fld_nonneg x a m
  have h1 := fld_lt x a m
  have h2 := two_pow_le (show m ≤ 62 from h)
  rw [p62] at h2
  exact IntWalk.wrap64_in _ ⟨by omega, by omega⟩
theorem take_u32 (x : Int) (a m : Nat) (hx : U64 x) (h : m ≤ 32) : bits .and .u64 (x / 2 ^ a) (2 ^ m - 1) % 4294967296 = fld x a m := by
  rw [take_val x a m hx (by omega)]
  have h2 := two_pow_le h
  rw [p32] at h2
  exact Int.emod_eq_of_lt (fld_nonneg x a m) (Int.lt_of_lt_of_le (fld_lt x a m) h2)
theorem take_u8 (x : Int) (a m : Nat) (hx : U64 x) (h : m ≤ 8) : bits .and .u64 (x / 2 ^ a) (2 ^ m - 1) % 256 = fld x a m := by
  rw [take_val x a m hx (by omega)]
  have h2 := two_pow_le h
  rw [p8] at h2
  exact Int.emod_eq_of_lt (fld_nonneg x a m) (Int.lt_of_lt_of_le (fld_lt x a m) h2)
theorem put_u64 (v : Int) (a m : Nat) (hv : U64 v) (ha : a + m ≤ 64) (h : m ≤ 63) : IntKind.u64.wrap (bits .and .u64 v (2 ^ m - 1) * 2 ^ a) = pw v a m := by
  rw [and_val v m hv h]
  exact wrap_of_u64 _ (pw_u64 v a m ha)
theorem put_less (v : Int) (a m : Nat) (hv : U64 v) (ha : a + m ≤ 64) (h : m ≤ 63) : IntKind.u64.wrap (bits .and .u64 (IntKind.u64.wrap v) (2 ^ m - 1) * 2 ^ a) = pw v a m := by
  rw [wrap_of_u64 v hv]
  exact put_u64 v a m hv ha h

end Go.Proofs.YtapcgikamldchaaDoor
namespace Go.Proofs.YtapcgikamldchaaDoor
open Go.RowKit

theorem below_drewN' {B : Nat} {a w : World} (h : Below B a w) (n : Nat) : Below B a (w.drewN n) := ⟨h.os, h.tape, h.output, h.size, h.block⟩

/-- A quiet call in a region whose world has drawn before. -/
theorem quiet_more {P : Program} {f : FuncId} {args : Array Value} {w : World} {i j : Nat} {v : Value}
    (h : Calls P f args (w.drewN (i + j)) fun e w1 => e = .returned v ∧ ∃ m, w1 = (w.drewN (i + j)).drewN m) :
    Calls P f args (w.drewN (i + j)) fun e w1 => e = .returned v ∧ ∃ m, w1 = w.drewN (i + m) := by
  refine h.mono fun e w1 hh => ?_
  obtain ⟨he, m, rfl⟩ := hh
  exact ⟨he, j + m, by rw [World.drewN_drewN, Nat.add_assoc]⟩

theorem bitB_u64 (b : Bool) : U64 (bitB b) := by have := bitB_in b; exact u64_small (by omega) (by omega)
theorem numS_u64 (s : Int) : U64 (numS s) := by have := numS_in s; exact u64_small (by omega) (by omega)

theorem fld16 (x : Int) : 0 ≤ fld x 0 16 ∧ fld x 0 16 ≤ 65535 := ⟨fld_nonneg x 0 16, by have := fld_lt x 0 16; omega⟩
theorem fldU (x : Int) (a m : Nat) (h : m ≤ 32) : U64 (fld x a m) := fld_u64 x a m (by omega)

end Go.Proofs.YtapcgikamldchaaDoor
