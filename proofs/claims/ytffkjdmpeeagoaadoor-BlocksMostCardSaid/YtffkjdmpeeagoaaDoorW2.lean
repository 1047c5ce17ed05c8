/-
  The calls of package words: each gives back the chapter's number, and changes nothing that was there; condition: the table of fields reads as the program lays it, and the arguments are numbers of their kinds.
-/
import Derived.Test.YtffkjdmpeeagoaaDoorW1
import Derived.Test.YtffkjdmpeeagoaaDoorSpec
import Derived.Deep.RegionWith
namespace Go.Proofs.YtffkjdmpeeagoaaDoor
open Go.RowKit

theorem below_drewN' {B : Nat} {a w : World} (h : Below B a w) (n : Nat) : Below B a (w.drewN n) := ⟨h.os, h.tape, h.output, h.size, h.block⟩

/-- A quiet call in a region whose world has drawn before. -/
theorem quiet_more {P : Program} {f : FuncId} {args : Array Value} {w : World} {i j : Nat} {v : Value}
    (h : Calls P f args (w.drewN (i + j)) fun e w1 => e = .returned v ∧ ∃ m, w1 = (w.drewN (i + j)).drewN m) :
    Calls P f args (w.drewN (i + j)) fun e w1 => e = .returned v ∧ ∃ m, w1 = w.drewN (i + m) := by
  refine h.mono fun e w1 hh => ?_
  obtain ⟨he, m, rfl⟩ := hh
  exact ⟨he, j + m, by rw [World.drewN_drewN, Nat.add_assoc]⟩

set_option maxHeartbeats 400000 in
theorem flag_any (b : Bool) (w : World) : Calls Tryd.prog 61 #[.bool b] w fun e w' => e = .returned (.int .u8 (bitB b)) ∧ w' = w := by
  cases b <;> (go_enter Tryd.func61, Tryd.ntmps61; go_wp2; go_ret; exact ⟨rfl, rfl⟩)

theorem bitB_u64 (b : Bool) : U64 (bitB b) := by have := bitB_in b; exact u64_small (by omega) (by omega)
theorem numS_u64 (s : Int) : U64 (numS s) := by have := numS_in s; exact u64_small (by omega) (by omega)

theorem fld16 (x : Int) : 0 ≤ fld x 0 16 ∧ fld x 0 16 ≤ 65535 := ⟨fld_nonneg x 0 16, by have := fld_lt x 0 16; omega⟩
theorem fldU (x : Int) (a m : Nat) (h : m ≤ 32) : U64 (fld x a m) := fld_u64 x a m (by omega)

set_option maxHeartbeats 1000000 in
theorem asBlock_any (x : Int) (w : World) (hL : Lay w) (hx : U64 x) : Calls Tryd.prog 29 #[.int .u64 x] w fun e w' => e = .returned (.tuple #[.int .u32 (fld x 0 32), .bool (fld x 32 1 != 0)]) ∧ ∃ n, w' = w.drewN n := by
  have H := Lib.hid hL
  have HX := Lib.hid hx
  clear hL hx
  go_enter Tryd.func29, Tryd.ntmps29
  go_wp2_with fail
  refine (take44_11 _ _ H.out HX.out).mono ?_
  rintro e w' ⟨rfl, n, rfl⟩
  go_wp2_with fail
  refine (take46_12 _ _ (H.out.drewN _) HX.out).mono ?_
  rintro e w' ⟨rfl, n2, rfl⟩
  go_wp2_with fail
  go_ret2
  exact ⟨rfl, _, rfl⟩

set_option maxHeartbeats 1000000 in
theorem block_any (j : Int) (c : Bool) (w : World) (hL : Lay w) (hj : U64 j) : Calls Tryd.prog 33 #[.int .u32 j, .bool c] w fun e w' => e = .returned (.int .u64 (blockW j c)) ∧ ∃ n, w' = w.drewN n := by
  have H := Lib.hid hL
  have HJ := Lib.hid hj
  clear hL hj
  go_enter Tryd.func33, Tryd.ntmps33
  go_wp2_with fail
  refine (put43_11 _ _ H.out HJ.out).mono ?_
  rintro e w' ⟨rfl, n, rfl⟩
  go_wp2_with fail
  refine (flag_any _ _).mono ?_
  rintro e w' ⟨rfl, rfl⟩
  go_wp2_with fail
  refine (put39_12 _ _ (H.out.drewN _) (bitB_u64 _)).mono ?_
  rintro e w' ⟨rfl, n2, rfl⟩
  go_wp2_with fail
  go_ret
  exact ⟨ret_int (or_up _ _ 32 32 1 HJ.out.1 (bitB_in c).1 (by decide) (by decide)), _, rfl⟩

end Go.Proofs.YtffkjdmpeeagoaaDoor
