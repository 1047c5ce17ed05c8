/-
  The calls of package words: each gives back the chapter's number, and changes nothing that was there; condition: the table of fields reads as the program lays it, and the arguments are numbers of their kinds.
-/
import Derived.Test.YtlcbinckbkdgdaaDoorW1
import Derived.Test.YtlcbinckbkdgdaaDoorSpec
import Derived.Deep.RegionWith
namespace Go.Proofs.YtlcbinckbkdgdaaDoor
open Go.RowKit

theorem below_drewN' {B : Nat} {a w : World} (h : Below B a w) (n : Nat) : Below B a (w.drewN n) := ⟨h.os, h.tape, h.output, h.size, h.block⟩

/-- A quiet call in a region whose world has drawn before. -/
theorem quiet_more {P : Program} {f : FuncId} {args : Array Value} {w : World} {i j : Nat} {v : Value}
    (h : Calls P f args (w.drewN (i + j)) fun e w1 => e = .returned v ∧ ∃ m, w1 = (w.drewN (i + j)).drewN m) :
    Calls P f args (w.drewN (i + j)) fun e w1 => e = .returned v ∧ ∃ m, w1 = w.drewN (i + m) := by
  refine h.mono fun e w1 hh => ?_
  obtain ⟨he, m, rfl⟩ := hh
  exact ⟨he, j + m, by rw [World.drewN_drewN, Nat.add_assoc]⟩

set_option maxHeartbeats 400000 in
theorem number_any (s : Int) (w : World) : Calls Tryd.prog 78 #[.int .i64 s] w fun e w' => e = .returned (.int .u64 (numS s)) ∧ w' = w := by
  by_cases h0 : s < 0
  · go_enter Tryd.func78, Tryd.ntmps78
    go_wp2
    go_ret
    exact ⟨ret_int (numS_no (by omega)).symm, rfl⟩
  · by_cases h1 : 256 ≤ s
    · go_enter Tryd.func78, Tryd.ntmps78
      go_wp2
      go_ret
      exact ⟨ret_int (numS_no (by omega)).symm, rfl⟩
    · have h2 : IntKind.u64.wrap s = s := wrap_of_u64 s (u64_small (by omega) (by omega))
      have h3 : IntKind.u64.wrap (s + 1) = s + 1 := wrap_of_u64 _ (u64_small (by omega) (by omega))
      go_enter Tryd.func78, Tryd.ntmps78
      go_wp2
      go_ret
      exact ⟨ret_int (numS_yes (by omega) (by omega)).symm, rfl⟩

set_option maxHeartbeats 400000 in
theorem asSlot_any (n : Int) (w : World) (h0 : 0 ≤ n) (h1 : n ≤ 65535) : Calls Tryd.prog 70 #[.int .i64 n] w fun e w' => e = .returned (.int .i64 (slotS n)) ∧ w' = w := by
  by_cases h : 256 < n
  · go_enter Tryd.func70, Tryd.ntmps70
    go_wp2
    go_ret
    exact ⟨ret_int (by unfold slotS; rw [if_pos h]), rfl⟩
  · go_enter Tryd.func70, Tryd.ntmps70
    go_wp2
    go_ret
    exact ⟨ret_int (by unfold slotS; rw [if_neg (by omega)]), rfl⟩

set_option maxHeartbeats 400000 in
theorem state_any (s : Int) (w : World) : Calls Tryd.prog 59 #[.int .u8 s] w fun e w' => e = .returned (.int .u8 (stS s)) ∧ w' = w := by
  by_cases h : 4 < s
  · go_enter Tryd.func59, Tryd.ntmps59
    go_wp2
    go_ret
    exact ⟨ret_int (by unfold stS; rw [if_pos h]), rfl⟩
  · go_enter Tryd.func59, Tryd.ntmps59
    go_wp2
    go_ret
    exact ⟨ret_int (by unfold stS; rw [if_neg (by omega)]), rfl⟩

theorem bitB_u64 (b : Bool) : U64 (bitB b) := by have := bitB_in b; exact u64_small (by omega) (by omega)
theorem numS_u64 (s : Int) : U64 (numS s) := by have := numS_in s; exact u64_small (by omega) (by omega)

theorem fld16 (x : Int) : 0 ≤ fld x 0 16 ∧ fld x 0 16 ≤ 65535 := ⟨fld_nonneg x 0 16, by have := fld_lt x 0 16; omega⟩
theorem fldU (x : Int) (a m : Nat) (h : m ≤ 32) : U64 (fld x a m) := fld_u64 x a m (by omega)

set_option maxHeartbeats 1000000 in
theorem head_any (s t : Int) (w : World) (hL : Lay w) (ht : U64 t) : Calls Tryd.prog 76 #[.int .i64 s, .int .u64 t] w fun e w' => e = .returned (.int .u64 (headW s t)) ∧ ∃ n, w' = w.drewN n := by
  have H := Lib.hid hL
  have HT := Lib.hid ht
  clear hL ht
  go_enter Tryd.func76, Tryd.ntmps76
  go_wp2_with fail
  refine (number_any _ _).mono ?_
  rintro e w' ⟨rfl, rfl⟩
  go_wp2_with fail
  refine (put42_3 _ _ H.out (numS_u64 _)).mono ?_
  rintro e w' ⟨rfl, n, rfl⟩
  go_wp2_with fail
  refine (put42_4 _ _ (H.out.drewN _) HT.out).mono ?_
  rintro e w' ⟨rfl, n2, rfl⟩
  go_wp2_with fail
  go_ret
  exact ⟨ret_int (or_up _ _ 16 16 48 (numS_in s).1 HT.out.1 (by decide) (by decide)), _, rfl⟩

set_option maxHeartbeats 1000000 in
theorem asHead_any (x : Int) (w : World) (hL : Lay w) (hx : U64 x) : Calls Tryd.prog 58 #[.int .u64 x] w fun e w' => e = .returned (.tuple #[.int .i64 (wSlot x), .int .u64 (fld x 16 48)]) ∧ ∃ n, w' = w.drewN n := by
  have H := Lib.hid hL
  have HX := Lib.hid hx
  clear hL hx
  go_enter Tryd.func58, Tryd.ntmps58
  go_wp2_with fail
  refine (take36_3 _ _ H.out HX.out).mono ?_
  rintro e w' ⟨rfl, n, rfl⟩
  go_wp2_with fail
  refine (asSlot_any _ _ (fld16 x).1 (fld16 x).2).mono ?_
  rintro e w' ⟨rfl, rfl⟩
  go_wp2_with fail
  refine (take37_4 _ _ (H.out.drewN _) HX.out).mono ?_
  rintro e w' ⟨rfl, n2, rfl⟩
  go_wp2_with fail
  go_ret2
  exact ⟨rfl, _, rfl⟩

set_option maxHeartbeats 1000000 in
theorem asHeader_any (x : Int) (w : World) (hL : Lay w) (hx : U64 x) : Calls Tryd.prog 42 #[.int .u64 x] w fun e w' => e = .returned (.tuple #[.int .u8 (stS (fld x 0 3)), .int .u32 (fld x 3 32)]) ∧ ∃ n, w' = w.drewN n := by
  have H := Lib.hid hL
  have HX := Lib.hid hx
  clear hL hx
  go_enter Tryd.func42, Tryd.ntmps42
  go_wp2_with fail
  refine (take48_5 _ _ H.out HX.out).mono ?_
  rintro e w' ⟨rfl, n, rfl⟩
  go_wp2_with fail
  refine (state_any _ _).mono ?_
  rintro e w' ⟨rfl, rfl⟩
  go_wp2_with fail
  refine (take44_6 _ _ (H.out.drewN _) HX.out).mono ?_
  rintro e w' ⟨rfl, n2, rfl⟩
  go_wp2_with fail
  go_ret2
  exact ⟨rfl, _, rfl⟩

set_option maxHeartbeats 1000000 in
theorem header_any (s g : Int) (w : World) (hL : Lay w) (hs : 0 ≤ s) (hg : U64 g) : Calls Tryd.prog 51 #[.int .u8 s, .int .u32 g] w fun e w' => e = .returned (.int .u64 (headerW s g)) ∧ ∃ n, w' = w.drewN n := by
  have H := Lib.hid hL
  have HG := Lib.hid hg
  have hst : U64 (stS s) := by have := stS_in s hs; exact u64_small (by omega) (by omega)
  have HS := Lib.hid hst
  clear hL hg hst
  go_enter Tryd.func51, Tryd.ntmps51
  go_wp2_with fail
  refine (state_any _ _).mono ?_
  rintro e w' ⟨rfl, rfl⟩
  go_wp2_with fail
  refine (put49_5 _ _ H.out HS.out).mono ?_
  rintro e w' ⟨rfl, n, rfl⟩
  go_wp2_with fail
  refine (put43_6 _ _ (H.out.drewN _) HG.out).mono ?_
  rintro e w' ⟨rfl, n2, rfl⟩
  go_wp2_with fail
  go_ret
  exact ⟨ret_int (or_up _ _ 3 3 32 HS.out.1 HG.out.1 (by decide) (by decide)), _, rfl⟩

end Go.Proofs.YtlcbinckbkdgdaaDoor
