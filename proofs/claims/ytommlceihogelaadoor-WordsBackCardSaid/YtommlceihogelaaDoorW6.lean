/-
  The calls of the document's own answers for layer 1 of a phase (behind PhDrain, and of a word): each gives back the chapter's number, and changes nothing that was there; condition: the arguments are numbers of their kinds.
-/
import Derived.Test.YtommlceihogelaaDoorW5
namespace Go.Proofs.YtommlceihogelaaDoor
open Go.RowKit

set_option maxHeartbeats 1000000 in
theorem phase32_over (p o m k : Int) (w : World) (hp : U8 p) (h1 : 3 < p) (ho : U64 o) (hm : U64 m) (hk : U64 k) :
    Calls Tryd.prog 32 #[.agg #[.int .u8 p, .int .u8 o, .int .u8 m, .int .u64 k]] w fun e w' => e = .returned (.int .u64 (phaseW p o m k)) ∧ Below w.heap.size w w' := by
  have e1 : IntKind.u64.wrap p = p := wrap_of_u64 p (u64_small hp.1 (by have := hp.2; omega))
  have e2 : IntKind.u64.wrap o = o := wrap_of_u64 o ho
  have e3 : IntKind.u64.wrap m = m := wrap_of_u64 m hm
  have h5 := pw_nonneg o 3 3
  have h6 := pw_nonneg m 6 3
  have H8 := Lib.hid (low_fit 0 o (by decide))
  have H9 := Lib.hid (low_fit2 0 o m (by decide))
  have E := Lib.hid (phaseW_over p o m k h1)
  have HO := Lib.hid ho
  have HM := Lib.hid hm
  have HK := Lib.hid hk
  clear ho hm hk hp
  go_enter Tryd.func32, Tryd.ntmps32
  go_wp2
  go_quiet (first | (go_at_call_of 21 (Value.int IntKind.i64 5); exact Calls.quiet_of_same (put_3_5 0 o _ (by decide) HO.out (by decide))) | (go_at_call_of 21 (Value.int IntKind.i64 8); exact Calls.quiet_of_same (put_6_8 (pw o 3 3) m _ (by omega) HM.out (by have := H8.out; simpa using this))) | (go_at_call_of 21 (Value.int IntKind.i64 63); exact Calls.quiet_of_same (put_16_63 (pw o 3 3 + pw m 6 3) k _ (by omega) HK.out (by have := H9.out; simpa using this))))
  go_wp2
  go_ret
  exact ⟨ret_int (by rw [E.out]; omega), below_drewN' ((Below.refl _ _).alloc (Nat.le_refl _) _) _⟩

theorem phase32_any (p o m k : Int) (w : World) (hp : U8 p) (ho : U64 o) (hm : U64 m) (hk : U64 k) :
    Calls Tryd.prog 32 #[.agg #[.int .u8 p, .int .u8 o, .int .u8 m, .int .u64 k]] w fun e w' => e = .returned (.int .u64 (phaseW p o m k)) ∧ Below w.heap.size w w' := by
  by_cases h : 3 < p
  · exact phase32_over p o m k w hp h ho hm hk
  · exact phase32_in p o m k w hp.1 (by omega) ho hm hk

set_option maxHeartbeats 1000000 in
theorem asPhase34_any (x : Int) (w : World) (hx : U64 x) :
    Calls Tryd.prog 34 #[.int .u64 x] w fun e w' => e = .returned (.agg #[.int .u8 (phS (fld x 0 3)), .int .u8 (fld x 3 3), .int .u8 (fld x 6 3), .int .u64 (fld x 16 48)]) ∧ Below w.heap.size w w' := by
  have HX := Lib.hid hx
  have m1 := mod_u8 x 0 3 (by decide)
  have m2 := mod_u8 x 3 3 (by decide)
  have m3 := mod_u8 x 6 3 (by decide)
  clear hx
  by_cases h : 3 < fld x 0 3
  · have e : phS (fld x 0 3) = 0 := if_pos h
    rw [e]
    clear e
    have h' : ¬ fld x 0 3 ≤ 3 := by omega
    go_enter Tryd.func34, Tryd.ntmps34
    go_wp2_with fail
    refine (field_3_5 x _ HX.out).mono ?_
    rintro e w' ⟨rfl, rfl⟩
    go_wp2_with fail
    refine (field_6_8 x _ HX.out).mono ?_
    rintro e w' ⟨rfl, rfl⟩
    go_wp2_with fail
    refine (field_16_63 x _ HX.out).mono ?_
    rintro e w' ⟨rfl, rfl⟩
    go_wp2_with fail
    refine (field_0_2 x _ HX.out).mono ?_
    rintro e w' ⟨rfl, rfl⟩
    go_wp2_with fail
    exact bodyPost_ret (v := .agg #[.int .u8 0, .int .u8 (fld x 3 3), .int .u8 (fld x 6 3), .int .u64 (fld x 16 48)]) (by simp [results, Tryd.results34, go_sem]) rfl ⟨rfl, ((Below.refl _ _).alloc (Nat.le_refl _) _).alloc (by simp) _⟩
  · have e : phS (fld x 0 3) = fld x 0 3 := if_neg h
    rw [e]
    clear e
    have h' : fld x 0 3 ≤ 3 := by omega
    go_enter Tryd.func34, Tryd.ntmps34
    go_wp2_with fail
    refine (field_3_5 x _ HX.out).mono ?_
    rintro e w' ⟨rfl, rfl⟩
    go_wp2_with fail
    refine (field_6_8 x _ HX.out).mono ?_
    rintro e w' ⟨rfl, rfl⟩
    go_wp2_with fail
    refine (field_16_63 x _ HX.out).mono ?_
    rintro e w' ⟨rfl, rfl⟩
    go_wp2_with fail
    refine (field_0_2 x _ HX.out).mono ?_
    rintro e w' ⟨rfl, rfl⟩
    go_wp2_with fail
    refine (field_0_2 x _ HX.out).mono ?_
    rintro e w' ⟨rfl, rfl⟩
    go_wp2_with fail
    exact bodyPost_ret (v := .agg #[.int .u8 (fld x 0 3), .int .u8 (fld x 3 3), .int .u8 (fld x 6 3), .int .u64 (fld x 16 48)]) (by simp [results, Tryd.results34, go_sem]) rfl ⟨rfl, ((Below.refl _ _).alloc (Nat.le_refl _) _).alloc (by simp) _⟩
end Go.Proofs.YtommlceihogelaaDoor
