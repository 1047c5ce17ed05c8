/-
  The calls of the document's own answers for layer 1 that make memory (a ref, a phase): each gives back the chapter's number, and changes nothing that was there; condition: the arguments are numbers of their kinds.
-/
import Derived.Test.YtommlceihogelaaDoorW4
namespace Go.Proofs.YtommlceihogelaaDoor
open Go.RowKit

theorem refW_bare (s g : Int) (h0 : 0 ≤ s) (h1 : s < 256) : refW s g false = 0 + pw (s + 1) 0 16 + pw g 16 32 := by
  unfold refW
  rw [numS_yes h0 h1, if_neg (by omega)]
  simp [bitB, pw]
theorem refW_marked (s g : Int) (h0 : 0 ≤ s) (h1 : s < 256) : refW s g true = 0 + pw (s + 1) 0 16 + pw g 16 32 + pw 1 63 1 := by
  unfold refW
  rw [numS_yes h0 h1, if_neg (by omega)]
  show pw 1 63 1 + _ + _ = _
  omega
theorem refW_none (s g : Int) (m : Bool) (h : ¬ (0 ≤ s ∧ s < 256)) : refW s g m = pw (bitB m) 63 1 := by
  unfold refW
  rw [numS_no h, if_pos rfl]
theorem two_fit (s g : Int) : pw s 0 16 + pw g 16 32 < 2 ^ 63 := by
  have h1 := pw_lt s 0 16
  have h2 := pw_lt g 16 32
  omega

set_option maxHeartbeats 1000000 in
theorem ref12_in (s g : Int) (m : Bool) (w : World) (hg : U64 g) (h0 : 0 ≤ s) (h1 : s < 256) :
    Calls Tryd.prog 12 #[.agg #[.int .i64 s, .int .u32 g, .bool m]] w fun e w' => e = .returned (.int .u64 (refW s g m)) ∧ Below w.heap.size w w' := by
  have HG := Lib.hid hg
  have h1' : s ≤ 255 := by omega
  have h2 : IntKind.u64.wrap s = s := wrap_of_u64 s (u64_small (by omega) (by omega))
  have h3 : IntKind.u64.wrap (s + 1) = s + 1 := wrap_of_u64 _ (u64_small (by omega) (by omega))
  have h4 : IntKind.u64.wrap g = g := wrap_of_u64 g hg
  have h5 := pw_nonneg (s + 1) 0 16
  have h6 := pw_nonneg g 16 32
  have h7 := pw_lt (s + 1) 0 16
  have h8 := two_fit (s + 1) g
  have HS := Lib.hid (show U64 (s + 1) from u64_small (by omega) (by omega))
  have H7 := Lib.hid h7
  have H8 := Lib.hid h8
  have EB := Lib.hid (refW_bare s g h0 h1)
  have EM := Lib.hid (refW_marked s g h0 h1)
  clear hg h7 h8
  cases m
  · go_enter Tryd.func12, Tryd.ntmps12
    go_wp2
    go_quiet (first | (go_at_call_of 21 (Value.int IntKind.u64 0); exact Calls.quiet_of_same (put_0_15 0 (s + 1) _ (by decide) HS.out (by decide))) | (go_at_call 21; exact Calls.quiet_of_same (put_16_47 _ g _ (by omega) HG.out (by have := H7.out; simpa using this))))
    go_wp2
    go_ret
    exact ⟨ret_int (by rw [EB.out]; omega), below_drewN' ((Below.refl _ _).alloc (Nat.le_refl _) _) _⟩
  · go_enter Tryd.func12, Tryd.ntmps12
    go_wp2
    go_quiet (first | (go_at_call_of 21 (Value.int IntKind.u64 0); exact Calls.quiet_of_same (put_0_15 0 (s + 1) _ (by decide) HS.out (by decide))) | (go_at_call 21; exact Calls.quiet_of_same (put_16_47 _ g _ (by omega) HG.out (by have := H7.out; simpa using this))))
    go_wp2_with fail
    refine (put_63_63 _ 1 _ (by omega) ⟨by decide, by decide⟩ (by have := H8.out; simpa using this)).mono ?_
    rintro e w' ⟨rfl, rfl⟩
    go_wp2_with fail
    go_ret
    exact ⟨ret_int (by rw [EM.out]; omega), below_drewN' ((Below.refl _ _).alloc (Nat.le_refl _) _) _⟩

set_option maxHeartbeats 1000000 in
theorem ref12_out (s g : Int) (m : Bool) (w : World) (h : ¬ (0 ≤ s ∧ s < 256)) :
    Calls Tryd.prog 12 #[.agg #[.int .i64 s, .int .u32 g, .bool m]] w fun e w' => e = .returned (.int .u64 (refW s g m)) ∧ Below w.heap.size w w' := by
  rw [refW_none s g m h]
  by_cases h0 : 0 ≤ s
  · have h1 : ¬ s ≤ 255 := by omega
    clear h
    cases m
    · go_enter Tryd.func12, Tryd.ntmps12
      go_wp2
      go_ret
      exact ⟨rfl, (Below.refl _ _).alloc (Nat.le_refl _) _⟩
    · go_enter Tryd.func12, Tryd.ntmps12
      go_wp2_with fail
      refine (put_63_63 0 1 _ (by decide) ⟨by decide, by decide⟩ (by decide)).mono ?_
      rintro e w' ⟨rfl, rfl⟩
      go_wp2_with fail
      go_ret
      exact ⟨rfl, (Below.refl _ _).alloc (Nat.le_refl _) _⟩
  · clear h
    cases m
    · go_enter Tryd.func12, Tryd.ntmps12
      go_wp2
      go_ret
      exact ⟨rfl, (Below.refl _ _).alloc (Nat.le_refl _) _⟩
    · go_enter Tryd.func12, Tryd.ntmps12
      go_wp2_with fail
      refine (put_63_63 0 1 _ (by decide) ⟨by decide, by decide⟩ (by decide)).mono ?_
      rintro e w' ⟨rfl, rfl⟩
      go_wp2_with fail
      go_ret
      exact ⟨rfl, (Below.refl _ _).alloc (Nat.le_refl _) _⟩

set_option maxHeartbeats 1000000 in
theorem asRef14_any (x : Int) (w : World) (hx : U64 x) :
    Calls Tryd.prog 14 #[.int .u64 x] w fun e w' => e = .returned (.agg #[.int .i64 (wSlot x), .int .u32 (wGen x), .bool (wMark x)]) ∧ Below w.heap.size w w' := by
  have HX := Lib.hid hx
  have m2 := mod_u32 x 16 32 (by decide)
  have EM := Lib.hid (show wMark x = (fld x 63 1 == 1) from (bit_ne x 63).symm)
  clear hx
  by_cases hs : 0 ≤ wSlot x
  · have e : wGen x = fld x 16 32 := if_pos hs
    rw [e, EM.out]
    clear e
    go_enter Tryd.func14, Tryd.ntmps14
    go_wp2_with fail
    refine (slot38_any x _ HX.out).mono ?_
    rintro e w' ⟨rfl, rfl⟩
    go_wp2_with fail
    refine (field_63_63 x _ HX.out).mono ?_
    rintro e w' ⟨rfl, rfl⟩
    go_wp2_with fail
    refine (field_16_47 x _ HX.out).mono ?_
    rintro e w' ⟨rfl, rfl⟩
    go_wp2_with fail
    exact bodyPost_ret (v := .agg #[.int .i64 (wSlot x), .int .u32 (fld x 16 32), .bool (fld x 63 1 == 1)]) (by simp [results, Tryd.results14, go_sem]) rfl ⟨rfl, ((Below.refl _ _).alloc (Nat.le_refl _) _).alloc (by simp) _⟩
  · have e : wGen x = 0 := if_neg hs
    rw [e, EM.out]
    clear e
    have hs' : wSlot x < 0 := by omega
    clear hs
    go_enter Tryd.func14, Tryd.ntmps14
    go_wp2_with fail
    refine (slot38_any x _ HX.out).mono ?_
    rintro e w' ⟨rfl, rfl⟩
    go_wp2_with fail
    refine (field_63_63 x _ HX.out).mono ?_
    rintro e w' ⟨rfl, rfl⟩
    go_wp2_with fail
    exact bodyPost_ret (v := .agg #[.int .i64 (wSlot x), .int .u32 0, .bool (fld x 63 1 == 1)]) (by simp [results, Tryd.results14, go_sem]) rfl ⟨rfl, ((Below.refl _ _).alloc (Nat.le_refl _) _).alloc (by simp) _⟩

theorem phaseW_same (p o m k : Int) (h0 : 0 ≤ p) (h1 : p ≤ 3) : phaseW p o m k = p + pw o 3 3 + pw m 6 3 + pw k 16 48 := by
  unfold phaseW phS
  rw [if_neg (by omega), pw_small p 3 h0 (by omega)]
theorem phaseW_over (p o m k : Int) (h1 : 3 < p) : phaseW p o m k = 0 + pw o 3 3 + pw m 6 3 + pw k 16 48 := by
  unfold phaseW phS
  rw [if_pos h1]
  simp [pw]
theorem low_fit (p o : Int) (h1 : p ≤ 3) : p + pw o 3 3 < 2 ^ 6 := by
  unfold pw
  omega
theorem low_fit2 (p o m : Int) (h1 : p ≤ 3) : p + pw o 3 3 + pw m 6 3 < 2 ^ 16 := by
  unfold pw
  omega

set_option maxHeartbeats 1000000 in
theorem phase32_in (p o m k : Int) (w : World) (h0 : 0 ≤ p) (h1 : p ≤ 3) (ho : U64 o) (hm : U64 m) (hk : U64 k) :
    Calls Tryd.prog 32 #[.agg #[.int .u8 p, .int .u8 o, .int .u8 m, .int .u64 k]] w fun e w' => e = .returned (.int .u64 (phaseW p o m k)) ∧ Below w.heap.size w w' := by
  have e1 : IntKind.u64.wrap p = p := wrap_of_u64 p (u64_small (by omega) (by omega))
  have e2 : IntKind.u64.wrap o = o := wrap_of_u64 o ho
  have e3 : IntKind.u64.wrap m = m := wrap_of_u64 m hm
  have h5 := pw_nonneg o 3 3
  have h6 := pw_nonneg m 6 3
  have H8 := Lib.hid (low_fit p o h1)
  have H9 := Lib.hid (low_fit2 p o m h1)
  have E := Lib.hid (phaseW_same p o m k h0 h1)
  have HO := Lib.hid ho
  have HM := Lib.hid hm
  have HK := Lib.hid hk
  clear ho hm hk
  go_enter Tryd.func32, Tryd.ntmps32
  go_wp2
  go_quiet (first | (go_at_call_of 21 (Value.int IntKind.i64 5); exact Calls.quiet_of_same (put_3_5 p o _ h0 HO.out (by omega))) | (go_at_call_of 21 (Value.int IntKind.i64 8); exact Calls.quiet_of_same (put_6_8 (p + pw o 3 3) m _ (by omega) HM.out H8.out)) | (go_at_call_of 21 (Value.int IntKind.i64 63); exact Calls.quiet_of_same (put_16_63 (p + pw o 3 3 + pw m 6 3) k _ (by omega) HK.out H9.out)))
  go_wp2
  go_ret
  exact ⟨ret_int E.out.symm, below_drewN' ((Below.refl _ _).alloc (Nat.le_refl _) _) _⟩
end Go.Proofs.YtommlceihogelaaDoor
