/-
  The calls of package words: each gives back the chapter's number, and changes nothing that was there; condition: the table of fields reads as the program lays it, and the arguments are numbers of their kinds.
-/
import Derived.Test.YtommlceihogelaaDoorW1
import Derived.Test.YtommlceihogelaaDoorSpec
import Derived.Deep.RegionWith
namespace Go.Proofs.YtommlceihogelaaDoor
open Go.RowKit

theorem below_drewN' {B : Nat} {a w : World} (h : Below B a w) (n : Nat) : Below B a (w.drewN n) := ⟨h.os, h.tape, h.output, h.size, h.block⟩

/-- A quiet call in a region whose world has drawn before. -/
theorem quiet_more {P : Program} {f : FuncId} {args : Array Value} {w : World} {i j : Nat} {v : Value}
    (h : Calls P f args (w.drewN (i + j)) fun e w1 => e = .returned v ∧ ∃ m, w1 = (w.drewN (i + j)).drewN m) :
    Calls P f args (w.drewN (i + j)) fun e w1 => e = .returned v ∧ ∃ m, w1 = w.drewN (i + m) := by
  refine h.mono fun e w1 hh => ?_
  obtain ⟨he, m, rfl⟩ := hh
  exact ⟨he, j + m, by rw [World.drewN_drewN, Nat.add_assoc]⟩

set_option maxHeartbeats 400000 in
theorem flag_any (b : Bool) (w : World) : Calls Tryd.prog 40 #[.bool b] w fun e w' => e = .returned (.int .u8 (bitB b)) ∧ w' = w := by
  cases b <;> (go_enter Tryd.func40, Tryd.ntmps40; go_wp2; go_ret; exact ⟨rfl, rfl⟩)

set_option maxHeartbeats 400000 in
theorem number_any (s : Int) (w : World) : Calls Tryd.prog 41 #[.int .i64 s] w fun e w' => e = .returned (.int .u64 (numS s)) ∧ w' = w := by
  by_cases h0 : s < 0
  · go_enter Tryd.func41, Tryd.ntmps41
    go_wp2
    go_ret
    exact ⟨ret_int (numS_no (by omega)).symm, rfl⟩
  · by_cases h1 : 256 ≤ s
    · go_enter Tryd.func41, Tryd.ntmps41
      go_wp2
      go_ret
      exact ⟨ret_int (numS_no (by omega)).symm, rfl⟩
    · have h2 : IntKind.u64.wrap s = s := wrap_of_u64 s (u64_small (by omega) (by omega))
      have h3 : IntKind.u64.wrap (s + 1) = s + 1 := wrap_of_u64 _ (u64_small (by omega) (by omega))
      go_enter Tryd.func41, Tryd.ntmps41
      go_wp2
      go_ret
      exact ⟨ret_int (numS_yes (by omega) (by omega)).symm, rfl⟩

set_option maxHeartbeats 400000 in
theorem asSlot_any (n : Int) (w : World) (h0 : 0 ≤ n) (h1 : n ≤ 65535) : Calls Tryd.prog 35 #[.int .i64 n] w fun e w' => e = .returned (.int .i64 (slotS n)) ∧ w' = w := by
  by_cases h : 256 < n
  · go_enter Tryd.func35, Tryd.ntmps35
    go_wp2
    go_ret
    exact ⟨ret_int (by unfold slotS; rw [if_pos h]), rfl⟩
  · go_enter Tryd.func35, Tryd.ntmps35
    go_wp2
    go_ret
    exact ⟨ret_int (by unfold slotS; rw [if_neg (by omega)]), rfl⟩

set_option maxHeartbeats 400000 in
theorem state_any (s : Int) (w : World) : Calls Tryd.prog 47 #[.int .u8 s] w fun e w' => e = .returned (.int .u8 (stS s)) ∧ w' = w := by
  by_cases h : 4 < s
  · go_enter Tryd.func47, Tryd.ntmps47
    go_wp2
    go_ret
    exact ⟨ret_int (by unfold stS; rw [if_pos h]), rfl⟩
  · go_enter Tryd.func47, Tryd.ntmps47
    go_wp2
    go_ret
    exact ⟨ret_int (by unfold stS; rw [if_neg (by omega)]), rfl⟩

set_option maxHeartbeats 400000 in
theorem phase_any (s : Int) (w : World) : Calls Tryd.prog 51 #[.int .u8 s] w fun e w' => e = .returned (.int .u8 (phS s)) ∧ w' = w := by
  by_cases h : 3 < s
  · go_enter Tryd.func51, Tryd.ntmps51
    go_wp2
    go_ret
    exact ⟨ret_int (by unfold phS; rw [if_pos h]), rfl⟩
  · go_enter Tryd.func51, Tryd.ntmps51
    go_wp2
    go_ret
    exact ⟨ret_int (by unfold phS; rw [if_neg (by omega)]), rfl⟩

theorem bitB_u64 (b : Bool) : U64 (bitB b) := by have := bitB_in b; exact u64_small (by omega) (by omega)
theorem numS_u64 (s : Int) : U64 (numS s) := by have := numS_in s; exact u64_small (by omega) (by omega)

set_option maxHeartbeats 1000000 in
theorem ref_none (s g : Int) (m : Bool) (w : World) (hL : Lay w) (hn : (numS s == 0) = true) :
    Calls Tryd.prog 11 #[.agg #[.int .i64 s, .int .u32 g, .bool m]] w fun e w' => e = .returned (.int .u64 (pw (bitB m) 63 1)) ∧ Below w.heap.size w w' := by
  have H := Lib.hid hL
  clear hL
  go_enter Tryd.func11, Tryd.ntmps11
  go_wp2_with (first | (go_at_call 40; refine (flag_any _ _).mono ?_; rintro e w' ⟨rfl, rfl⟩) | (go_at_call 39; refine (put39_2 _ _ (H.out.alloc _) (bitB_u64 _)).mono ?_; rintro e w' ⟨rfl, n, rfl⟩) | (go_at_call 41; refine (number_any _ _).mono ?_; rintro e w' ⟨rfl, rfl⟩))
  go_ret
  exact ⟨rfl, below_drewN' ((Below.refl _ _).alloc (Nat.le_refl _) _) _⟩

set_option maxHeartbeats 1000000 in
theorem ref_some (s g : Int) (m : Bool) (w : World) (hL : Lay w) (hg : U64 g) (hn : (numS s == 0) = false) :
    Calls Tryd.prog 11 #[.agg #[.int .i64 s, .int .u32 g, .bool m]] w fun e w' => e = .returned (.int .u64 (pw (bitB m) 63 1 + pw (numS s) 0 16 + pw g 16 32)) ∧ Below w.heap.size w w' := by
  have H := Lib.hid hL
  clear hL
  have G := Lib.hid hg
  clear hg
  go_enter Tryd.func11, Tryd.ntmps11
  go_wp2_with (first | (go_at_call 40; refine (flag_any _ _).mono ?_; rintro e w' ⟨rfl, rfl⟩) | (go_at_call 39; refine (put39_2 _ _ (H.out.alloc _) (bitB_u64 _)).mono ?_; rintro e w' ⟨rfl, n, rfl⟩) | (go_at_call 41; refine (number_any _ _).mono ?_; rintro e w' ⟨rfl, rfl⟩))
  go_quiet (first | (go_at_call 42; exact quiet_more (put42_0 _ _ ((H.out.alloc _).drewN _) (numS_u64 _))) | (go_at_call 43; exact quiet_more (put43_1 _ _ ((H.out.alloc _).drewN _) G.out)))
  go_wp2
  go_ret
  exact ⟨ret_int (ref_or _ _ _ (bitB_in m).1 (numS_in s).1 G.out.1), below_drewN' (below_drewN' ((Below.refl _ _).alloc (Nat.le_refl _) _) _) _⟩

theorem fld16 (x : Int) : 0 ≤ fld x 0 16 ∧ fld x 0 16 ≤ 65535 := ⟨fld_nonneg x 0 16, by have := fld_lt x 0 16; omega⟩
theorem fldU (x : Int) (a m : Nat) (h : m ≤ 32) : U64 (fld x a m) := fld_u64 x a m (by omega)

set_option maxHeartbeats 1000000 in
theorem marked_any (x : Int) (w : World) (hL : Lay w) (hx : U64 x) : Calls Tryd.prog 18 #[.int .u64 x] w fun e w' => e = .returned (.bool (wMark x)) ∧ ∃ n, w' = w.drewN n := by
  have H := Lib.hid hL
  have HX := Lib.hid hx
  clear hL hx
  go_enter Tryd.func18, Tryd.ntmps18
  go_wp2_with (first | (go_at_call 46; refine (take46_2 _ _ H.out HX.out).mono ?_; rintro e w' ⟨rfl, n, rfl⟩))
  go_ret
  exact ⟨rfl, _, rfl⟩

set_option maxHeartbeats 1000000 in
theorem mark_any (x : Int) (w : World) (hL : Lay w) (hx : U64 x) : Calls Tryd.prog 20 #[.int .u64 x] w fun e w' => e = .returned (.int .u64 (markW x)) ∧ ∃ n, w' = w.drewN n := by
  have H := Lib.hid hL
  have HX := Lib.hid hx
  clear hL hx
  go_enter Tryd.func20, Tryd.ntmps20
  go_wp2_with (first | (go_at_call 40; refine (flag_any _ _).mono ?_; rintro e w' ⟨rfl, rfl⟩) | (go_at_call 39; refine (put39_2 _ _ H.out (bitB_u64 _)).mono ?_; rintro e w' ⟨rfl, n, rfl⟩))
  go_ret
  exact ⟨ret_int (mark_or x HX.out), _, rfl⟩

set_option maxHeartbeats 1000000 in
theorem unmark_any (x : Int) (w : World) (hL : Lay w) (hx : U64 x) : Calls Tryd.prog 19 #[.int .u64 x] w fun e w' => e = .returned (.int .u64 (unmarkW x)) ∧ ∃ n, w' = w.drewN n := by
  have H := Lib.hid hL
  have HX := Lib.hid hx
  clear hL hx
  go_enter Tryd.func19, Tryd.ntmps19
  go_wp2_with (first | (go_at_call 40; refine (flag_any _ _).mono ?_; rintro e w' ⟨rfl, rfl⟩) | (go_at_call 39; refine (put39_2 _ _ H.out (bitB_u64 _)).mono ?_; rintro e w' ⟨rfl, n, rfl⟩))
  go_ret
  exact ⟨ret_int (unmark_and x HX.out), _, rfl⟩

set_option maxHeartbeats 1000000 in
theorem head_any (s t : Int) (w : World) (hL : Lay w) (ht : U64 t) : Calls Tryd.prog 15 #[.int .i64 s, .int .u64 t] w fun e w' => e = .returned (.int .u64 (headW s t)) ∧ ∃ n, w' = w.drewN n := by
  have H := Lib.hid hL
  have HT := Lib.hid ht
  clear hL ht
  go_enter Tryd.func15, Tryd.ntmps15
  go_wp2_with fail
  refine (number_any _ _).mono ?_
  rintro e w' ⟨rfl, rfl⟩
  go_wp2_with fail
  refine (put42_3 _ _ H.out (numS_u64 _)).mono ?_
  rintro e w' ⟨rfl, n, rfl⟩
  go_wp2_with fail
  refine (put42_4 _ _ (H.out.drewN _) HT.out).mono ?_
  rintro e w' ⟨rfl, n2, rfl⟩
  go_wp2_with fail
  go_ret
  exact ⟨ret_int (or_up _ _ 16 16 48 (numS_in s).1 HT.out.1 (by decide) (by decide)), _, rfl⟩

set_option maxHeartbeats 1000000 in
theorem asHead_any (x : Int) (w : World) (hL : Lay w) (hx : U64 x) : Calls Tryd.prog 9 #[.int .u64 x] w fun e w' => e = .returned (.tuple #[.int .i64 (wSlot x), .int .u64 (fld x 16 48)]) ∧ ∃ n, w' = w.drewN n := by
  have H := Lib.hid hL
  have HX := Lib.hid hx
  clear hL hx
  go_enter Tryd.func9, Tryd.ntmps9
  go_wp2_with fail
  refine (take36_3 _ _ H.out HX.out).mono ?_
  rintro e w' ⟨rfl, n, rfl⟩
  go_wp2_with fail
  refine (asSlot_any _ _ (fld16 x).1 (fld16 x).2).mono ?_
  rintro e w' ⟨rfl, rfl⟩
  go_wp2_with fail
  refine (take37_4 _ _ (H.out.drewN _) HX.out).mono ?_
  rintro e w' ⟨rfl, n2, rfl⟩
  go_wp2_with fail
  go_ret2
  exact ⟨rfl, _, rfl⟩

set_option maxHeartbeats 1000000 in
theorem asHeader_any (x : Int) (w : World) (hL : Lay w) (hx : U64 x) : Calls Tryd.prog 23 #[.int .u64 x] w fun e w' => e = .returned (.tuple #[.int .u8 (stS (fld x 0 3)), .int .u32 (fld x 3 32)]) ∧ ∃ n, w' = w.drewN n := by
  have H := Lib.hid hL
  have HX := Lib.hid hx
  clear hL hx
  go_enter Tryd.func23, Tryd.ntmps23
  go_wp2_with fail
  refine (take48_5 _ _ H.out HX.out).mono ?_
  rintro e w' ⟨rfl, n, rfl⟩
  go_wp2_with fail
  refine (state_any _ _).mono ?_
  rintro e w' ⟨rfl, rfl⟩
  go_wp2_with fail
  refine (take44_6 _ _ (H.out.drewN _) HX.out).mono ?_
  rintro e w' ⟨rfl, n2, rfl⟩
  go_wp2_with fail
  go_ret2
  exact ⟨rfl, _, rfl⟩

set_option maxHeartbeats 1000000 in
theorem asBlock_any (x : Int) (w : World) (hL : Lay w) (hx : U64 x) : Calls Tryd.prog 25 #[.int .u64 x] w fun e w' => e = .returned (.tuple #[.int .u32 (fld x 0 32), .bool (fld x 32 1 != 0)]) ∧ ∃ n, w' = w.drewN n := by
  have H := Lib.hid hL
  have HX := Lib.hid hx
  clear hL hx
  go_enter Tryd.func25, Tryd.ntmps25
  go_wp2_with fail
  refine (take44_11 _ _ H.out HX.out).mono ?_
  rintro e w' ⟨rfl, n, rfl⟩
  go_wp2_with fail
  refine (take46_12 _ _ (H.out.drewN _) HX.out).mono ?_
  rintro e w' ⟨rfl, n2, rfl⟩
  go_wp2_with fail
  go_ret2
  exact ⟨rfl, _, rfl⟩

set_option maxHeartbeats 1000000 in
theorem header_any (s g : Int) (w : World) (hL : Lay w) (hs : 0 ≤ s) (hg : U64 g) : Calls Tryd.prog 27 #[.int .u8 s, .int .u32 g] w fun e w' => e = .returned (.int .u64 (headerW s g)) ∧ ∃ n, w' = w.drewN n := by
  have H := Lib.hid hL
  have HG := Lib.hid hg
  have hst : U64 (stS s) := by have := stS_in s hs; exact u64_small (by omega) (by omega)
  have HS := Lib.hid hst
  clear hL hg hst
  go_enter Tryd.func27, Tryd.ntmps27
  go_wp2_with fail
  refine (state_any _ _).mono ?_
  rintro e w' ⟨rfl, rfl⟩
  go_wp2_with fail
  refine (put49_5 _ _ H.out HS.out).mono ?_
  rintro e w' ⟨rfl, n, rfl⟩
  go_wp2_with fail
  refine (put43_6 _ _ (H.out.drewN _) HG.out).mono ?_
  rintro e w' ⟨rfl, n2, rfl⟩
  go_wp2_with fail
  go_ret
  exact ⟨ret_int (or_up _ _ 3 3 32 HS.out.1 HG.out.1 (by decide) (by decide)), _, rfl⟩

set_option maxHeartbeats 1000000 in
theorem block_any (j : Int) (c : Bool) (w : World) (hL : Lay w) (hj : U64 j) : Calls Tryd.prog 29 #[.int .u32 j, .bool c] w fun e w' => e = .returned (.int .u64 (blockW j c)) ∧ ∃ n, w' = w.drewN n := by
  have H := Lib.hid hL
  have HJ := Lib.hid hj
  clear hL hj
  go_enter Tryd.func29, Tryd.ntmps29
  go_wp2_with fail
  refine (put43_11 _ _ H.out HJ.out).mono ?_
  rintro e w' ⟨rfl, n, rfl⟩
  go_wp2_with fail
  refine (flag_any _ _).mono ?_
  rintro e w' ⟨rfl, rfl⟩
  go_wp2_with fail
  refine (put39_12 _ _ (H.out.drewN _) (bitB_u64 _)).mono ?_
  rintro e w' ⟨rfl, n2, rfl⟩
  go_wp2_with fail
  go_ret
  exact ⟨ret_int (or_up _ _ 32 32 1 HJ.out.1 (bitB_in c).1 (by decide) (by decide)), _, rfl⟩

set_option maxHeartbeats 1000000 in
theorem asRef_some (x : Int) (w : World) (hL : Lay w) (hx : U64 x) (hs : 0 ≤ slotS (fld x 0 16)) :
    Calls Tryd.prog 13 #[.int .u64 x] w fun e w' => e = .returned (.agg #[.int .i64 (slotS (fld x 0 16)), .int .u32 (fld x 16 32), .bool (wMark x)]) ∧ Below w.heap.size w w' := by
  have H := Lib.hid hL
  have HX := Lib.hid hx
  clear hL hx
  go_enter Tryd.func13, Tryd.ntmps13
  go_wp2_with fail
  refine (take36_0 _ _ (H.out.alloc _) HX.out).mono ?_
  rintro e w' ⟨rfl, n, rfl⟩
  go_wp2_with fail
  refine (asSlot_any _ _ (fld16 x).1 (fld16 x).2).mono ?_
  rintro e w' ⟨rfl, rfl⟩
  go_wp2_with fail
  refine (marked_any _ _ ((H.out.alloc _).drewN _) HX.out).mono ?_
  rintro e w' ⟨rfl, n2, rfl⟩
  go_wp2_with fail

  refine (take44_1 _ _ (((H.out.alloc _).drewN _).alloc _) HX.out).mono ?_
  rintro e w' ⟨rfl, n3, rfl⟩
  go_wp2_with fail
  exact bodyPost_ret (v := .agg #[.int .i64 (slotS (fld x 0 16)), .int .u32 (fld x 16 32), .bool (wMark x)]) (by simp [results, Tryd.results13, go_sem]) rfl ⟨rfl, ((((below_drewN' ((below_drewN' ((Below.refl _ _).alloc (Nat.le_refl _) _) _).alloc (by simp) _) _).setCell (Nat.le_succ _) _).setCell (Nat.le_refl _) _).setCell (Nat.le_refl _) _).setCell (Nat.le_refl _) _⟩

set_option maxHeartbeats 1000000 in
theorem asRef_none (x : Int) (w : World) (hL : Lay w) (hx : U64 x) (hs : slotS (fld x 0 16) < 0) :
    Calls Tryd.prog 13 #[.int .u64 x] w fun e w' => e = .returned (.agg #[.int .i64 (slotS (fld x 0 16)), .int .u32 0, .bool (wMark x)]) ∧ Below w.heap.size w w' := by
  have H := Lib.hid hL
  have HX := Lib.hid hx
  clear hL hx
  go_enter Tryd.func13, Tryd.ntmps13
  go_wp2_with fail
  refine (take36_0 _ _ (H.out.alloc _) HX.out).mono ?_
  rintro e w' ⟨rfl, n, rfl⟩
  go_wp2_with fail
  refine (asSlot_any _ _ (fld16 x).1 (fld16 x).2).mono ?_
  rintro e w' ⟨rfl, rfl⟩
  go_wp2_with fail
  refine (marked_any _ _ ((H.out.alloc _).drewN _) HX.out).mono ?_
  rintro e w' ⟨rfl, n2, rfl⟩
  go_wp2_with fail

  exact bodyPost_ret (v := .agg #[.int .i64 (slotS (fld x 0 16)), .int .u32 0, .bool (wMark x)]) (by simp [results, Tryd.results13, go_sem]) rfl ⟨rfl, ((((below_drewN' ((Below.refl _ _).alloc (Nat.le_refl _) _) _).setCell (Nat.le_refl _) _).setCell (Nat.le_refl _) _).setCell (Nat.le_refl _) _).alloc (by simp [World.setCell]) _⟩

theorem asRef_any (x : Int) (w : World) (hL : Lay w) (hx : U64 x) :
    Calls Tryd.prog 13 #[.int .u64 x] w fun e w' => e = .returned (.agg #[.int .i64 (wSlot x), .int .u32 (wGen x), .bool (wMark x)]) ∧ Below w.heap.size w w' := by
  by_cases hs : 0 ≤ slotS (fld x 0 16)
  · have e : wGen x = fld x 16 32 := if_pos hs
    rw [e]
    exact asRef_some x w hL hx hs
  · have e : wGen x = 0 := if_neg hs
    rw [e]
    exact asRef_none x w hL hx (by omega)
theorem ref_any (s g : Int) (m : Bool) (w : World) (hL : Lay w) (hg : U64 g) :
    Calls Tryd.prog 11 #[.agg #[.int .i64 s, .int .u32 g, .bool m]] w fun e w' => e = .returned (.int .u64 (refW s g m)) ∧ Below w.heap.size w w' := by
  by_cases hn : numS s = 0
  · have e : refW s g m = pw (bitB m) 63 1 := if_pos hn
    rw [e]
    exact ref_none s g m w hL (beq_iff_eq.2 hn)
  · have e : refW s g m = pw (bitB m) 63 1 + pw (numS s) 0 16 + pw g 16 32 := if_neg hn
    rw [e]
    exact ref_some s g m w hL hg (beq_eq_false_iff_ne.2 hn)

set_option maxHeartbeats 1000000 in
theorem phaseW_any (p o m k : Int) (w : World) (hL : Lay w) (hp : U64 (phS p)) (ho : U64 o) (hm : U64 m) (hk : U64 k) :
    Calls Tryd.prog 31 #[.agg #[.int .u8 p, .int .u8 o, .int .u8 m, .int .u64 k]] w fun e w' => e = .returned (.int .u64 (phaseW p o m k)) ∧ Below w.heap.size w w' := by
  have H := Lib.hid hL
  have HP := Lib.hid hp
  have HO := Lib.hid ho
  have HM := Lib.hid hm
  have HK := Lib.hid hk
  clear hL hp ho hm hk
  go_enter Tryd.func31, Tryd.ntmps31
  go_wp2
  go_quiet (first | (go_at_call 51; exact Calls.quiet_of_same (phase_any _ _)) | (go_at_call 50; exact Calls.quiet_of (put50_7 _ _ ((H.out.alloc _).drewN _) HP.out)) | (go_at_call_of 52 (Value.int IntKind.u8 o); exact Calls.quiet_of (put52_8 _ _ ((H.out.alloc _).drewN _) HO.out)) | (go_at_call_of 52 (Value.int IntKind.u8 m); exact Calls.quiet_of (put52_9 _ _ ((H.out.alloc _).drewN _) HM.out)) | (go_at_call 42; exact Calls.quiet_of (put42_10 _ _ ((H.out.alloc _).drewN _) HK.out)))
  go_wp2
  go_ret
  exact ⟨ret_int (phase_or _ _ _ _ HO.out.1 HM.out.1 HK.out.1), below_drewN' ((Below.refl _ _).alloc (Nat.le_refl _) _) _⟩

set_option maxHeartbeats 1000000 in
theorem asPhase_any (x : Int) (w : World) (hL : Lay w) (hx : U64 x) :
    Calls Tryd.prog 33 #[.int .u64 x] w fun e w' => e = .returned (.agg #[.int .u8 (phS (fld x 0 3)), .int .u8 (fld x 3 3), .int .u8 (fld x 6 3), .int .u64 (fld x 16 48)]) ∧ Below w.heap.size w w' := by
  have H := Lib.hid hL
  have HX := Lib.hid hx
  clear hL hx
  go_enter Tryd.func33, Tryd.ntmps33
  go_wp2_with fail
  refine (take53_7 _ _ (H.out.alloc _) HX.out).mono ?_
  rintro e w' ⟨rfl, n, rfl⟩
  go_wp2_with fail
  refine (phase_any _ _).mono ?_
  rintro e w' ⟨rfl, rfl⟩
  go_wp2_with fail
  refine (take54_8 _ _ ((H.out.alloc _).drewN _) HX.out).mono ?_
  rintro e w' ⟨rfl, n2, rfl⟩
  go_wp2_with fail
  refine (take54_9 _ _ ((H.out.alloc _).drewN _) HX.out).mono ?_
  rintro e w' ⟨rfl, n3, rfl⟩
  go_wp2_with fail
  refine (take37_10 _ _ ((H.out.alloc _).drewN _) HX.out).mono ?_
  rintro e w' ⟨rfl, n4, rfl⟩
  go_wp2_with fail
  exact bodyPost_ret (v := .agg #[.int .u8 (phS (fld x 0 3)), .int .u8 (fld x 3 3), .int .u8 (fld x 6 3), .int .u64 (fld x 16 48)]) (by simp [results, Tryd.results33, go_sem]) rfl ⟨rfl, (((((below_drewN' ((Below.refl _ _).alloc (Nat.le_refl _) _) _).setCell (Nat.le_refl _) _).setCell (Nat.le_refl _) _).setCell (Nat.le_refl _) _).setCell (Nat.le_refl _) _)⟩
end Go.Proofs.YtommlceihogelaaDoor
