/-
  The chapter's examples hold: the call answers true and changes nothing that was there; condition: the table of fields reads as the program lays it.
-/
import Derived.Test.YtommlceihogelaaDoorW2
namespace Go.Proofs.YtommlceihogelaaDoor
open Go.RowKit

theorem Below.next {w w1 w2 : World} (h : Below w.heap.size w w1) (k : Below w1.heap.size w1 w2) : Below w.heap.size w w2 := h.trans (k.mono h.size)
theorem below_of_drewN {w w' : World} (h : ∃ n, w' = w.drewN n) : Below w.heap.size w w' := by
  obtain ⟨n, rfl⟩ := h
  exact below_drewN' (Below.refl _ _) n

theorem lit_ref1 (w : World) (hL : Lay w) : Calls Tryd.prog 11 #[.agg #[.int .i64 2, .int .u32 5, .bool false]] w fun e w' => e = .returned (.int .u64 327683) ∧ Below w.heap.size w w' :=
  (ref_any 2 5 false w hL ⟨by decide, by decide⟩).mono fun _ _ h => ⟨h.1.trans (ret_int (by decide)), h.2⟩
theorem lit_ref2 (w : World) (hL : Lay w) : Calls Tryd.prog 11 #[.agg #[.int .i64 2, .int .u32 5, .bool true]] w fun e w' => e = .returned (.int .u64 9223372036855103491) ∧ Below w.heap.size w w' :=
  (ref_any 2 5 true w hL ⟨by decide, by decide⟩).mono fun _ _ h => ⟨h.1.trans (ret_int (by decide)), h.2⟩
theorem lit_ref3 (w : World) (hL : Lay w) : Calls Tryd.prog 11 #[.agg #[.int .i64 (-1), .int .u32 0, .bool false]] w fun e w' => e = .returned (.int .u64 0) ∧ Below w.heap.size w w' :=
  (ref_any (-1) 0 false w hL ⟨by decide, by decide⟩).mono fun _ _ h => ⟨h.1.trans (ret_int (by decide)), h.2⟩
theorem lit_asRef (w : World) (hL : Lay w) : Calls Tryd.prog 13 #[.int .u64 257] w fun e w' => e = .returned (.agg #[.int .i64 (-1), .int .u32 0, .bool false]) ∧ Below w.heap.size w w' :=
  (asRef_any 257 w hL ⟨by decide, by decide⟩).mono fun _ _ h => ⟨h.1.trans (by rw [show wSlot 257 = -1 by decide, show wGen 257 = 0 by decide, show wMark 257 = false by decide]), h.2⟩
theorem lit_head (w : World) (hL : Lay w) : Calls Tryd.prog 15 #[.int .i64 0, .int .u64 1] w fun e w' => e = .returned (.int .u64 65537) ∧ Below w.heap.size w w' :=
  (head_any 0 1 w hL ⟨by decide, by decide⟩).mono fun _ _ h => ⟨h.1.trans (ret_int (by decide)), below_of_drewN h.2⟩
theorem lit_header (w : World) (hL : Lay w) : Calls Tryd.prog 27 #[.int .u8 2, .int .u32 3] w fun e w' => e = .returned (.int .u64 26) ∧ Below w.heap.size w w' :=
  (header_any 2 3 w hL (by decide) ⟨by decide, by decide⟩).mono fun _ _ h => ⟨h.1.trans (ret_int (by decide)), below_of_drewN h.2⟩
theorem lit_phase (w : World) (hL : Lay w) : Calls Tryd.prog 31 #[.agg #[.int .u8 2, .int .u8 2, .int .u8 4, .int .u64 7]] w fun e w' => e = .returned (.int .u64 459026) ∧ Below w.heap.size w w' :=
  (phaseW_any 2 2 4 7 w hL ⟨by decide, by decide⟩ ⟨by decide, by decide⟩ ⟨by decide, by decide⟩ ⟨by decide, by decide⟩).mono fun _ _ h => ⟨h.1.trans (ret_int (by decide)), h.2⟩
theorem lit_block (w : World) (hL : Lay w) : Calls Tryd.prog 29 #[.int .u32 3, .bool true] w fun e w' => e = .returned (.int .u64 4294967299) ∧ Below w.heap.size w w' :=
  (block_any 3 true w hL ⟨by decide, by decide⟩).mono fun _ _ h => ⟨h.1.trans (ret_int (by decide)), below_of_drewN h.2⟩

set_option maxHeartbeats 1000000 in
theorem lives_any (w : World) (hL : Lay w) : Calls Tryd.prog 22 #[] w fun e w' => e = .returned (.bool true) ∧ Below w.heap.size w w' := by
  have H := Lib.hid hL
  clear hL
  go_enter Tryd.func22, Tryd.ntmps22
  go_wp2_with fail
  refine (lit_ref1 _ (H.out.alloc _)).mono ?_
  rintro e w1 ⟨rfl, hb1⟩
  have B1 := Lib.hid (Below.next ((Below.refl _ _).alloc (Nat.le_refl _) _) hb1)
  clear hb1
  have H1 := Lib.hid (H.out.below B1.out)
  go_wp2_with fail
  refine (lit_ref2 _ H1.out).mono ?_
  rintro e w2 ⟨rfl, hb2⟩
  have B2 := Lib.hid (Below.next B1.out hb2)
  clear hb2
  have H2 := Lib.hid (H.out.below B2.out)
  go_wp2_with fail
  refine (lit_ref3 _ H2.out).mono ?_
  rintro e w3 ⟨rfl, hb3⟩
  have B3 := Lib.hid (Below.next B2.out hb3)
  clear hb3
  have H3 := Lib.hid (H.out.below B3.out)
  go_wp2_with fail
  refine (lit_asRef _ H3.out).mono ?_
  rintro e w4 ⟨rfl, hb4⟩
  have B4 := Lib.hid (Below.next B3.out hb4)
  clear hb4
  have H4 := Lib.hid (H.out.below B4.out)
  go_wp2_with fail
  refine (lit_head _ H4.out).mono ?_
  rintro e w5 ⟨rfl, hb5⟩
  have B5 := Lib.hid (Below.next B4.out hb5)
  clear hb5
  have H5 := Lib.hid (H.out.below B5.out)
  go_wp2_with fail
  refine (lit_header _ H5.out).mono ?_
  rintro e w6 ⟨rfl, hb6⟩
  have B6 := Lib.hid (Below.next B5.out hb6)
  clear hb6
  have H6 := Lib.hid (H.out.below B6.out)
  go_wp2_with fail
  refine (lit_phase _ H6.out).mono ?_
  rintro e w7 ⟨rfl, hb7⟩
  have B7 := Lib.hid (Below.next B6.out hb7)
  clear hb7
  have H7 := Lib.hid (H.out.below B7.out)
  go_wp2_with fail
  refine (lit_block _ H7.out).mono ?_
  rintro e w8 ⟨rfl, hb8⟩
  have B8 := Lib.hid (Below.next B7.out hb8)
  clear hb8
  go_wp2_with fail
  go_ret
  exact ⟨rfl, B8.out⟩
end Go.Proofs.YtommlceihogelaaDoor
