/-
  The law WordsHeader walked: it answers true, and changes nothing that was there; condition: the table of fields reads as the program lays it, and the arguments are numbers of their kinds.
-/
import Derived.Test.YtommlceihogelaaDoorL1
import Derived.Test.YtommlceihogelaaDoorW6
namespace Go.Proofs.YtommlceihogelaaDoor
open Go.RowKit

theorem same_b {P : Program} {f : FuncId} {a : Array Value} {w : World} {v : Value} (h : Calls P f a w fun e w' => e = .returned v ∧ w' = w) : Calls P f a w fun e w' => e = .returned v ∧ Below w.heap.size w w' :=
  h.mono fun _ _ hh => ⟨hh.1, by rw [hh.2]; exact Below.refl _ _⟩
theorem quiet_b {P : Program} {f : FuncId} {a : Array Value} {w : World} {v : Value} (h : Calls P f a w fun e w' => e = .returned v ∧ ∃ n, w' = w.drewN n) : Calls P f a w fun e w' => e = .returned v ∧ Below w.heap.size w w' :=
  h.mono fun _ _ hh => ⟨hh.1, below_of_drewN hh.2⟩

set_option maxHeartbeats 2000000 in
theorem lawHeader (s n x : Int) (w : World) (hL : Lay w) (hs : U8 s) (hn : U32 n) (hx : U64 x) :
    Calls Tryd.prog 4 #[.int .u8 s, .int .u32 n, .int .u64 x] w fun e w' => e = .returned (.bool true) ∧ Below w.heap.size w w' := by
  have H := Lib.hid hL
  have H0 := Lib.hid hL
  have HS := Lib.hid hs
  have HX := Lib.hid hx
  have HN32 := Lib.hid hn
  have HN := Lib.hid (u64_small hn.1 hn.2)
  have B0 := Lib.hid (Below.refl w.heap.size w)
  clear hL hs hn hx
  go_enter Tryd.func4, Tryd.ntmps4
  go_wp2_with fail
  refine (quiet_b (asHeader_any x _ H0.out HX.out)).mono ?_
  rintro e w1 ⟨rfl, hb1⟩
  have B1 := Lib.hid (Below.next B0.out hb1)
  clear hb1
  have H1 := Lib.hid (H.out.below B1.out)
  go_wp2_with fail
  refine (same_b (asHeader24_any x _ HX.out)).mono ?_
  rintro e w2 ⟨rfl, hb2⟩
  have B2 := Lib.hid (Below.next B1.out hb2)
  clear hb2
  have H2 := Lib.hid (H.out.below B2.out)
  go_wp2_with fail
  refine (quiet_b (asBlock_any x _ H2.out HX.out)).mono ?_
  rintro e w3 ⟨rfl, hb3⟩
  have B3 := Lib.hid (Below.next B2.out hb3)
  clear hb3
  have H3 := Lib.hid (H.out.below B3.out)
  go_wp2_with fail
  refine (same_b (asBlock26_any x _ HX.out)).mono ?_
  rintro e w4 ⟨rfl, hb4⟩
  have B4 := Lib.hid (Below.next B3.out hb4)
  clear hb4
  have H4 := Lib.hid (H.out.below B4.out)
  go_wp2_with fail
  refine (quiet_b (header_any s n _ H4.out HS.out.1 HN.out)).mono ?_
  rintro e w5 ⟨rfl, hb5⟩
  have B5 := Lib.hid (Below.next B4.out hb5)
  clear hb5
  have H5 := Lib.hid (H.out.below B5.out)
  go_wp2_with fail
  refine (same_b (header28_any s n _ HS.out HN.out)).mono ?_
  rintro e w6 ⟨rfl, hb6⟩
  have B6 := Lib.hid (Below.next B5.out hb6)
  clear hb6
  have H6 := Lib.hid (H.out.below B6.out)
  go_wp2_with fail
  refine (quiet_b (block_any n true _ H6.out HN.out)).mono ?_
  rintro e w7 ⟨rfl, hb7⟩
  have B7 := Lib.hid (Below.next B6.out hb7)
  clear hb7
  have H7 := Lib.hid (H.out.below B7.out)
  go_wp2_with fail
  refine (same_b (block30_any n true _ HN32.out)).mono ?_
  rintro e w8 ⟨rfl, hb8⟩
  have B8 := Lib.hid (Below.next B7.out hb8)
  clear hb8
  have H8 := Lib.hid (H.out.below B8.out)
  go_wp2_with fail
  refine (quiet_b (block_any n false _ H8.out HN.out)).mono ?_
  rintro e w9 ⟨rfl, hb9⟩
  have B9 := Lib.hid (Below.next B8.out hb9)
  clear hb9
  have H9 := Lib.hid (H.out.below B9.out)
  go_wp2_with fail
  refine (same_b (block30_any n false _ HN32.out)).mono ?_
  rintro e w10 ⟨rfl, hb10⟩
  have B10 := Lib.hid (Below.next B9.out hb10)
  clear hb10
  have H10 := Lib.hid (H.out.below B10.out)
  go_wp2_with fail
  refine (lives_any _ H10.out).mono ?_
  rintro e w11 ⟨rfl, hb11⟩
  have B11 := Lib.hid (Below.next B10.out hb11)
  clear hb11
  have H11 := Lib.hid (H.out.below B11.out)
  go_wp2_with fail
  go_ret
  exact ⟨rfl, B11.out⟩
end Go.Proofs.YtommlceihogelaaDoor
