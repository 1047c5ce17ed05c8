/-
  The law WordsRef walked: it answers true, and changes nothing that was there; condition: the table of fields reads as the program lays it, and the arguments are numbers of their kinds.
-/
import Derived.Test.YtommlceihogelaaDoorLPhase
namespace Go.Proofs.YtommlceihogelaaDoor
open Go.RowKit

theorem ref12_any (s g : Int) (m : Bool) (w : World) (hg : U64 g) : Calls Tryd.prog 12 #[.agg #[.int .i64 s, .int .u32 g, .bool m]] w fun e w' => e = .returned (.int .u64 (refW s g m)) ∧ Below w.heap.size w w' := by
  by_cases h : 0 ≤ s ∧ s < 256
  · exact ref12_in s g m w hg h.1 h.2
  · exact ref12_out s g m w h
theorem bare_same (x : Int) : unmarkW x = fld x 0 63 := by
  unfold unmarkW fld
  rw [Int.pow_zero, Int.ediv_one]
theorem mark_same (x : Int) : markW x = fld x 0 63 + pw 1 63 1 := by
  unfold markW
  rw [← bare_same, pw_one, p63]
  rfl
theorem marked_bit (x : Int) (w : World) (hL : Lay w) (hx : U64 x) : Calls Tryd.prog 18 #[.int .u64 x] w fun e w' => e = .returned (.bool (fld x 63 1 == 1)) ∧ ∃ n, w' = w.drewN n := by
  rw [bit_ne]
  exact marked_any x w hL hx
theorem unmark_fld (x : Int) (w : World) (hL : Lay w) (hx : U64 x) : Calls Tryd.prog 19 #[.int .u64 x] w fun e w' => e = .returned (.int .u64 (fld x 0 63)) ∧ ∃ n, w' = w.drewN n := by
  rw [← bare_same]
  exact unmark_any x w hL hx
theorem mark_fld (x : Int) (w : World) (hL : Lay w) (hx : U64 x) : Calls Tryd.prog 20 #[.int .u64 x] w fun e w' => e = .returned (.int .u64 (fld x 0 63 + pw 1 63 1)) ∧ ∃ n, w' = w.drewN n := by
  rw [← mark_same]
  exact mark_any x w hL hx

/-- What a ref's box holds, while the world goes on. -/
def Box3 (w0 : World) (q : Nat) (s g : Int) (m : Bool) (w : World) : Prop :=
  (w.cell? ⟨q, 0, none⟩ = some (.int .i64 s) ∧ w.cell? ⟨q, 1, none⟩ = some (.int .u32 g) ∧ w.cell? ⟨q, 2, none⟩ = some (.bool m)) ∧ Hid (Below w0.heap.size w0 w)
theorem Box3.step {w0 w1 w2 : World} {q : Nat} {s g : Int} {m : Bool} (hq : q < w0.heap.size) (h : Box3 w0 q s g m w1) (hb : Below w1.heap.size w1 w2) : Box3 w0 q s g m w2 := by
  obtain ⟨⟨h0, h1, h2⟩, hB⟩ := h
  exact ⟨⟨cell_keep hB.out hb hq h0, cell_keep hB.out hb hq h1, cell_keep hB.out hb hq h2⟩, Lib.hid (Below.next hB.out hb)⟩
theorem Box3.lay {w0 w1 : World} {q : Nat} {s g : Int} {m : Bool} (h : Box3 w0 q s g m w1) (hL : Lay w0) : Lay w1 := hL.below h.2.out
theorem Box3.drew {w0 w1 : World} {q : Nat} {s g : Int} {m : Bool} (h : Box3 w0 q s g m w1) : Box3 w0 q s g m w1.drew := ⟨h.1, Lib.hid h.2.out.drew⟩
theorem Box3.done {B : Nat} {w w0 w1 : World} {q : Nat} {s g : Int} {m : Bool} (hB : Below B w w0) (hlt : B ≤ w0.heap.size) (h : Box3 w0 q s g m w1) : Below B w w1 := hB.trans (h.2.out.mono hlt)

set_option maxHeartbeats 4000000 in
theorem lawRef (s g : Int) (m : Bool) (t x : Int) (w : World) (hL : Lay w) (hg : U32 g) (ht : U64 t) (hx : U64 x) :
    Calls Tryd.prog 3 #[.agg #[.int .i64 s, .int .u32 g, .bool m], .int .u64 t, .int .u64 x] w fun e w' => e = .returned (.bool true) ∧ Below w.heap.size w w' := by
  have H := Lib.hid hL
  have HX := Lib.hid hx
  have HT := Lib.hid ht
  have HG := Lib.hid (u64_small hg.1 hg.2)
  have hB0 : Below w.heap.size w (w.alloc (.cells #[.int .i64 s, .int .u32 g, .bool m] 24)) := (Below.refl _ _).alloc (Nat.le_refl _) _
  have B0 := Lib.hid hB0
  have H0 := Lib.hid (hL.below hB0)
  have hsz : w.heap.size < (w.alloc (.cells #[.int .i64 s, .int .u32 g, .bool m] 24)).heap.size := by simp
  have hbox : Box3 (w.alloc (.cells #[.int .i64 s, .int .u32 g, .bool m] 24)) w.heap.size s g m (w.alloc (.cells #[.int .i64 s, .int .u32 g, .bool m] 24)) :=
    ⟨⟨by simp [go_sem], by simp [go_sem], by simp [go_sem]⟩, Lib.hid (Below.refl _ _)⟩
  clear hx ht hg hB0 hL
  go_enter Tryd.func3, Tryd.ntmps3
  go_wp2_with fail
  revert B0 H0 hsz hbox
  generalize w.alloc (.cells #[.int .i64 s, .int .u32 g, .bool m] 24) = w0
  intro B0 H0 hsz hbox
  refine (quiet_b (asHead_any x _ H0.out HX.out)).mono ?_
  rintro e w1 ⟨rfl, hb1⟩
  have K1 := Box3.step hsz hbox hb1
  clear hb1
  go_wp2_with fail
  refine (same_b (asHead10_any x _ HX.out)).mono ?_
  rintro e w2 ⟨rfl, hb2⟩
  have K2 := Box3.step hsz K1 hb2
  clear hb2
  go_wp2_with fail
  go_region_held3 (fun w1 => (w1.cell? ⟨w.heap.size, 0, none⟩ = some (.int .i64 s) ∧ w1.cell? ⟨w.heap.size, 1, none⟩ = some (.int .u32 g) ∧ w1.cell? ⟨w.heap.size, 2, none⟩ = some (.bool m)) ∧ Hid (Below w0.heap.size w0 w1))
    (first | exact Box3.drew K2 | (refine Box3.step hsz ?_ hb; assumption))
    (first
      | (go_at_call 11; refine (ref_any s g m _ ?_ HG.out).mono ?_; (refine Box3.lay (w0 := w0) (q := w.heap.size) (s := s) (g := g) (m := m) ?_ H0.out; assumption); rintro e w' ⟨rfl, hb⟩)
      | (go_at_call 12; refine (ref12_any s g m _ HG.out).mono ?_; rintro e w' ⟨rfl, hb⟩)
      | (go_at_call 13; refine (asRef_any x _ ?_ HX.out).mono ?_; (refine Box3.lay (w0 := w0) (q := w.heap.size) (s := s) (g := g) (m := m) ?_ H0.out; assumption); rintro e w' ⟨rfl, hb⟩)
      | (go_at_call 14; refine (asRef14_any x _ HX.out).mono ?_; rintro e w' ⟨rfl, hb⟩)
      | (go_at_call 15; refine (quiet_b (head_any s t _ ?_ HT.out)).mono ?_; (refine Box3.lay (w0 := w0) (q := w.heap.size) (s := s) (g := g) (m := m) ?_ H0.out; assumption); rintro e w' ⟨rfl, hb⟩)
      | (go_at_call 16; refine (same_b (head16_any s t _ HT.out)).mono ?_; rintro e w' ⟨rfl, hb⟩))
  have K3 : Box3 w0 w.heap.size s g m w' := by assumption
  have B2 := Lib.hid (K3.done B0.out (Nat.le_of_lt hsz))
  have H2 := Lib.hid (H.out.below B2.out)
  clear K1 K2 K3 hbox hb
  go_wp2_with fail
  refine (same_b (field_63_63 x _ HX.out)).mono ?_
  rintro e w3 ⟨rfl, hb3⟩
  have B3 := Lib.hid (Below.next B2.out hb3)
  clear hb3
  have H3 := Lib.hid (H.out.below B3.out)
  go_wp2_with fail
  refine (same_b (field_0_62 x _ HX.out)).mono ?_
  rintro e w4 ⟨rfl, hb4⟩
  have B4 := Lib.hid (Below.next B3.out hb4)
  clear hb4
  have H4 := Lib.hid (H.out.below B4.out)
  go_wp2_with fail
  refine (quiet_b (marked_bit x _ H4.out HX.out)).mono ?_
  rintro e w5 ⟨rfl, hb5⟩
  have B5 := Lib.hid (Below.next B4.out hb5)
  clear hb5
  have H5 := Lib.hid (H.out.below B5.out)
  go_wp2_with fail
  refine (quiet_b (unmark_fld x _ H5.out HX.out)).mono ?_
  rintro e w6 ⟨rfl, hb6⟩
  have B6 := Lib.hid (Below.next B5.out hb6)
  clear hb6
  have H6 := Lib.hid (H.out.below B6.out)
  go_wp2_with fail
  refine (quiet_b (mark_fld x _ H6.out HX.out)).mono ?_
  rintro e w7 ⟨rfl, hb7⟩
  have B7 := Lib.hid (Below.next B6.out hb7)
  clear hb7
  have H7 := Lib.hid (H.out.below B7.out)
  go_wp2_with fail
  refine (same_b (put_63_63 (fld x 0 63) 1 _ (fld_nonneg x 0 63) ⟨by decide, by decide⟩ (fld_lt x 0 63))).mono ?_
  rintro e w8 ⟨rfl, hb8⟩
  have B8 := Lib.hid (Below.next B7.out hb8)
  clear hb8
  have H8 := Lib.hid (H.out.below B8.out)
  go_wp2_with fail
  refine (lives_any _ H8.out).mono ?_
  rintro e w9 ⟨rfl, hb9⟩
  have B9 := Lib.hid (Below.next B8.out hb9)
  clear hb9
  have H9 := Lib.hid (H.out.below B9.out)
  go_wp2_with fail
  go_ret
  exact ⟨rfl, B9.out⟩
end Go.Proofs.YtommlceihogelaaDoor
