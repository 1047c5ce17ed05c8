/-
  The law WordsPhase walked: it answers true, and changes nothing that was there; condition: the table of fields reads as the program lays it, and the arguments are numbers of their kinds.
-/
import Derived.Test.YtommlceihogelaaDoorLHeader
import Derived.Deep.RegionHeld3
namespace Go.Proofs.YtommlceihogelaaDoor
open Go.RowKit

theorem cell_keep {w0 w1 w2 : World} (hB : Below w0.heap.size w0 w1) (hb : Below w1.heap.size w1 w2) {b o : Nat} {v : Value} (hs : b < w0.heap.size) (h : w1.cell? ⟨b, o, none⟩ = some v) : w2.cell? ⟨b, o, none⟩ = some v :=
  (hb.cell (p := ⟨b, o, none⟩) (Nat.lt_of_lt_of_le hs hB.size)).trans h

/-- What a phase's box holds, while the world goes on. -/
def Box4 (w0 : World) (g : Nat) (p o m k : Int) (w : World) : Prop :=
  (w.cell? ⟨g, 0, none⟩ = some (.int .u8 p) ∧ w.cell? ⟨g, 1, none⟩ = some (.int .u8 o) ∧ w.cell? ⟨g, 2, none⟩ = some (.int .u8 m) ∧ w.cell? ⟨g, 3, none⟩ = some (.int .u64 k)) ∧ Hid (Below w0.heap.size w0 w)
theorem Box4.step {w0 w1 w2 : World} {g : Nat} {p o m k : Int} (hg : g < w0.heap.size) (h : Box4 w0 g p o m k w1) (hb : Below w1.heap.size w1 w2) : Box4 w0 g p o m k w2 := by
  obtain ⟨⟨h0, h1, h2, h3⟩, hB⟩ := h
  exact ⟨⟨cell_keep hB.out hb hg h0, cell_keep hB.out hb hg h1, cell_keep hB.out hb hg h2, cell_keep hB.out hb hg h3⟩, Lib.hid (Below.next hB.out hb)⟩
theorem Box4.lay {w0 w1 : World} {g : Nat} {p o m k : Int} (h : Box4 w0 g p o m k w1) (hL : Lay w0) : Lay w1 := hL.below h.2.out

theorem Box4.drew {w0 w1 : World} {g : Nat} {p o m k : Int} (h : Box4 w0 g p o m k w1) : Box4 w0 g p o m k w1.drew := ⟨h.1, Lib.hid h.2.out.drew⟩
theorem Box4.done {B : Nat} {w w0 w1 : World} {g : Nat} {p o m k : Int} (hB : Below B w w0) (hlt : B ≤ w0.heap.size) (h : Box4 w0 g p o m k w1) : Below B w w1 := hB.trans (h.2.out.mono hlt)

set_option maxHeartbeats 4000000 in
theorem lawPhase (p o m k x : Int) (w : World) (hL : Lay w) (hp : U8 p) (ho : U8 o) (hm : U8 m) (hk : U64 k) (hx : U64 x) :
    Calls Tryd.prog 5 #[.agg #[.int .u8 p, .int .u8 o, .int .u8 m, .int .u64 k], .int .u64 x] w fun e w' => e = .returned (.bool true) ∧ Below w.heap.size w w' := by
  have HX := Lib.hid hx
  have HP := Lib.hid hp
  have HPP : Hid (U64 (phS p)) := Lib.hid (by have := phS_in p hp.1; exact u64_small (by omega) (by omega))
  have HO := Lib.hid (u64_small ho.1 (by have := ho.2; omega))
  have HM := Lib.hid (u64_small hm.1 (by have := hm.2; omega))
  have HK := Lib.hid hk
  have hB0 : Below w.heap.size w (w.alloc (.cells #[.int .u8 p, .int .u8 o, .int .u8 m, .int .u64 k] 48)) := (Below.refl _ _).alloc (Nat.le_refl _) _
  have B0 := Lib.hid hB0
  have H0 := Lib.hid (hL.below hB0)
  have hsz : w.heap.size < (w.alloc (.cells #[.int .u8 p, .int .u8 o, .int .u8 m, .int .u64 k] 48)).heap.size := by simp
  have hbox : Box4 (w.alloc (.cells #[.int .u8 p, .int .u8 o, .int .u8 m, .int .u64 k] 48)) w.heap.size p o m k (w.alloc (.cells #[.int .u8 p, .int .u8 o, .int .u8 m, .int .u64 k] 48)) :=
    ⟨⟨by simp [go_sem], by simp [go_sem], by simp [go_sem], by simp [go_sem]⟩, Lib.hid (Below.refl _ _)⟩
  clear hx hp ho hm hk hB0 hL
  go_enter Tryd.func5, Tryd.ntmps5
  go_wp2_with fail
  revert B0 H0 hsz hbox
  generalize w.alloc (.cells #[.int .u8 p, .int .u8 o, .int .u8 m, .int .u64 k] 48) = w0
  intro B0 H0 hsz hbox
  go_region_held3 (fun w1 => (w1.cell? ⟨w.heap.size, 0, none⟩ = some (.int .u8 p) ∧ w1.cell? ⟨w.heap.size, 1, none⟩ = some (.int .u8 o) ∧ w1.cell? ⟨w.heap.size, 2, none⟩ = some (.int .u8 m) ∧ w1.cell? ⟨w.heap.size, 3, none⟩ = some (.int .u64 k)) ∧ Hid (Below w0.heap.size w0 w1))
    (first | exact Box4.drew hbox | (refine Box4.step hsz ?_ hb; assumption))
    (first
      | (go_at_call 31; refine (phaseW_any p o m k _ ?_ HPP.out HO.out HM.out HK.out).mono ?_; (refine Box4.lay (w0 := w0) (g := w.heap.size) (p := p) (o := o) (m := m) (k := k) ?_ H0.out; assumption); rintro e w' ⟨rfl, hb⟩)
      | (go_at_call 32; refine (phase32_any p o m k _ HP.out HO.out HM.out HK.out).mono ?_; rintro e w' ⟨rfl, hb⟩)
      | (go_at_call 33; refine (asPhase_any x _ ?_ HX.out).mono ?_; (refine Box4.lay (w0 := w0) (g := w.heap.size) (p := p) (o := o) (m := m) (k := k) ?_ H0.out; assumption); rintro e w' ⟨rfl, hb⟩)
      | (go_at_call 34; refine (asPhase34_any x _ HX.out).mono ?_; rintro e w' ⟨rfl, hb⟩)
      | (go_at_call 22; refine (lives_any _ ?_).mono ?_; (refine Box4.lay (w0 := w0) (g := w.heap.size) (p := p) (o := o) (m := m) (k := k) ?_ H0.out; assumption); rintro e w' ⟨rfl, hb⟩))
  go_wp2
  go_ret
  exact ⟨rfl, Box4.done (w0 := w0) (g := w.heap.size) (p := p) (o := o) (m := m) (k := k) B0.out (Nat.le_of_lt hsz) (by assumption)⟩
end Go.Proofs.YtommlceihogelaaDoor
