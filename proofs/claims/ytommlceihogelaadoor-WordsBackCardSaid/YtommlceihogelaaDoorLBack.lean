/-
  The law WordsBack walked: it answers true, and changes nothing that was there; condition: the table of fields reads as the program lays it, and the arguments are numbers of their kinds.
-/
import Derived.Test.YtommlceihogelaaDoorLAgainD
import Derived.Lib.SmallJoins
namespace Go.Proofs.YtommlceihogelaaDoor
open Go.RowKit

theorem ref_outside (s g : Int) (m : Bool) (w : World) (hL : Lay w) (hg : U64 g) (h : ¬ (0 ≤ s ∧ s < 256)) : Calls Tryd.prog 11 #[.agg #[.int .i64 s, .int .u32 g, .bool m]] w fun e w' => e = .returned (.int .u64 (pw (bitB m) 63 1)) ∧ Below w.heap.size w w' := by
  have k := ref_any s g m w hL hg
  rwa [refW_none s g m h] at k
theorem head_outside (s t : Int) (w : World) (hL : Lay w) (ht : U64 t) (h : ¬ (0 ≤ s ∧ s < 256)) : Calls Tryd.prog 15 #[.int .i64 s, .int .u64 t] w fun e w' => e = .returned (.int .u64 (t % 281474976710656 * 65536)) ∧ Below w.heap.size w w' := by
  have k := quiet_b (head_any s t w hL ht)
  rwa [headW_eq, numS_no h, Int.zero_add] at k
/-- The two boxes, just made. -/
def w34 (w : World) (s g : Int) (m : Bool) (p o a k : Int) : World := (w.alloc (.cells #[.int .i64 s, .int .u32 g, .bool m] 24)).alloc (.cells #[.int .u8 p, .int .u8 o, .int .u8 a, .int .u64 k] 48)
theorem w34_box (w : World) (s g : Int) (m : Bool) (p o a k : Int) : Box34 (w34 w s g m p o a k) w.heap.size (w.heap.size + 1) s g m p o a k (w34 w s g m p o a k) := by
  refine ⟨?_, Lib.hid (Below.refl _ _)⟩
  unfold w34
  refine ⟨?_, ?_, ?_, ?_, ?_, ?_, ?_⟩ <;> simp [go_sem]
theorem w34_below (w : World) (s g : Int) (m : Bool) (p o a k : Int) : Below w.heap.size w (w34 w s g m p o a k) := ((Below.refl _ _).alloc (Nat.le_refl _) _).alloc (by simp) _
theorem w34_size (w : World) (s g : Int) (m : Bool) (p o a k : Int) : w.heap.size + 1 < (w34 w s g m p o a k).heap.size := by unfold w34; simp
/-- The phase's box, whole, so that it may be stored into. -/
theorem w34_frozen (w : World) (s g : Int) (m : Bool) (p o a k : Int) (i : Nat) : (w34 w s g m p o a k).frozen? ⟨w.heap.size + 1, i, none⟩ = false := by
  unfold w34
  rw [frozen?_alloc_cells, frozen?_alloc_cells]
  simp [World.frozen?]
theorem Box34.done {B : Nat} {w w0 w1 : World} {q r : Nat} {s g : Int} {b : Bool} {p o m k : Int} (hB : Below B w w0) (hlt : B ≤ w0.heap.size) (h : Box34 w0 q r s g b p o m k w1) : Below B w w1 := hB.trans (h.2.out.mono hlt)
theorem Box34.frozen {w0 w1 : World} {q r : Nat} {s g : Int} {b : Bool} {p o m k : Int} (hr : r < w0.heap.size) (h : Box34 w0 q r s g b p o m k w1) (hf : ∀ i, w0.frozen? ⟨r, i, none⟩ = false) (i : Nat) : w1.frozen? ⟨r, i, none⟩ = false :=
  (h.2.out.frozen (p := ⟨r, i, none⟩) hr).trans (hf i)
theorem tag_in (t : Int) (ht : U64 t) : 0 ≤ IntKind.u64.wrap (t * 65536) / 65536 ∧ IntKind.u64.wrap (t * 65536) / 65536 < 281474976710656 := by
  rw [tag_low t ht]
  omega
/-- Four stores into the phase's box. -/
def four (w : World) (r : Nat) (p o a k : Int) : World := (((w.setCell ⟨r, 0, none⟩ (.int .u8 p)).setCell ⟨r, 1, none⟩ (.int .u8 o)).setCell ⟨r, 2, none⟩ (.int .u8 a)).setCell ⟨r, 3, none⟩ (.int .u64 k)
theorem four_size (w : World) (r : Nat) (p o a k : Int) : (four w r p o a k).heap.size = w.heap.size := by simp [four, World.setCell]
theorem four_below {B : Nat} {u w : World} (h : Below B u w) (r : Nat) (hr : B ≤ r) (p o a k : Int) : Below B u (four w r p o a k) := (((h.setCell hr _).setCell hr _).setCell hr _).setCell hr _
theorem four_lay {w : World} (h : Lay w) (r : Nat) (hr : 0 < r) (p o a k : Int) : Lay (four w r p o a k) := (((h.setCell _ hr _).setCell _ hr _).setCell _ hr _).setCell _ hr _
theorem four_box {w0 w : World} {q r : Nat} {s g : Int} {b : Bool} {p o a k p' o' a' k' : Int} (hqr : q ≠ r) (h : Box34 w0 q r s g b p o a k w) : Box34 (four w r p' o' a' k') q r s g b p' o' a' k' (four w r p' o' a' k') := by
  obtain ⟨⟨h0, h1, h2, h3, h4, h5, h6⟩, _⟩ := h
  refine ⟨?_, Lib.hid (Below.refl _ _)⟩
  unfold four
  refine ⟨?_, ?_, ?_, ?_, ?_, ?_, ?_⟩ <;> simp [go_sem, h0, h1, h2, h3, h4, h5, h6]

set_option maxRecDepth 100000 in
set_option maxHeartbeats 4000000 in
theorem back_o1 (s g : Int) (m : Bool) (t p o a k : Int) (w : World) (hL : Lay w) (hg : U64 g) (ht : U64 t) (h : s < -1) : Calls Tryd.prog 6 #[.agg #[.int .i64 s, .int .u32 g, .bool m], .int .u64 t, .agg #[.int .u8 p, .int .u8 o, .int .u8 a, .int .u64 k]] w fun e w' => e = .returned (.bool true) ∧ Below w.heap.size w w' := by
  have HG := Lib.hid hg
  have HT := Lib.hid ht
  have hout : ¬ (0 ≤ s ∧ s < 256) := by omega
  have HO := Lib.hid hout
  have B0 := Lib.hid (w34_below w s g m p o a k)
  have H0 := Lib.hid (hL.below (w34_below w s g m p o a k))
  have hr := w34_size w s g m p o a k
  have hq : w.heap.size < (w34 w s g m p o a k).heap.size := by omega
  have hbox := w34_box w s g m p o a k
  clear hL hg ht hout
  go_enter Tryd.func6, Tryd.ntmps6
  go_wp2_with fail
  rw [show (w.alloc (.cells #[.int .i64 s, .int .u32 g, .bool m] 24)).alloc (.cells #[.int .u8 p, .int .u8 o, .int .u8 a, .int .u64 k] 48) = w34 w s g m p o a k from rfl]
  revert B0 H0 hr hq hbox
  generalize w34 w s g m p o a k = w0
  intro B0 H0 hr hq hbox
  go_region_held3 (fun w1 => (w1.cell? ⟨w.heap.size, 0, none⟩ = some (.int .i64 s) ∧ w1.cell? ⟨w.heap.size, 1, none⟩ = some (.int .u32 g) ∧ w1.cell? ⟨w.heap.size, 2, none⟩ = some (.bool m) ∧ w1.cell? ⟨w.heap.size + 1, 0, none⟩ = some (.int .u8 p) ∧ w1.cell? ⟨w.heap.size + 1, 1, none⟩ = some (.int .u8 o) ∧ w1.cell? ⟨w.heap.size + 1, 2, none⟩ = some (.int .u8 a) ∧ w1.cell? ⟨w.heap.size + 1, 3, none⟩ = some (.int .u64 k)) ∧ Hid (Below w0.heap.size w0 w1))
    (first | exact Box34.drew hbox | (refine Box34.step hq hr ?_ hb; assumption))
    (first
      | (go_at_call_of 11 (Value.int IntKind.i64 s); refine (ref_outside s g m _ ?_ HG.out HO.out).mono ?_; (refine Box34.lay (w0 := w0) (q := w.heap.size) (r := w.heap.size + 1) (s := s) (g := g) (b := m) (p := p) (o := o) (m := a) (k := k) ?_ H0.out; assumption); rintro e w' ⟨rfl, hb⟩)
      | (go_at_call 11; refine (ref_outside (-1) 0 m _ ?_ ⟨by decide, by decide⟩ (by decide)).mono ?_; (refine Box34.lay (w0 := w0) (q := w.heap.size) (r := w.heap.size + 1) (s := s) (g := g) (b := m) (p := p) (o := o) (m := a) (k := k) ?_ H0.out; assumption); rintro e w' ⟨rfl, hb⟩)
      | (go_at_call_of 15 (Value.int IntKind.i64 s); refine (head_outside s t _ ?_ HT.out HO.out).mono ?_; (refine Box34.lay (w0 := w0) (q := w.heap.size) (r := w.heap.size + 1) (s := s) (g := g) (b := m) (p := p) (o := o) (m := a) (k := k) ?_ H0.out; assumption); rintro e w' ⟨rfl, hb⟩)
      | (go_at_call 15; refine (head_outside (-1) t _ ?_ HT.out (by decide)).mono ?_; (refine Box34.lay (w0 := w0) (q := w.heap.size) (r := w.heap.size + 1) (s := s) (g := g) (b := m) (p := p) (o := o) (m := a) (k := k) ?_ H0.out; assumption); rintro e w' ⟨rfl, hb⟩)
      | (go_at_call 22; refine (lives_any _ ?_).mono ?_; (refine Box34.lay (w0 := w0) (q := w.heap.size) (r := w.heap.size + 1) (s := s) (g := g) (b := m) (p := p) (o := o) (m := a) (k := k) ?_ H0.out; assumption); rintro e w' ⟨rfl, hb⟩))
  go_wp2
  go_ret
  exact ⟨rfl, Box34.done (w0 := w0) (q := w.heap.size) (r := w.heap.size + 1) (s := s) (g := g) (b := m) (p := p) (o := o) (m := a) (k := k) B0.out (by omega) (by assumption)⟩

set_option maxRecDepth 100000 in
set_option maxHeartbeats 4000000 in
theorem back_o2 (s g : Int) (m : Bool) (t p o a k : Int) (w : World) (hL : Lay w) (hg : U64 g) (ht : U64 t) (_h0 : ¬ s < -1) (h : 256 ≤ s) : Calls Tryd.prog 6 #[.agg #[.int .i64 s, .int .u32 g, .bool m], .int .u64 t, .agg #[.int .u8 p, .int .u8 o, .int .u8 a, .int .u64 k]] w fun e w' => e = .returned (.bool true) ∧ Below w.heap.size w w' := by
  have HG := Lib.hid hg
  have HT := Lib.hid ht
  have hout : ¬ (0 ≤ s ∧ s < 256) := by omega
  have HO := Lib.hid hout
  have B0 := Lib.hid (w34_below w s g m p o a k)
  have H0 := Lib.hid (hL.below (w34_below w s g m p o a k))
  have hr := w34_size w s g m p o a k
  have hq : w.heap.size < (w34 w s g m p o a k).heap.size := by omega
  have hbox := w34_box w s g m p o a k
  clear hL hg ht hout
  go_enter Tryd.func6, Tryd.ntmps6
  go_wp2_with fail
  rw [show (w.alloc (.cells #[.int .i64 s, .int .u32 g, .bool m] 24)).alloc (.cells #[.int .u8 p, .int .u8 o, .int .u8 a, .int .u64 k] 48) = w34 w s g m p o a k from rfl]
  revert B0 H0 hr hq hbox
  generalize w34 w s g m p o a k = w0
  intro B0 H0 hr hq hbox
  go_region_held3 (fun w1 => (w1.cell? ⟨w.heap.size, 0, none⟩ = some (.int .i64 s) ∧ w1.cell? ⟨w.heap.size, 1, none⟩ = some (.int .u32 g) ∧ w1.cell? ⟨w.heap.size, 2, none⟩ = some (.bool m) ∧ w1.cell? ⟨w.heap.size + 1, 0, none⟩ = some (.int .u8 p) ∧ w1.cell? ⟨w.heap.size + 1, 1, none⟩ = some (.int .u8 o) ∧ w1.cell? ⟨w.heap.size + 1, 2, none⟩ = some (.int .u8 a) ∧ w1.cell? ⟨w.heap.size + 1, 3, none⟩ = some (.int .u64 k)) ∧ Hid (Below w0.heap.size w0 w1))
    (first | exact Box34.drew hbox | (refine Box34.step hq hr ?_ hb; assumption))
    (first
      | (go_at_call_of 11 (Value.int IntKind.i64 s); refine (ref_outside s g m _ ?_ HG.out HO.out).mono ?_; (refine Box34.lay (w0 := w0) (q := w.heap.size) (r := w.heap.size + 1) (s := s) (g := g) (b := m) (p := p) (o := o) (m := a) (k := k) ?_ H0.out; assumption); rintro e w' ⟨rfl, hb⟩)
      | (go_at_call 11; refine (ref_outside (-1) 0 m _ ?_ ⟨by decide, by decide⟩ (by decide)).mono ?_; (refine Box34.lay (w0 := w0) (q := w.heap.size) (r := w.heap.size + 1) (s := s) (g := g) (b := m) (p := p) (o := o) (m := a) (k := k) ?_ H0.out; assumption); rintro e w' ⟨rfl, hb⟩)
      | (go_at_call_of 15 (Value.int IntKind.i64 s); refine (head_outside s t _ ?_ HT.out HO.out).mono ?_; (refine Box34.lay (w0 := w0) (q := w.heap.size) (r := w.heap.size + 1) (s := s) (g := g) (b := m) (p := p) (o := o) (m := a) (k := k) ?_ H0.out; assumption); rintro e w' ⟨rfl, hb⟩)
      | (go_at_call 15; refine (head_outside (-1) t _ ?_ HT.out (by decide)).mono ?_; (refine Box34.lay (w0 := w0) (q := w.heap.size) (r := w.heap.size + 1) (s := s) (g := g) (b := m) (p := p) (o := o) (m := a) (k := k) ?_ H0.out; assumption); rintro e w' ⟨rfl, hb⟩)
      | (go_at_call 22; refine (lives_any _ ?_).mono ?_; (refine Box34.lay (w0 := w0) (q := w.heap.size) (r := w.heap.size + 1) (s := s) (g := g) (b := m) (p := p) (o := o) (m := a) (k := k) ?_ H0.out; assumption); rintro e w' ⟨rfl, hb⟩))
  go_wp2
  go_ret
  exact ⟨rfl, Box34.done (w0 := w0) (q := w.heap.size) (r := w.heap.size + 1) (s := s) (g := g) (b := m) (p := p) (o := o) (m := a) (k := k) B0.out (by omega) (by assumption)⟩

set_option maxRecDepth 100000 in
set_option maxHeartbeats 8000000 in
theorem back_n (s g : Int) (m : Bool) (t p o a k : Int) (w : World) (hL : Lay w) (h0 : 0 ≤ s) (h1 : s < 256) (hg : U32 g) (ht : U64 t) (hp : U8 p) (ho : U8 o) (ha : U8 a) (hk : U64 k) : Calls Tryd.prog 6 #[.agg #[.int .i64 s, .int .u32 g, .bool m], .int .u64 t, .agg #[.int .u8 p, .int .u8 o, .int .u8 a, .int .u64 k]] w fun e w' => e = .returned (.bool true) ∧ Below w.heap.size w w' := by
  have HG32 := Lib.hid hg
  have HG := Lib.hid (u64_small hg.1 hg.2)
  have HT := Lib.hid (tag_in t ht)
  have HK := Lib.hid (tag_in k hk)
  have hp0 := hp.1
  have ho0 := ho.1
  have ha0 := ha.1
  have ht0 := (tag_in t ht).1
  have HTU := Lib.hid (show U64 (IntKind.u64.wrap (t * 65536) / 65536) from ⟨(tag_in t ht).1, by have := (tag_in t ht).2; omega⟩)
  have B0 := Lib.hid (w34_below w s g m p o a k)
  have H0 := Lib.hid (hL.below (w34_below w s g m p o a k))
  have hr := w34_size w s g m p o a k
  have hq : w.heap.size < (w34 w s g m p o a k).heap.size := by omega
  have hbox := w34_box w s g m p o a k
  have hfr := Lib.hid (w34_frozen w s g m p o a k)
  clear hL hg ht hp ho ha hk
  go_enter Tryd.func6, Tryd.ntmps6
  go_wp2_with fail
  rw [show (w.alloc (.cells #[.int .i64 s, .int .u32 g, .bool m] 24)).alloc (.cells #[.int .u8 p, .int .u8 o, .int .u8 a, .int .u64 k] 48) = w34 w s g m p o a k from rfl]
  revert B0 H0 hr hq hbox hfr
  generalize w34 w s g m p o a k = w0
  intro B0 H0 hr hq hbox hfr
  refine (quiet_b (head_any s (IntKind.u64.wrap (t * 65536) / 65536) _ H0.out HTU.out)).mono ?_
  rintro e w1 ⟨rfl, hb1⟩
  have M1 := Box34.step hq hr hbox hb1
  have H1 := Lib.hid (M1.lay H0.out)
  clear hb1
  go_wp2_with fail
  refine (asHead_of s (IntKind.u64.wrap (t * 65536) / 65536) _ H1.out (by omega) h1 HT.out.1 HT.out.2).mono ?_
  rintro e w2 ⟨rfl, hb2⟩
  have M2 := Box34.step hq hr M1 hb2
  clear hb2
  go_wp2_with fail
  go_region_held3 (fun w1 => (w1.cell? ⟨w.heap.size, 0, none⟩ = some (.int .i64 s) ∧ w1.cell? ⟨w.heap.size, 1, none⟩ = some (.int .u32 g) ∧ w1.cell? ⟨w.heap.size, 2, none⟩ = some (.bool m) ∧ w1.cell? ⟨w.heap.size + 1, 0, none⟩ = some (.int .u8 p) ∧ w1.cell? ⟨w.heap.size + 1, 1, none⟩ = some (.int .u8 o) ∧ w1.cell? ⟨w.heap.size + 1, 2, none⟩ = some (.int .u8 a) ∧ w1.cell? ⟨w.heap.size + 1, 3, none⟩ = some (.int .u64 k)) ∧ Hid (Below w0.heap.size w0 w1))
    (first | exact Box34.drew M2 | (refine Box34.step hq hr ?_ hb; assumption))
    (first
      | (go_at_call 11; refine (ref_any s g m _ ?_ HG.out).mono ?_; (refine Box34.lay (w0 := w0) (q := w.heap.size) (r := w.heap.size + 1) (s := s) (g := g) (b := m) (p := p) (o := o) (m := a) (k := k) ?_ H0.out; assumption); rintro e w' ⟨rfl, hb⟩)
      | (go_at_call 13; refine (asRef_of s g m _ ?_ (by omega) h1 HG32.out (by first | (intro _; rfl) | (intro h; omega))).mono ?_; (refine Box34.lay (w0 := w0) (q := w.heap.size) (r := w.heap.size + 1) (s := s) (g := g) (b := m) (p := p) (o := o) (m := a) (k := k) ?_ H0.out; assumption); rintro e w' ⟨rfl, hb⟩))
  have M3 : Box34 w0 w.heap.size (w.heap.size + 1) s g m p o a k w' := by assumption
  have f0 := M3.frozen hr hfr.out 0
  have f1 := M3.frozen hr hfr.out 1
  have f2 := M3.frozen hr hfr.out 2
  have f3 := M3.frozen hr hfr.out 3
  obtain ⟨⟨_, _, _, c3, c4, c5, c6⟩, _⟩ := id M3
  clear M1 M2 hb hbox H1
  go_wp2_with fail
  have MV : Box34 (four w' (w.heap.size + 1) (p % 4) (o % 8) (a % 8) (IntKind.u64.wrap (k * 65536) / 65536)) w.heap.size (w.heap.size + 1) s g m (p % 4) (o % 8) (a % 8) (IntKind.u64.wrap (k * 65536) / 65536) (four w' (w.heap.size + 1) (p % 4) (o % 8) (a % 8) (IntKind.u64.wrap (k * 65536) / 65536)) := four_box (by omega) M3
  have BV := Lib.hid (four_below (M3.done B0.out (by omega)) (w.heap.size + 1) (Nat.le_succ _) (p % 4) (o % 8) (a % 8) (IntKind.u64.wrap (k * 65536) / 65536))
  have HV := Lib.hid (four_lay (M3.lay H0.out) (w.heap.size + 1) (Nat.succ_pos _) (p % 4) (o % 8) (a % 8) (IntKind.u64.wrap (k * 65536) / 65536))
  have hrv : w.heap.size + 1 < (four w' (w.heap.size + 1) (p % 4) (o % 8) (a % 8) (IntKind.u64.wrap (k * 65536) / 65536)).heap.size := by rw [four_size]; exact Nat.lt_of_lt_of_le hr M3.2.out.size
  have hqv : w.heap.size < (four w' (w.heap.size + 1) (p % 4) (o % 8) (a % 8) (IntKind.u64.wrap (k * 65536) / 65536)).heap.size := Nat.lt_of_succ_lt hrv
  clear f0 f1 f2 f3 c3 c4 c5 c6 M3
  rw [show (((w'.setCell ⟨w.heap.size + 1, 0, none⟩ (.int .u8 (p % 4))).setCell ⟨w.heap.size + 1, 1, none⟩ (.int .u8 (o % 8))).setCell ⟨w.heap.size + 1, 2, none⟩ (.int .u8 (a % 8))).setCell ⟨w.heap.size + 1, 3, none⟩ (.int .u64 (IntKind.u64.wrap (k * 65536) / 65536)) = four w' (w.heap.size + 1) (p % 4) (o % 8) (a % 8) (IntKind.u64.wrap (k * 65536) / 65536) from rfl]
  revert MV BV HV hrv hqv
  generalize four w' (w.heap.size + 1) (p % 4) (o % 8) (a % 8) (IntKind.u64.wrap (k * 65536) / 65536) = v2
  intro MV BV HV hrv hqv
  refine (quiet_b (header_any ((IntKind.u64.wrap (t * 65536) / 65536) % 5) g _ HV.out (by omega) HG.out)).mono ?_
  rintro e w3 ⟨rfl, hb3⟩
  have N3 := Box34.step hqv hrv MV hb3
  have K3 := Lib.hid (N3.lay HV.out)
  clear hb3
  go_wp2_with fail
  refine (asHeader_of ((IntKind.u64.wrap (t * 65536) / 65536) % 5) g _ K3.out (by omega) (by omega) HG32.out).mono ?_
  rintro e w4 ⟨rfl, hb4⟩
  have N4 := Box34.step hqv hrv N3 hb4
  have K4 := Lib.hid (N4.lay HV.out)
  have C4 := N4.1
  clear hb4
  obtain ⟨d0, d1, d2, _⟩ := C4
  go_wp2_with fail
  clear d0 d1 d2
  refine (quiet_b (block_any g m _ K4.out HG.out)).mono ?_
  rintro e w5 ⟨rfl, hb5⟩
  have N5 := Box34.step hqv hrv N4 hb5
  have K5 := Lib.hid (N5.lay HV.out)
  clear hb5
  go_wp2_with fail
  refine (asBlock_of g m _ K5.out HG32.out).mono ?_
  rintro e w6 ⟨rfl, hb6⟩
  have N6 := Box34.step hqv hrv N5 hb6
  clear hb6 N3 N4 N5 MV
  go_wp2_with fail
  have e1 : Int.tmod (IntKind.u64.wrap (t * 65536) / 65536) 5 = ((IntKind.u64.wrap (t * 65536) / 65536) % 5) := Int.tmod_eq_emod_of_nonneg ht0
  have e2 : IntKind.u8.wrap ((IntKind.u64.wrap (t * 65536) / 65536) % 5) = ((IntKind.u64.wrap (t * 65536) / 65536) % 5) := by rw [IntKind.wrap_u8']; exact Int.emod_eq_of_lt (by omega) (by omega)
  go_region_held3 (fun w1 => (w1.cell? ⟨w.heap.size, 0, none⟩ = some (.int .i64 s) ∧ w1.cell? ⟨w.heap.size, 1, none⟩ = some (.int .u32 g) ∧ w1.cell? ⟨w.heap.size, 2, none⟩ = some (.bool m) ∧ w1.cell? ⟨w.heap.size + 1, 0, none⟩ = some (.int .u8 (p % 4)) ∧ w1.cell? ⟨w.heap.size + 1, 1, none⟩ = some (.int .u8 (o % 8)) ∧ w1.cell? ⟨w.heap.size + 1, 2, none⟩ = some (.int .u8 (a % 8)) ∧ w1.cell? ⟨w.heap.size + 1, 3, none⟩ = some (.int .u64 (IntKind.u64.wrap (k * 65536) / 65536))) ∧ Hid (Below v2.heap.size v2 w1))
    (first | exact Box34.drew N6 | (refine Box34.step hqv hrv ?_ hb; assumption))
    (first
      | (go_at_call 31; refine (phaseW_any (p % 4) (o % 8) (a % 8) (IntKind.u64.wrap (k * 65536) / 65536) _ ?_ (phS_u64 _ (by omega) (by omega)) (u64_small (by omega) (by omega)) (u64_small (by omega) (by omega)) ⟨HK.out.1, by have := HK.out.2; omega⟩).mono ?_; (refine Box34.lay (w0 := v2) (q := w.heap.size) (r := w.heap.size + 1) (s := s) (g := g) (b := m) (p := (p % 4)) (o := (o % 8)) (m := (a % 8)) (k := (IntKind.u64.wrap (k * 65536) / 65536)) ?_ HV.out; assumption); rintro e w' ⟨rfl, hb⟩)
      | (go_at_call 33; refine (asPhase_of (p % 4) (o % 8) (a % 8) (IntKind.u64.wrap (k * 65536) / 65536) _ ?_ (by omega) (by omega) (by omega) (by omega) (by omega) (by omega) HK.out.1 HK.out.2).mono ?_; (refine Box34.lay (w0 := v2) (q := w.heap.size) (r := w.heap.size + 1) (s := s) (g := g) (b := m) (p := (p % 4)) (o := (o % 8)) (m := (a % 8)) (k := (IntKind.u64.wrap (k * 65536) / 65536)) ?_ HV.out; assumption); rintro e w' ⟨rfl, hb⟩)
      | (go_at_call 22; refine (lives_any _ ?_).mono ?_; (refine Box34.lay (w0 := v2) (q := w.heap.size) (r := w.heap.size + 1) (s := s) (g := g) (b := m) (p := (p % 4)) (o := (o % 8)) (m := (a % 8)) (k := (IntKind.u64.wrap (k * 65536) / 65536)) ?_ HV.out; assumption); rintro e w' ⟨rfl, hb⟩))
  go_wp2
  go_ret
  exact ⟨rfl, Box34.done (w0 := v2) (q := w.heap.size) (r := w.heap.size + 1) (s := s) (g := g) (b := m) (p := (p % 4)) (o := (o % 8)) (m := (a % 8)) (k := (IntKind.u64.wrap (k * 65536) / 65536)) BV.out (by omega) (by assumption)⟩

set_option maxRecDepth 100000 in
set_option maxHeartbeats 8000000 in
theorem back_y (g : Int) (m : Bool) (t p o a k : Int) (w : World) (hL : Lay w)  (hg : U32 g) (ht : U64 t) (hp : U8 p) (ho : U8 o) (ha : U8 a) (hk : U64 k) : Calls Tryd.prog 6 #[.agg #[.int .i64 (-1), .int .u32 g, .bool m], .int .u64 t, .agg #[.int .u8 p, .int .u8 o, .int .u8 a, .int .u64 k]] w fun e w' => e = .returned (.bool true) ∧ Below w.heap.size w w' := by
  have HG32 := Lib.hid hg
  have HG := Lib.hid (u64_small hg.1 hg.2)
  have HT := Lib.hid (tag_in t ht)
  have HK := Lib.hid (tag_in k hk)
  have hp0 := hp.1
  have ho0 := ho.1
  have ha0 := ha.1
  have ht0 := (tag_in t ht).1
  have HTU := Lib.hid (show U64 (IntKind.u64.wrap (t * 65536) / 65536) from ⟨(tag_in t ht).1, by have := (tag_in t ht).2; omega⟩)
  have B0 := Lib.hid (w34_below w (-1) 0 m p o a k)
  have H0 := Lib.hid (hL.below (w34_below w (-1) 0 m p o a k))
  have hr := w34_size w (-1) 0 m p o a k
  have hq : w.heap.size < (w34 w (-1) 0 m p o a k).heap.size := by omega
  have hbox := w34_box w (-1) 0 m p o a k
  have hfr := Lib.hid (w34_frozen w (-1) 0 m p o a k)
  clear hL hg ht hp ho ha hk
  go_enter Tryd.func6, Tryd.ntmps6
  go_wp2_with fail
  rw [show (w.alloc (.cells #[.int .i64 (-1), .int .u32 0, .bool m] 24)).alloc (.cells #[.int .u8 p, .int .u8 o, .int .u8 a, .int .u64 k] 48) = w34 w (-1) 0 m p o a k from rfl]
  revert B0 H0 hr hq hbox hfr
  generalize w34 w (-1) 0 m p o a k = w0
  intro B0 H0 hr hq hbox hfr
  refine (quiet_b (head_any (-1) (IntKind.u64.wrap (t * 65536) / 65536) _ H0.out HTU.out)).mono ?_
  rintro e w1 ⟨rfl, hb1⟩
  have M1 := Box34.step hq hr hbox hb1
  have H1 := Lib.hid (M1.lay H0.out)
  clear hb1
  go_wp2_with fail
  refine (asHead_of (-1) (IntKind.u64.wrap (t * 65536) / 65536) _ H1.out (by decide) (by decide) HT.out.1 HT.out.2).mono ?_
  rintro e w2 ⟨rfl, hb2⟩
  have M2 := Box34.step hq hr M1 hb2
  clear hb2
  go_wp2_with fail
  go_region_held3 (fun w1 => (w1.cell? ⟨w.heap.size, 0, none⟩ = some (.int .i64 (-1)) ∧ w1.cell? ⟨w.heap.size, 1, none⟩ = some (.int .u32 0) ∧ w1.cell? ⟨w.heap.size, 2, none⟩ = some (.bool m) ∧ w1.cell? ⟨w.heap.size + 1, 0, none⟩ = some (.int .u8 p) ∧ w1.cell? ⟨w.heap.size + 1, 1, none⟩ = some (.int .u8 o) ∧ w1.cell? ⟨w.heap.size + 1, 2, none⟩ = some (.int .u8 a) ∧ w1.cell? ⟨w.heap.size + 1, 3, none⟩ = some (.int .u64 k)) ∧ Hid (Below w0.heap.size w0 w1))
    (first | exact Box34.drew M2 | (refine Box34.step hq hr ?_ hb; assumption))
    (first
      | (go_at_call 11; refine (ref_any (-1) 0 m _ ?_ ⟨by decide, by decide⟩).mono ?_; (refine Box34.lay (w0 := w0) (q := w.heap.size) (r := w.heap.size + 1) (s := (-1)) (g := 0) (b := m) (p := p) (o := o) (m := a) (k := k) ?_ H0.out; assumption); rintro e w' ⟨rfl, hb⟩)
      | (go_at_call 13; refine (asRef_of (-1) 0 m _ ?_ (by decide) (by decide) ⟨by decide, by decide⟩ (by first | (intro _; rfl) | (intro h; omega))).mono ?_; (refine Box34.lay (w0 := w0) (q := w.heap.size) (r := w.heap.size + 1) (s := (-1)) (g := 0) (b := m) (p := p) (o := o) (m := a) (k := k) ?_ H0.out; assumption); rintro e w' ⟨rfl, hb⟩))
  have M3 : Box34 w0 w.heap.size (w.heap.size + 1) (-1) 0 m p o a k w' := by assumption
  have f0 := M3.frozen hr hfr.out 0
  have f1 := M3.frozen hr hfr.out 1
  have f2 := M3.frozen hr hfr.out 2
  have f3 := M3.frozen hr hfr.out 3
  obtain ⟨⟨_, _, _, c3, c4, c5, c6⟩, _⟩ := id M3
  clear M1 M2 hb hbox H1
  go_wp2_with fail
  have MV : Box34 (four w' (w.heap.size + 1) (p % 4) (o % 8) (a % 8) (IntKind.u64.wrap (k * 65536) / 65536)) w.heap.size (w.heap.size + 1) (-1) 0 m (p % 4) (o % 8) (a % 8) (IntKind.u64.wrap (k * 65536) / 65536) (four w' (w.heap.size + 1) (p % 4) (o % 8) (a % 8) (IntKind.u64.wrap (k * 65536) / 65536)) := four_box (by omega) M3
  have BV := Lib.hid (four_below (M3.done B0.out (by omega)) (w.heap.size + 1) (Nat.le_succ _) (p % 4) (o % 8) (a % 8) (IntKind.u64.wrap (k * 65536) / 65536))
  have HV := Lib.hid (four_lay (M3.lay H0.out) (w.heap.size + 1) (Nat.succ_pos _) (p % 4) (o % 8) (a % 8) (IntKind.u64.wrap (k * 65536) / 65536))
  have hrv : w.heap.size + 1 < (four w' (w.heap.size + 1) (p % 4) (o % 8) (a % 8) (IntKind.u64.wrap (k * 65536) / 65536)).heap.size := by rw [four_size]; exact Nat.lt_of_lt_of_le hr M3.2.out.size
  have hqv : w.heap.size < (four w' (w.heap.size + 1) (p % 4) (o % 8) (a % 8) (IntKind.u64.wrap (k * 65536) / 65536)).heap.size := Nat.lt_of_succ_lt hrv
  clear f0 f1 f2 f3 c3 c4 c5 c6 M3
  rw [show (((w'.setCell ⟨w.heap.size + 1, 0, none⟩ (.int .u8 (p % 4))).setCell ⟨w.heap.size + 1, 1, none⟩ (.int .u8 (o % 8))).setCell ⟨w.heap.size + 1, 2, none⟩ (.int .u8 (a % 8))).setCell ⟨w.heap.size + 1, 3, none⟩ (.int .u64 (IntKind.u64.wrap (k * 65536) / 65536)) = four w' (w.heap.size + 1) (p % 4) (o % 8) (a % 8) (IntKind.u64.wrap (k * 65536) / 65536) from rfl]
  revert MV BV HV hrv hqv
  generalize four w' (w.heap.size + 1) (p % 4) (o % 8) (a % 8) (IntKind.u64.wrap (k * 65536) / 65536) = v2
  intro MV BV HV hrv hqv
  refine (quiet_b (header_any ((IntKind.u64.wrap (t * 65536) / 65536) % 5) 0 _ HV.out (by omega) ⟨by decide, by decide⟩)).mono ?_
  rintro e w3 ⟨rfl, hb3⟩
  have N3 := Box34.step hqv hrv MV hb3
  have K3 := Lib.hid (N3.lay HV.out)
  clear hb3
  go_wp2_with fail
  refine (asHeader_of ((IntKind.u64.wrap (t * 65536) / 65536) % 5) 0 _ K3.out (by omega) (by omega) ⟨by decide, by decide⟩).mono ?_
  rintro e w4 ⟨rfl, hb4⟩
  have N4 := Box34.step hqv hrv N3 hb4
  have K4 := Lib.hid (N4.lay HV.out)
  have C4 := N4.1
  clear hb4
  obtain ⟨d0, d1, d2, _⟩ := C4
  go_wp2_with fail
  clear d0 d1 d2
  refine (quiet_b (block_any 0 m _ K4.out ⟨by decide, by decide⟩)).mono ?_
  rintro e w5 ⟨rfl, hb5⟩
  have N5 := Box34.step hqv hrv N4 hb5
  have K5 := Lib.hid (N5.lay HV.out)
  clear hb5
  go_wp2_with fail
  refine (asBlock_of 0 m _ K5.out ⟨by decide, by decide⟩).mono ?_
  rintro e w6 ⟨rfl, hb6⟩
  have N6 := Box34.step hqv hrv N5 hb6
  clear hb6 N3 N4 N5 MV
  go_wp2_with fail
  have e1 : Int.tmod (IntKind.u64.wrap (t * 65536) / 65536) 5 = ((IntKind.u64.wrap (t * 65536) / 65536) % 5) := Int.tmod_eq_emod_of_nonneg ht0
  have e2 : IntKind.u8.wrap ((IntKind.u64.wrap (t * 65536) / 65536) % 5) = ((IntKind.u64.wrap (t * 65536) / 65536) % 5) := by rw [IntKind.wrap_u8']; exact Int.emod_eq_of_lt (by omega) (by omega)
  go_region_held3 (fun w1 => (w1.cell? ⟨w.heap.size, 0, none⟩ = some (.int .i64 (-1)) ∧ w1.cell? ⟨w.heap.size, 1, none⟩ = some (.int .u32 0) ∧ w1.cell? ⟨w.heap.size, 2, none⟩ = some (.bool m) ∧ w1.cell? ⟨w.heap.size + 1, 0, none⟩ = some (.int .u8 (p % 4)) ∧ w1.cell? ⟨w.heap.size + 1, 1, none⟩ = some (.int .u8 (o % 8)) ∧ w1.cell? ⟨w.heap.size + 1, 2, none⟩ = some (.int .u8 (a % 8)) ∧ w1.cell? ⟨w.heap.size + 1, 3, none⟩ = some (.int .u64 (IntKind.u64.wrap (k * 65536) / 65536))) ∧ Hid (Below v2.heap.size v2 w1))
    (first | exact Box34.drew N6 | (refine Box34.step hqv hrv ?_ hb; assumption))
    (first
      | (go_at_call 31; refine (phaseW_any (p % 4) (o % 8) (a % 8) (IntKind.u64.wrap (k * 65536) / 65536) _ ?_ (phS_u64 _ (by omega) (by omega)) (u64_small (by omega) (by omega)) (u64_small (by omega) (by omega)) ⟨HK.out.1, by have := HK.out.2; omega⟩).mono ?_; (refine Box34.lay (w0 := v2) (q := w.heap.size) (r := w.heap.size + 1) (s := (-1)) (g := 0) (b := m) (p := (p % 4)) (o := (o % 8)) (m := (a % 8)) (k := (IntKind.u64.wrap (k * 65536) / 65536)) ?_ HV.out; assumption); rintro e w' ⟨rfl, hb⟩)
      | (go_at_call 33; refine (asPhase_of (p % 4) (o % 8) (a % 8) (IntKind.u64.wrap (k * 65536) / 65536) _ ?_ (by omega) (by omega) (by omega) (by omega) (by omega) (by omega) HK.out.1 HK.out.2).mono ?_; (refine Box34.lay (w0 := v2) (q := w.heap.size) (r := w.heap.size + 1) (s := (-1)) (g := 0) (b := m) (p := (p % 4)) (o := (o % 8)) (m := (a % 8)) (k := (IntKind.u64.wrap (k * 65536) / 65536)) ?_ HV.out; assumption); rintro e w' ⟨rfl, hb⟩)
      | (go_at_call 22; refine (lives_any _ ?_).mono ?_; (refine Box34.lay (w0 := v2) (q := w.heap.size) (r := w.heap.size + 1) (s := (-1)) (g := 0) (b := m) (p := (p % 4)) (o := (o % 8)) (m := (a % 8)) (k := (IntKind.u64.wrap (k * 65536) / 65536)) ?_ HV.out; assumption); rintro e w' ⟨rfl, hb⟩))
  go_wp2
  go_ret
  exact ⟨rfl, Box34.done (w0 := v2) (q := w.heap.size) (r := w.heap.size + 1) (s := (-1)) (g := 0) (b := m) (p := (p % 4)) (o := (o % 8)) (m := (a % 8)) (k := (IntKind.u64.wrap (k * 65536) / 65536)) BV.out (by omega) (by assumption)⟩

theorem lawBack (s g : Int) (m : Bool) (t p o a k : Int) (w : World) (hL : Lay w) (hg : U32 g) (ht : U64 t) (hp : U8 p) (ho : U8 o) (ha : U8 a) (hk : U64 k) : Calls Tryd.prog 6 #[.agg #[.int .i64 s, .int .u32 g, .bool m], .int .u64 t, .agg #[.int .u8 p, .int .u8 o, .int .u8 a, .int .u64 k]] w fun e w' => e = .returned (.bool true) ∧ Below w.heap.size w w' := by
  by_cases o1 : s < -1
  · exact back_o1 s g m t p o a k w hL (u64_small hg.1 hg.2) ht o1
  by_cases o2 : 256 ≤ s
  · exact back_o2 s g m t p o a k w hL (u64_small hg.1 hg.2) ht o1 o2
  by_cases hn : s = -1
  · subst hn
    exact back_y g m t p o a k w hL hg ht hp ho ha hk
  · exact back_n s g m t p o a k w hL (by omega) (by omega) hg ht hp ho ha hk
end Go.Proofs.YtommlceihogelaaDoor
