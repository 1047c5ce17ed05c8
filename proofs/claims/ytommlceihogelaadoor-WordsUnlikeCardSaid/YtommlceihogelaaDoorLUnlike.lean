/-
  The law WordsUnlike walked: it answers true, and changes nothing that was there; condition: the table of fields reads as the program lays it, and the arguments are numbers of their kinds.
-/
import Derived.Test.YtommlceihogelaaDoorLRef
import Derived.Test.YtommlceihogelaaDoorBack
namespace Go.Proofs.YtommlceihogelaaDoor
open Go.RowKit

/-- What two refs' boxes and a pair's hold, while the world goes on. -/
def Box332 (w0 : World) (q : Nat) (s g : Int) (m : Bool) (z y : Int) (n : Bool) (t u : Int) (w : World) : Prop :=
  (w.cell? ⟨q, 0, none⟩ = some (.int .i64 s) ∧ w.cell? ⟨q, 1, none⟩ = some (.int .u32 g) ∧ w.cell? ⟨q, 2, none⟩ = some (.bool m) ∧
   w.cell? ⟨q + 1, 0, none⟩ = some (.int .i64 z) ∧ w.cell? ⟨q + 1, 1, none⟩ = some (.int .u32 y) ∧ w.cell? ⟨q + 1, 2, none⟩ = some (.bool n) ∧
   w.cell? ⟨q + 1 + 1, 0, none⟩ = some (.int .u64 t) ∧ w.cell? ⟨q + 1 + 1, 1, none⟩ = some (.int .u64 u)) ∧ Hid (Below w0.heap.size w0 w)
theorem Box332.step {w0 w1 w2 : World} {q : Nat} {s g : Int} {m : Bool} {z y : Int} {n : Bool} {t u : Int} (hq : q + 1 + 1 < w0.heap.size) (h : Box332 w0 q s g m z y n t u w1) (hb : Below w1.heap.size w1 w2) : Box332 w0 q s g m z y n t u w2 := by
  obtain ⟨⟨h0, h1, h2, h3, h4, h5, h6, h7⟩, hB⟩ := h
  exact ⟨⟨cell_keep hB.out hb (by omega) h0, cell_keep hB.out hb (by omega) h1, cell_keep hB.out hb (by omega) h2, cell_keep hB.out hb (by omega) h3, cell_keep hB.out hb (by omega) h4, cell_keep hB.out hb (by omega) h5, cell_keep hB.out hb hq h6, cell_keep hB.out hb hq h7⟩, Lib.hid (Below.next hB.out hb)⟩
theorem Box332.lay {w0 w1 : World} {q : Nat} {s g : Int} {m : Bool} {z y : Int} {n : Bool} {t u : Int} (h : Box332 w0 q s g m z y n t u w1) (hL : Lay w0) : Lay w1 := hL.below h.2.out
theorem Box332.drew {w0 w1 : World} {q : Nat} {s g : Int} {m : Bool} {z y : Int} {n : Bool} {t u : Int} (h : Box332 w0 q s g m z y n t u w1) : Box332 w0 q s g m z y n t u w1.drew := ⟨h.1, Lib.hid h.2.out.drew⟩
theorem Box332.done {B : Nat} {w w0 w1 : World} {q : Nat} {s g : Int} {m : Bool} {z y : Int} {n : Bool} {t u : Int} (hB : Below B w w0) (hlt : B ≤ w0.heap.size) (h : Box332 w0 q s g m z y n t u w1) : Below B w w1 := hB.trans (h.2.out.mono hlt)
/-- The three boxes, just made. -/
def w332 (w : World) (s g : Int) (m : Bool) (z y : Int) (n : Bool) (t u : Int) : World := ((w.alloc (.cells #[.int .i64 s, .int .u32 g, .bool m] 24)).alloc (.cells #[.int .i64 z, .int .u32 y, .bool n] 24)).alloc (.cells #[.int .u64 t, .int .u64 u] 54)
theorem w332_box (w : World) (s g : Int) (m : Bool) (z y : Int) (n : Bool) (t u : Int) : Box332 (w332 w s g m z y n t u) w.heap.size s g m z y n t u (w332 w s g m z y n t u) := by
  refine ⟨?_, Lib.hid (Below.refl _ _)⟩
  unfold w332
  refine ⟨?_, ?_, ?_, ?_, ?_, ?_, ?_, ?_⟩ <;> simp [go_sem]
theorem w332_below (w : World) (s g : Int) (m : Bool) (z y : Int) (n : Bool) (t u : Int) : Below w.heap.size w (w332 w s g m z y n t u) := (((Below.refl _ _).alloc (Nat.le_refl _) _).alloc (by simp) _).alloc (by simp; omega) _
theorem w332_size (w : World) (s g : Int) (m : Bool) (z y : Int) (n : Bool) (t u : Int) : w.heap.size + 1 + 1 < (w332 w s g m z y n t u).heap.size := by unfold w332; simp

set_option maxHeartbeats 4000000 in
theorem unlike_o1 (s g : Int) (m : Bool) (z y : Int) (n : Bool) (t u : Int) (w : World) (hL : Lay w) (h : s < -1) :
    Calls Tryd.prog 8 #[.agg #[.int .i64 s, .int .u32 g, .bool m], .agg #[.int .i64 z, .int .u32 y, .bool n], .agg #[.int .u64 t, .int .u64 u]] w fun e w' => e = .returned (.bool true) ∧ Below w.heap.size w w' := by
  have H0 := Lib.hid (hL.below (w332_below w s g m z y n t u))
  clear hL
  go_enter Tryd.func8, Tryd.ntmps8
  go_wp2_with (go_at_call 22; refine (lives_any _ H0.out).mono ?_; rintro e w' ⟨rfl, hb⟩)
  go_ret
  exact ⟨rfl, Below.next (w332_below w s g m z y n t u) hb⟩

set_option maxHeartbeats 4000000 in
theorem unlike_o2 (s g : Int) (m : Bool) (z y : Int) (n : Bool) (t u : Int) (w : World) (hL : Lay w) (_h0 : ¬ s < -1) (h : 256 ≤ s) :
    Calls Tryd.prog 8 #[.agg #[.int .i64 s, .int .u32 g, .bool m], .agg #[.int .i64 z, .int .u32 y, .bool n], .agg #[.int .u64 t, .int .u64 u]] w fun e w' => e = .returned (.bool true) ∧ Below w.heap.size w w' := by
  have H0 := Lib.hid (hL.below (w332_below w s g m z y n t u))
  clear hL
  go_enter Tryd.func8, Tryd.ntmps8
  go_wp2_with (go_at_call 22; refine (lives_any _ H0.out).mono ?_; rintro e w' ⟨rfl, hb⟩)
  go_ret
  exact ⟨rfl, Below.next (w332_below w s g m z y n t u) hb⟩

set_option maxHeartbeats 4000000 in
theorem unlike_o3 (s g : Int) (m : Bool) (z y : Int) (n : Bool) (t u : Int) (w : World) (hL : Lay w) (_h0 : ¬ s < -1) (_h1 : ¬ 256 ≤ s) (h : z < -1) :
    Calls Tryd.prog 8 #[.agg #[.int .i64 s, .int .u32 g, .bool m], .agg #[.int .i64 z, .int .u32 y, .bool n], .agg #[.int .u64 t, .int .u64 u]] w fun e w' => e = .returned (.bool true) ∧ Below w.heap.size w w' := by
  have H0 := Lib.hid (hL.below (w332_below w s g m z y n t u))
  clear hL
  go_enter Tryd.func8, Tryd.ntmps8
  go_wp2_with (go_at_call 22; refine (lives_any _ H0.out).mono ?_; rintro e w' ⟨rfl, hb⟩)
  go_ret
  exact ⟨rfl, Below.next (w332_below w s g m z y n t u) hb⟩

set_option maxHeartbeats 4000000 in
theorem unlike_o4 (s g : Int) (m : Bool) (z y : Int) (n : Bool) (t u : Int) (w : World) (hL : Lay w) (_h0 : ¬ s < -1) (_h1 : ¬ 256 ≤ s) (_h2 : ¬ z < -1) (h : 256 ≤ z) :
    Calls Tryd.prog 8 #[.agg #[.int .i64 s, .int .u32 g, .bool m], .agg #[.int .i64 z, .int .u32 y, .bool n], .agg #[.int .u64 t, .int .u64 u]] w fun e w' => e = .returned (.bool true) ∧ Below w.heap.size w w' := by
  have H0 := Lib.hid (hL.below (w332_below w s g m z y n t u))
  clear hL
  go_enter Tryd.func8, Tryd.ntmps8
  go_wp2_with (go_at_call 22; refine (lives_any _ H0.out).mono ?_; rintro e w' ⟨rfl, hb⟩)
  go_ret
  exact ⟨rfl, Below.next (w332_below w s g m z y n t u) hb⟩

set_option maxHeartbeats 4000000 in
theorem unlike_a1 (s g : Int) (m : Bool) (z y : Int) (n : Bool) (t u : Int) (w : World) (hL : Lay w) (ht : U64 t) (hu : U64 u) (h0 : 0 ≤ s) (h1 : s < 256) (h2 : 0 ≤ z) (h3 : z < 256) (hg : U32 g) (hy : U32 y) (hd : (s == z) = false) :
    Calls Tryd.prog 8 #[.agg #[.int .i64 s, .int .u32 g, .bool m], .agg #[.int .i64 z, .int .u32 y, .bool n], .agg #[.int .u64 t, .int .u64 u]] w fun e w' => e = .returned (.bool true) ∧ Below w.heap.size w w' := by
  have HT := Lib.hid ht
  have HU := Lib.hid hu
  clear ht hu
  have f1 := ref_slots s z g y m n (by omega) h1 (by omega) h3 hg hy hd
  have f2 := head_slots s z t u (by omega) h1 (by omega) h3 hd
  have HG := Lib.hid (u64_small hg.1 hg.2)
  clear hg
  have HY := Lib.hid (u64_small hy.1 hy.2)
  clear hy
  have B0 := Lib.hid (w332_below w s g m z y n t u)
  have H0 := Lib.hid (hL.below (w332_below w s g m z y n t u))
  have hsz := w332_size w s g m z y n t u
  have hbox := w332_box w s g m z y n t u
  clear hL
  go_enter Tryd.func8, Tryd.ntmps8
  go_wp2_with fail
  rw [show (((w.alloc (.cells #[.int .i64 s, .int .u32 g, .bool m] 24)).alloc (.cells #[.int .i64 z, .int .u32 y, .bool n] 24)).alloc (.cells #[.int .u64 t, .int .u64 u] 54)) = w332 w s g m z y n t u from rfl]
  revert B0 H0 hsz hbox
  generalize w332 w s g m z y n t u = w0
  intro B0 H0 hsz hbox
  go_region_held3 (fun w1 => (w1.cell? ⟨w.heap.size, 0, none⟩ = some (.int .i64 s) ∧ w1.cell? ⟨w.heap.size, 1, none⟩ = some (.int .u32 g) ∧ w1.cell? ⟨w.heap.size, 2, none⟩ = some (.bool m) ∧ w1.cell? ⟨w.heap.size + 1, 0, none⟩ = some (.int .i64 z) ∧ w1.cell? ⟨w.heap.size + 1, 1, none⟩ = some (.int .u32 y) ∧ w1.cell? ⟨w.heap.size + 1, 2, none⟩ = some (.bool n) ∧ w1.cell? ⟨w.heap.size + 1 + 1, 0, none⟩ = some (.int .u64 t) ∧ w1.cell? ⟨w.heap.size + 1 + 1, 1, none⟩ = some (.int .u64 u)) ∧ Hid (Below w0.heap.size w0 w1))
    (first | exact Box332.drew hbox | (refine Box332.step hsz ?_ hb; assumption))
    (first
      | (go_at_call_of 11 (Value.int IntKind.i64 s); refine (ref_any s g m _ ?_ HG.out).mono ?_; (refine Box332.lay (w0 := w0) (q := w.heap.size) (s := s) (g := g) (m := m) (z := z) (y := y) (n := n) (t := t) (u := u) ?_ H0.out; assumption); rintro e w' ⟨rfl, hb⟩)
      | (go_at_call_of 11 (Value.int IntKind.i64 z); refine (ref_any z y n _ ?_ HY.out).mono ?_; (refine Box332.lay (w0 := w0) (q := w.heap.size) (s := s) (g := g) (m := m) (z := z) (y := y) (n := n) (t := t) (u := u) ?_ H0.out; assumption); rintro e w' ⟨rfl, hb⟩)
      | (go_at_call_of 15 (Value.int IntKind.u64 t); refine (quiet_b (head_any s t _ ?_ HT.out)).mono ?_; (refine Box332.lay (w0 := w0) (q := w.heap.size) (s := s) (g := g) (m := m) (z := z) (y := y) (n := n) (t := t) (u := u) ?_ H0.out; assumption); rintro e w' ⟨rfl, hb⟩)
      | (go_at_call_of 15 (Value.int IntKind.u64 u); refine (quiet_b (head_any z u _ ?_ HU.out)).mono ?_; (refine Box332.lay (w0 := w0) (q := w.heap.size) (s := s) (g := g) (m := m) (z := z) (y := y) (n := n) (t := t) (u := u) ?_ H0.out; assumption); rintro e w' ⟨rfl, hb⟩)
      | (go_at_call 22; refine (lives_any _ ?_).mono ?_; (refine Box332.lay (w0 := w0) (q := w.heap.size) (s := s) (g := g) (m := m) (z := z) (y := y) (n := n) (t := t) (u := u) ?_ H0.out; assumption); rintro e w' ⟨rfl, hb⟩))
  go_wp2
  go_ret
  exact ⟨rfl, Box332.done (w0 := w0) (q := w.heap.size) (s := s) (g := g) (m := m) (z := z) (y := y) (n := n) (t := t) (u := u) B0.out (by omega) (by assumption)⟩

set_option maxHeartbeats 4000000 in
theorem unlike_a2 (g : Int) (m : Bool) (z y : Int) (n : Bool) (t u : Int) (w : World) (hL : Lay w) (ht : U64 t) (hu : U64 u) (h2 : 0 ≤ z) (h3 : z < 256) (hy : U32 y) (hd : ((-1 : Int) == z) = false) :
    Calls Tryd.prog 8 #[.agg #[.int .i64 (-1), .int .u32 g, .bool m], .agg #[.int .i64 z, .int .u32 y, .bool n], .agg #[.int .u64 t, .int .u64 u]] w fun e w' => e = .returned (.bool true) ∧ Below w.heap.size w w' := by
  have HT := Lib.hid ht
  have HU := Lib.hid hu
  clear ht hu
  have f1 := ref_slots (-1) z 0 y m n (by decide) (by decide) (by omega) h3 ⟨by decide, by decide⟩ hy hd
  have f2 := head_slots (-1) z t u (by decide) (by decide) (by omega) h3 hd
  have HY := Lib.hid (u64_small hy.1 hy.2)
  clear hy
  have B0 := Lib.hid (w332_below w (-1) 0 m z y n t u)
  have H0 := Lib.hid (hL.below (w332_below w (-1) 0 m z y n t u))
  have hsz := w332_size w (-1) 0 m z y n t u
  have hbox := w332_box w (-1) 0 m z y n t u
  clear hL
  go_enter Tryd.func8, Tryd.ntmps8
  go_wp2_with fail
  rw [show (((w.alloc (.cells #[.int .i64 (-1), .int .u32 0, .bool m] 24)).alloc (.cells #[.int .i64 z, .int .u32 y, .bool n] 24)).alloc (.cells #[.int .u64 t, .int .u64 u] 54)) = w332 w (-1) 0 m z y n t u from rfl]
  revert B0 H0 hsz hbox
  generalize w332 w (-1) 0 m z y n t u = w0
  intro B0 H0 hsz hbox
  go_region_held3 (fun w1 => (w1.cell? ⟨w.heap.size, 0, none⟩ = some (.int .i64 (-1)) ∧ w1.cell? ⟨w.heap.size, 1, none⟩ = some (.int .u32 0) ∧ w1.cell? ⟨w.heap.size, 2, none⟩ = some (.bool m) ∧ w1.cell? ⟨w.heap.size + 1, 0, none⟩ = some (.int .i64 z) ∧ w1.cell? ⟨w.heap.size + 1, 1, none⟩ = some (.int .u32 y) ∧ w1.cell? ⟨w.heap.size + 1, 2, none⟩ = some (.bool n) ∧ w1.cell? ⟨w.heap.size + 1 + 1, 0, none⟩ = some (.int .u64 t) ∧ w1.cell? ⟨w.heap.size + 1 + 1, 1, none⟩ = some (.int .u64 u)) ∧ Hid (Below w0.heap.size w0 w1))
    (first | exact Box332.drew hbox | (refine Box332.step hsz ?_ hb; assumption))
    (first
      | (go_at_call_of 11 (Value.int IntKind.i64 z); refine (ref_any z y n _ ?_ HY.out).mono ?_; (refine Box332.lay (w0 := w0) (q := w.heap.size) (s := (-1)) (g := 0) (m := m) (z := z) (y := y) (n := n) (t := t) (u := u) ?_ H0.out; assumption); rintro e w' ⟨rfl, hb⟩)
      | (go_at_call 11; refine (ref_any (-1) 0 m _ ?_ ⟨by decide, by decide⟩).mono ?_; (refine Box332.lay (w0 := w0) (q := w.heap.size) (s := (-1)) (g := 0) (m := m) (z := z) (y := y) (n := n) (t := t) (u := u) ?_ H0.out; assumption); rintro e w' ⟨rfl, hb⟩)
      | (go_at_call_of 15 (Value.int IntKind.u64 t); refine (quiet_b (head_any (-1) t _ ?_ HT.out)).mono ?_; (refine Box332.lay (w0 := w0) (q := w.heap.size) (s := (-1)) (g := 0) (m := m) (z := z) (y := y) (n := n) (t := t) (u := u) ?_ H0.out; assumption); rintro e w' ⟨rfl, hb⟩)
      | (go_at_call_of 15 (Value.int IntKind.u64 u); refine (quiet_b (head_any z u _ ?_ HU.out)).mono ?_; (refine Box332.lay (w0 := w0) (q := w.heap.size) (s := (-1)) (g := 0) (m := m) (z := z) (y := y) (n := n) (t := t) (u := u) ?_ H0.out; assumption); rintro e w' ⟨rfl, hb⟩)
      | (go_at_call 22; refine (lives_any _ ?_).mono ?_; (refine Box332.lay (w0 := w0) (q := w.heap.size) (s := (-1)) (g := 0) (m := m) (z := z) (y := y) (n := n) (t := t) (u := u) ?_ H0.out; assumption); rintro e w' ⟨rfl, hb⟩))
  go_wp2
  go_ret
  exact ⟨rfl, Box332.done (w0 := w0) (q := w.heap.size) (s := (-1)) (g := 0) (m := m) (z := z) (y := y) (n := n) (t := t) (u := u) B0.out (by omega) (by assumption)⟩

set_option maxHeartbeats 4000000 in
theorem unlike_a3 (s g : Int) (m : Bool) (y : Int) (n : Bool) (t u : Int) (w : World) (hL : Lay w) (ht : U64 t) (hu : U64 u) (h0 : 0 ≤ s) (h1 : s < 256) (hg : U32 g) (hd : (s == (-1 : Int)) = false) :
    Calls Tryd.prog 8 #[.agg #[.int .i64 s, .int .u32 g, .bool m], .agg #[.int .i64 (-1), .int .u32 y, .bool n], .agg #[.int .u64 t, .int .u64 u]] w fun e w' => e = .returned (.bool true) ∧ Below w.heap.size w w' := by
  have HT := Lib.hid ht
  have HU := Lib.hid hu
  clear ht hu
  have f1 := ref_slots s (-1) g 0 m n (by omega) h1 (by decide) (by decide) hg ⟨by decide, by decide⟩ hd
  have f2 := head_slots s (-1) t u (by omega) h1 (by decide) (by decide) hd
  have HG := Lib.hid (u64_small hg.1 hg.2)
  clear hg
  have B0 := Lib.hid (w332_below w s g m (-1) 0 n t u)
  have H0 := Lib.hid (hL.below (w332_below w s g m (-1) 0 n t u))
  have hsz := w332_size w s g m (-1) 0 n t u
  have hbox := w332_box w s g m (-1) 0 n t u
  clear hL
  go_enter Tryd.func8, Tryd.ntmps8
  go_wp2_with fail
  rw [show (((w.alloc (.cells #[.int .i64 s, .int .u32 g, .bool m] 24)).alloc (.cells #[.int .i64 (-1), .int .u32 0, .bool n] 24)).alloc (.cells #[.int .u64 t, .int .u64 u] 54)) = w332 w s g m (-1) 0 n t u from rfl]
  revert B0 H0 hsz hbox
  generalize w332 w s g m (-1) 0 n t u = w0
  intro B0 H0 hsz hbox
  go_region_held3 (fun w1 => (w1.cell? ⟨w.heap.size, 0, none⟩ = some (.int .i64 s) ∧ w1.cell? ⟨w.heap.size, 1, none⟩ = some (.int .u32 g) ∧ w1.cell? ⟨w.heap.size, 2, none⟩ = some (.bool m) ∧ w1.cell? ⟨w.heap.size + 1, 0, none⟩ = some (.int .i64 (-1)) ∧ w1.cell? ⟨w.heap.size + 1, 1, none⟩ = some (.int .u32 0) ∧ w1.cell? ⟨w.heap.size + 1, 2, none⟩ = some (.bool n) ∧ w1.cell? ⟨w.heap.size + 1 + 1, 0, none⟩ = some (.int .u64 t) ∧ w1.cell? ⟨w.heap.size + 1 + 1, 1, none⟩ = some (.int .u64 u)) ∧ Hid (Below w0.heap.size w0 w1))
    (first | exact Box332.drew hbox | (refine Box332.step hsz ?_ hb; assumption))
    (first
      | (go_at_call_of 11 (Value.int IntKind.i64 s); refine (ref_any s g m _ ?_ HG.out).mono ?_; (refine Box332.lay (w0 := w0) (q := w.heap.size) (s := s) (g := g) (m := m) (z := (-1)) (y := 0) (n := n) (t := t) (u := u) ?_ H0.out; assumption); rintro e w' ⟨rfl, hb⟩)
      | (go_at_call 11; refine (ref_any (-1) 0 n _ ?_ ⟨by decide, by decide⟩).mono ?_; (refine Box332.lay (w0 := w0) (q := w.heap.size) (s := s) (g := g) (m := m) (z := (-1)) (y := 0) (n := n) (t := t) (u := u) ?_ H0.out; assumption); rintro e w' ⟨rfl, hb⟩)
      | (go_at_call_of 15 (Value.int IntKind.u64 t); refine (quiet_b (head_any s t _ ?_ HT.out)).mono ?_; (refine Box332.lay (w0 := w0) (q := w.heap.size) (s := s) (g := g) (m := m) (z := (-1)) (y := 0) (n := n) (t := t) (u := u) ?_ H0.out; assumption); rintro e w' ⟨rfl, hb⟩)
      | (go_at_call_of 15 (Value.int IntKind.u64 u); refine (quiet_b (head_any (-1) u _ ?_ HU.out)).mono ?_; (refine Box332.lay (w0 := w0) (q := w.heap.size) (s := s) (g := g) (m := m) (z := (-1)) (y := 0) (n := n) (t := t) (u := u) ?_ H0.out; assumption); rintro e w' ⟨rfl, hb⟩)
      | (go_at_call 22; refine (lives_any _ ?_).mono ?_; (refine Box332.lay (w0 := w0) (q := w.heap.size) (s := s) (g := g) (m := m) (z := (-1)) (y := 0) (n := n) (t := t) (u := u) ?_ H0.out; assumption); rintro e w' ⟨rfl, hb⟩))
  go_wp2
  go_ret
  exact ⟨rfl, Box332.done (w0 := w0) (q := w.heap.size) (s := s) (g := g) (m := m) (z := (-1)) (y := 0) (n := n) (t := t) (u := u) B0.out (by omega) (by assumption)⟩

set_option maxHeartbeats 4000000 in
theorem unlike_bt (s g : Int) (m : Bool) (y : Int) (n : Bool) (t u : Int) (w : World) (hL : Lay w) (ht : U64 t) (hu : U64 u) (h0 : 0 ≤ s) (h1 : s < 256) (hg : U32 g) (hy : U32 y) (hd : (g == y) = false) (hT : (IntKind.u64.wrap (t * 65536) == IntKind.u64.wrap (u * 65536)) = true) :
    Calls Tryd.prog 8 #[.agg #[.int .i64 s, .int .u32 g, .bool m], .agg #[.int .i64 s, .int .u32 y, .bool n], .agg #[.int .u64 t, .int .u64 u]] w fun e w' => e = .returned (.bool true) ∧ Below w.heap.size w w' := by
  have f2 := head_same s t u ht hu hT
  have f1 := ref_gens s g y m n h0 h1 hg hy hd
  have HG := Lib.hid (u64_small hg.1 hg.2)
  have HY := Lib.hid (u64_small hy.1 hy.2)
  clear hg hy
  have HT := Lib.hid ht
  have HU := Lib.hid hu
  clear ht hu
  have B0 := Lib.hid (w332_below w s g m s y n t u)
  have H0 := Lib.hid (hL.below (w332_below w s g m s y n t u))
  have hsz := w332_size w s g m s y n t u
  have hbox := w332_box w s g m s y n t u
  clear hL
  go_enter Tryd.func8, Tryd.ntmps8
  go_wp2_with fail
  rw [show (((w.alloc (.cells #[.int .i64 s, .int .u32 g, .bool m] 24)).alloc (.cells #[.int .i64 s, .int .u32 y, .bool n] 24)).alloc (.cells #[.int .u64 t, .int .u64 u] 54)) = w332 w s g m s y n t u from rfl]
  revert B0 H0 hsz hbox
  generalize w332 w s g m s y n t u = w0
  intro B0 H0 hsz hbox
  go_region_held3 (fun w1 => (w1.cell? ⟨w.heap.size, 0, none⟩ = some (.int .i64 s) ∧ w1.cell? ⟨w.heap.size, 1, none⟩ = some (.int .u32 g) ∧ w1.cell? ⟨w.heap.size, 2, none⟩ = some (.bool m) ∧ w1.cell? ⟨w.heap.size + 1, 0, none⟩ = some (.int .i64 s) ∧ w1.cell? ⟨w.heap.size + 1, 1, none⟩ = some (.int .u32 y) ∧ w1.cell? ⟨w.heap.size + 1, 2, none⟩ = some (.bool n) ∧ w1.cell? ⟨w.heap.size + 1 + 1, 0, none⟩ = some (.int .u64 t) ∧ w1.cell? ⟨w.heap.size + 1 + 1, 1, none⟩ = some (.int .u64 u)) ∧ Hid (Below w0.heap.size w0 w1))
    (first | exact Box332.drew hbox | (refine Box332.step hsz ?_ hb; assumption))
    (first
      | (go_at_call_of 11 (Value.int IntKind.u32 g); refine (ref_any s g m _ ?_ HG.out).mono ?_; (refine Box332.lay (w0 := w0) (q := w.heap.size) (s := s) (g := g) (m := m) (z := s) (y := y) (n := n) (t := t) (u := u) ?_ H0.out; assumption); rintro e w' ⟨rfl, hb⟩)
      | (go_at_call_of 11 (Value.int IntKind.u32 y); refine (ref_any s y n _ ?_ HY.out).mono ?_; (refine Box332.lay (w0 := w0) (q := w.heap.size) (s := s) (g := g) (m := m) (z := s) (y := y) (n := n) (t := t) (u := u) ?_ H0.out; assumption); rintro e w' ⟨rfl, hb⟩)
      | (go_at_call_of 15 (Value.int IntKind.u64 t); refine (quiet_b (head_any s t _ ?_ HT.out)).mono ?_; (refine Box332.lay (w0 := w0) (q := w.heap.size) (s := s) (g := g) (m := m) (z := s) (y := y) (n := n) (t := t) (u := u) ?_ H0.out; assumption); rintro e w' ⟨rfl, hb⟩)
      | (go_at_call_of 15 (Value.int IntKind.u64 u); refine (quiet_b (head_any s u _ ?_ HU.out)).mono ?_; (refine Box332.lay (w0 := w0) (q := w.heap.size) (s := s) (g := g) (m := m) (z := s) (y := y) (n := n) (t := t) (u := u) ?_ H0.out; assumption); rintro e w' ⟨rfl, hb⟩)
      | (go_at_call 22; refine (lives_any _ ?_).mono ?_; (refine Box332.lay (w0 := w0) (q := w.heap.size) (s := s) (g := g) (m := m) (z := s) (y := y) (n := n) (t := t) (u := u) ?_ H0.out; assumption); rintro e w' ⟨rfl, hb⟩))
  go_wp2
  go_ret
  exact ⟨rfl, Box332.done (w0 := w0) (q := w.heap.size) (s := s) (g := g) (m := m) (z := s) (y := y) (n := n) (t := t) (u := u) B0.out (by omega) (by assumption)⟩

set_option maxHeartbeats 4000000 in
theorem unlike_ct (s g : Int) (m n : Bool) (t u : Int) (w : World) (hL : Lay w) (ht : U64 t) (hu : U64 u) (h0 : 0 ≤ s) (h1 : s < 256) (hg : U32 g) (hd : (m == n) = false) (hT : (IntKind.u64.wrap (t * 65536) == IntKind.u64.wrap (u * 65536)) = true) :
    Calls Tryd.prog 8 #[.agg #[.int .i64 s, .int .u32 g, .bool m], .agg #[.int .i64 s, .int .u32 g, .bool n], .agg #[.int .u64 t, .int .u64 u]] w fun e w' => e = .returned (.bool true) ∧ Below w.heap.size w w' := by
  have f2 := head_same s t u ht hu hT
  have f1 := ref_marks s g m n h0 h1 hg hd
  have HG := Lib.hid (u64_small hg.1 hg.2)
  clear hg
  have HT := Lib.hid ht
  have HU := Lib.hid hu
  clear ht hu
  have B0 := Lib.hid (w332_below w s g m s g n t u)
  have H0 := Lib.hid (hL.below (w332_below w s g m s g n t u))
  have hsz := w332_size w s g m s g n t u
  have hbox := w332_box w s g m s g n t u
  clear hL
  go_enter Tryd.func8, Tryd.ntmps8
  go_wp2_with fail
  rw [show (((w.alloc (.cells #[.int .i64 s, .int .u32 g, .bool m] 24)).alloc (.cells #[.int .i64 s, .int .u32 g, .bool n] 24)).alloc (.cells #[.int .u64 t, .int .u64 u] 54)) = w332 w s g m s g n t u from rfl]
  revert B0 H0 hsz hbox
  generalize w332 w s g m s g n t u = w0
  intro B0 H0 hsz hbox
  go_region_held3 (fun w1 => (w1.cell? ⟨w.heap.size, 0, none⟩ = some (.int .i64 s) ∧ w1.cell? ⟨w.heap.size, 1, none⟩ = some (.int .u32 g) ∧ w1.cell? ⟨w.heap.size, 2, none⟩ = some (.bool m) ∧ w1.cell? ⟨w.heap.size + 1, 0, none⟩ = some (.int .i64 s) ∧ w1.cell? ⟨w.heap.size + 1, 1, none⟩ = some (.int .u32 g) ∧ w1.cell? ⟨w.heap.size + 1, 2, none⟩ = some (.bool n) ∧ w1.cell? ⟨w.heap.size + 1 + 1, 0, none⟩ = some (.int .u64 t) ∧ w1.cell? ⟨w.heap.size + 1 + 1, 1, none⟩ = some (.int .u64 u)) ∧ Hid (Below w0.heap.size w0 w1))
    (first | exact Box332.drew hbox | (refine Box332.step hsz ?_ hb; assumption))
    (first
      | (go_at_call_of 11 (Value.bool m); refine (ref_any s g m _ ?_ HG.out).mono ?_; (refine Box332.lay (w0 := w0) (q := w.heap.size) (s := s) (g := g) (m := m) (z := s) (y := g) (n := n) (t := t) (u := u) ?_ H0.out; assumption); rintro e w' ⟨rfl, hb⟩)
      | (go_at_call_of 11 (Value.bool n); refine (ref_any s g n _ ?_ HG.out).mono ?_; (refine Box332.lay (w0 := w0) (q := w.heap.size) (s := s) (g := g) (m := m) (z := s) (y := g) (n := n) (t := t) (u := u) ?_ H0.out; assumption); rintro e w' ⟨rfl, hb⟩)
      | (go_at_call_of 15 (Value.int IntKind.u64 t); refine (quiet_b (head_any s t _ ?_ HT.out)).mono ?_; (refine Box332.lay (w0 := w0) (q := w.heap.size) (s := s) (g := g) (m := m) (z := s) (y := g) (n := n) (t := t) (u := u) ?_ H0.out; assumption); rintro e w' ⟨rfl, hb⟩)
      | (go_at_call_of 15 (Value.int IntKind.u64 u); refine (quiet_b (head_any s u _ ?_ HU.out)).mono ?_; (refine Box332.lay (w0 := w0) (q := w.heap.size) (s := s) (g := g) (m := m) (z := s) (y := g) (n := n) (t := t) (u := u) ?_ H0.out; assumption); rintro e w' ⟨rfl, hb⟩)
      | (go_at_call 22; refine (lives_any _ ?_).mono ?_; (refine Box332.lay (w0 := w0) (q := w.heap.size) (s := s) (g := g) (m := m) (z := s) (y := g) (n := n) (t := t) (u := u) ?_ H0.out; assumption); rintro e w' ⟨rfl, hb⟩))
  go_wp2
  go_ret
  exact ⟨rfl, Box332.done (w0 := w0) (q := w.heap.size) (s := s) (g := g) (m := m) (z := s) (y := g) (n := n) (t := t) (u := u) B0.out (by omega) (by assumption)⟩

set_option maxHeartbeats 4000000 in
theorem unlike_cnt (g : Int) (m : Bool) (y : Int) (n : Bool) (t u : Int) (w : World) (hL : Lay w) (ht : U64 t) (hu : U64 u) (hd : (m == n) = false) (hT : (IntKind.u64.wrap (t * 65536) == IntKind.u64.wrap (u * 65536)) = true) :
    Calls Tryd.prog 8 #[.agg #[.int .i64 (-1), .int .u32 g, .bool m], .agg #[.int .i64 (-1), .int .u32 y, .bool n], .agg #[.int .u64 t, .int .u64 u]] w fun e w' => e = .returned (.bool true) ∧ Below w.heap.size w w' := by
  have f2 := head_same (-1) t u ht hu hT
  have f1 := ref_marks_none 0 m n hd
  have HT := Lib.hid ht
  have HU := Lib.hid hu
  clear ht hu
  have B0 := Lib.hid (w332_below w (-1) 0 m (-1) 0 n t u)
  have H0 := Lib.hid (hL.below (w332_below w (-1) 0 m (-1) 0 n t u))
  have hsz := w332_size w (-1) 0 m (-1) 0 n t u
  have hbox := w332_box w (-1) 0 m (-1) 0 n t u
  clear hL
  go_enter Tryd.func8, Tryd.ntmps8
  go_wp2_with fail
  rw [show (((w.alloc (.cells #[.int .i64 (-1), .int .u32 0, .bool m] 24)).alloc (.cells #[.int .i64 (-1), .int .u32 0, .bool n] 24)).alloc (.cells #[.int .u64 t, .int .u64 u] 54)) = w332 w (-1) 0 m (-1) 0 n t u from rfl]
  revert B0 H0 hsz hbox
  generalize w332 w (-1) 0 m (-1) 0 n t u = w0
  intro B0 H0 hsz hbox
  go_region_held3 (fun w1 => (w1.cell? ⟨w.heap.size, 0, none⟩ = some (.int .i64 (-1)) ∧ w1.cell? ⟨w.heap.size, 1, none⟩ = some (.int .u32 0) ∧ w1.cell? ⟨w.heap.size, 2, none⟩ = some (.bool m) ∧ w1.cell? ⟨w.heap.size + 1, 0, none⟩ = some (.int .i64 (-1)) ∧ w1.cell? ⟨w.heap.size + 1, 1, none⟩ = some (.int .u32 0) ∧ w1.cell? ⟨w.heap.size + 1, 2, none⟩ = some (.bool n) ∧ w1.cell? ⟨w.heap.size + 1 + 1, 0, none⟩ = some (.int .u64 t) ∧ w1.cell? ⟨w.heap.size + 1 + 1, 1, none⟩ = some (.int .u64 u)) ∧ Hid (Below w0.heap.size w0 w1))
    (first | exact Box332.drew hbox | (refine Box332.step hsz ?_ hb; assumption))
    (first
      | (go_at_call_of 11 (Value.bool m); refine (ref_any (-1) 0 m _ ?_ ⟨by decide, by decide⟩).mono ?_; (refine Box332.lay (w0 := w0) (q := w.heap.size) (s := (-1)) (g := 0) (m := m) (z := (-1)) (y := 0) (n := n) (t := t) (u := u) ?_ H0.out; assumption); rintro e w' ⟨rfl, hb⟩)
      | (go_at_call_of 11 (Value.bool n); refine (ref_any (-1) 0 n _ ?_ ⟨by decide, by decide⟩).mono ?_; (refine Box332.lay (w0 := w0) (q := w.heap.size) (s := (-1)) (g := 0) (m := m) (z := (-1)) (y := 0) (n := n) (t := t) (u := u) ?_ H0.out; assumption); rintro e w' ⟨rfl, hb⟩)
      | (go_at_call_of 15 (Value.int IntKind.u64 t); refine (quiet_b (head_any (-1) t _ ?_ HT.out)).mono ?_; (refine Box332.lay (w0 := w0) (q := w.heap.size) (s := (-1)) (g := 0) (m := m) (z := (-1)) (y := 0) (n := n) (t := t) (u := u) ?_ H0.out; assumption); rintro e w' ⟨rfl, hb⟩)
      | (go_at_call_of 15 (Value.int IntKind.u64 u); refine (quiet_b (head_any (-1) u _ ?_ HU.out)).mono ?_; (refine Box332.lay (w0 := w0) (q := w.heap.size) (s := (-1)) (g := 0) (m := m) (z := (-1)) (y := 0) (n := n) (t := t) (u := u) ?_ H0.out; assumption); rintro e w' ⟨rfl, hb⟩)
      | (go_at_call 22; refine (lives_any _ ?_).mono ?_; (refine Box332.lay (w0 := w0) (q := w.heap.size) (s := (-1)) (g := 0) (m := m) (z := (-1)) (y := 0) (n := n) (t := t) (u := u) ?_ H0.out; assumption); rintro e w' ⟨rfl, hb⟩))
  go_wp2
  go_ret
  exact ⟨rfl, Box332.done (w0 := w0) (q := w.heap.size) (s := (-1)) (g := 0) (m := m) (z := (-1)) (y := 0) (n := n) (t := t) (u := u) B0.out (by omega) (by assumption)⟩

set_option maxHeartbeats 4000000 in
theorem unlike_dt (s g : Int) (m : Bool) (t u : Int) (w : World) (hL : Lay w) (ht : U64 t) (hu : U64 u) (h0 : 0 ≤ s) (h1 : s < 256) (hg : U32 g) (hT : (IntKind.u64.wrap (t * 65536) == IntKind.u64.wrap (u * 65536)) = true) :
    Calls Tryd.prog 8 #[.agg #[.int .i64 s, .int .u32 g, .bool m], .agg #[.int .i64 s, .int .u32 g, .bool m], .agg #[.int .u64 t, .int .u64 u]] w fun e w' => e = .returned (.bool true) ∧ Below w.heap.size w w' := by
  have f2 := head_same s t u ht hu hT
  have HG := Lib.hid (u64_small hg.1 hg.2)
  clear hg
  have HT := Lib.hid ht
  have HU := Lib.hid hu
  clear ht hu
  have B0 := Lib.hid (w332_below w s g m s g m t u)
  have H0 := Lib.hid (hL.below (w332_below w s g m s g m t u))
  have hsz := w332_size w s g m s g m t u
  have hbox := w332_box w s g m s g m t u
  clear hL
  go_enter Tryd.func8, Tryd.ntmps8
  go_wp2_with fail
  rw [show (((w.alloc (.cells #[.int .i64 s, .int .u32 g, .bool m] 24)).alloc (.cells #[.int .i64 s, .int .u32 g, .bool m] 24)).alloc (.cells #[.int .u64 t, .int .u64 u] 54)) = w332 w s g m s g m t u from rfl]
  revert B0 H0 hsz hbox
  generalize w332 w s g m s g m t u = w0
  intro B0 H0 hsz hbox
  go_region_held3 (fun w1 => (w1.cell? ⟨w.heap.size, 0, none⟩ = some (.int .i64 s) ∧ w1.cell? ⟨w.heap.size, 1, none⟩ = some (.int .u32 g) ∧ w1.cell? ⟨w.heap.size, 2, none⟩ = some (.bool m) ∧ w1.cell? ⟨w.heap.size + 1, 0, none⟩ = some (.int .i64 s) ∧ w1.cell? ⟨w.heap.size + 1, 1, none⟩ = some (.int .u32 g) ∧ w1.cell? ⟨w.heap.size + 1, 2, none⟩ = some (.bool m) ∧ w1.cell? ⟨w.heap.size + 1 + 1, 0, none⟩ = some (.int .u64 t) ∧ w1.cell? ⟨w.heap.size + 1 + 1, 1, none⟩ = some (.int .u64 u)) ∧ Hid (Below w0.heap.size w0 w1))
    (first | exact Box332.drew hbox | (refine Box332.step hsz ?_ hb; assumption))
    (first
      | (go_at_call 11; refine (ref_any s g m _ ?_ HG.out).mono ?_; (refine Box332.lay (w0 := w0) (q := w.heap.size) (s := s) (g := g) (m := m) (z := s) (y := g) (n := m) (t := t) (u := u) ?_ H0.out; assumption); rintro e w' ⟨rfl, hb⟩)
      | (go_at_call_of 15 (Value.int IntKind.u64 t); refine (quiet_b (head_any s t _ ?_ HT.out)).mono ?_; (refine Box332.lay (w0 := w0) (q := w.heap.size) (s := s) (g := g) (m := m) (z := s) (y := g) (n := m) (t := t) (u := u) ?_ H0.out; assumption); rintro e w' ⟨rfl, hb⟩)
      | (go_at_call_of 15 (Value.int IntKind.u64 u); refine (quiet_b (head_any s u _ ?_ HU.out)).mono ?_; (refine Box332.lay (w0 := w0) (q := w.heap.size) (s := s) (g := g) (m := m) (z := s) (y := g) (n := m) (t := t) (u := u) ?_ H0.out; assumption); rintro e w' ⟨rfl, hb⟩)
      | (go_at_call 22; refine (lives_any _ ?_).mono ?_; (refine Box332.lay (w0 := w0) (q := w.heap.size) (s := s) (g := g) (m := m) (z := s) (y := g) (n := m) (t := t) (u := u) ?_ H0.out; assumption); rintro e w' ⟨rfl, hb⟩))
  go_wp2
  go_ret
  exact ⟨rfl, Box332.done (w0 := w0) (q := w.heap.size) (s := s) (g := g) (m := m) (z := s) (y := g) (n := m) (t := t) (u := u) B0.out (by omega) (by assumption)⟩

set_option maxHeartbeats 4000000 in
theorem unlike_dnt (g : Int) (m : Bool) (y : Int) (t u : Int) (w : World) (hL : Lay w) (ht : U64 t) (hu : U64 u) (hT : (IntKind.u64.wrap (t * 65536) == IntKind.u64.wrap (u * 65536)) = true) :
    Calls Tryd.prog 8 #[.agg #[.int .i64 (-1), .int .u32 g, .bool m], .agg #[.int .i64 (-1), .int .u32 y, .bool m], .agg #[.int .u64 t, .int .u64 u]] w fun e w' => e = .returned (.bool true) ∧ Below w.heap.size w w' := by
  have f2 := head_same (-1) t u ht hu hT
  have HT := Lib.hid ht
  have HU := Lib.hid hu
  clear ht hu
  have B0 := Lib.hid (w332_below w (-1) 0 m (-1) 0 m t u)
  have H0 := Lib.hid (hL.below (w332_below w (-1) 0 m (-1) 0 m t u))
  have hsz := w332_size w (-1) 0 m (-1) 0 m t u
  have hbox := w332_box w (-1) 0 m (-1) 0 m t u
  clear hL
  go_enter Tryd.func8, Tryd.ntmps8
  go_wp2_with fail
  rw [show (((w.alloc (.cells #[.int .i64 (-1), .int .u32 0, .bool m] 24)).alloc (.cells #[.int .i64 (-1), .int .u32 0, .bool m] 24)).alloc (.cells #[.int .u64 t, .int .u64 u] 54)) = w332 w (-1) 0 m (-1) 0 m t u from rfl]
  revert B0 H0 hsz hbox
  generalize w332 w (-1) 0 m (-1) 0 m t u = w0
  intro B0 H0 hsz hbox
  go_region_held3 (fun w1 => (w1.cell? ⟨w.heap.size, 0, none⟩ = some (.int .i64 (-1)) ∧ w1.cell? ⟨w.heap.size, 1, none⟩ = some (.int .u32 0) ∧ w1.cell? ⟨w.heap.size, 2, none⟩ = some (.bool m) ∧ w1.cell? ⟨w.heap.size + 1, 0, none⟩ = some (.int .i64 (-1)) ∧ w1.cell? ⟨w.heap.size + 1, 1, none⟩ = some (.int .u32 0) ∧ w1.cell? ⟨w.heap.size + 1, 2, none⟩ = some (.bool m) ∧ w1.cell? ⟨w.heap.size + 1 + 1, 0, none⟩ = some (.int .u64 t) ∧ w1.cell? ⟨w.heap.size + 1 + 1, 1, none⟩ = some (.int .u64 u)) ∧ Hid (Below w0.heap.size w0 w1))
    (first | exact Box332.drew hbox | (refine Box332.step hsz ?_ hb; assumption))
    (first
      | (go_at_call 11; refine (ref_any (-1) 0 m _ ?_ ⟨by decide, by decide⟩).mono ?_; (refine Box332.lay (w0 := w0) (q := w.heap.size) (s := (-1)) (g := 0) (m := m) (z := (-1)) (y := 0) (n := m) (t := t) (u := u) ?_ H0.out; assumption); rintro e w' ⟨rfl, hb⟩)
      | (go_at_call_of 15 (Value.int IntKind.u64 t); refine (quiet_b (head_any (-1) t _ ?_ HT.out)).mono ?_; (refine Box332.lay (w0 := w0) (q := w.heap.size) (s := (-1)) (g := 0) (m := m) (z := (-1)) (y := 0) (n := m) (t := t) (u := u) ?_ H0.out; assumption); rintro e w' ⟨rfl, hb⟩)
      | (go_at_call_of 15 (Value.int IntKind.u64 u); refine (quiet_b (head_any (-1) u _ ?_ HU.out)).mono ?_; (refine Box332.lay (w0 := w0) (q := w.heap.size) (s := (-1)) (g := 0) (m := m) (z := (-1)) (y := 0) (n := m) (t := t) (u := u) ?_ H0.out; assumption); rintro e w' ⟨rfl, hb⟩)
      | (go_at_call 22; refine (lives_any _ ?_).mono ?_; (refine Box332.lay (w0 := w0) (q := w.heap.size) (s := (-1)) (g := 0) (m := m) (z := (-1)) (y := 0) (n := m) (t := t) (u := u) ?_ H0.out; assumption); rintro e w' ⟨rfl, hb⟩))
  go_wp2
  go_ret
  exact ⟨rfl, Box332.done (w0 := w0) (q := w.heap.size) (s := (-1)) (g := 0) (m := m) (z := (-1)) (y := 0) (n := m) (t := t) (u := u) B0.out (by omega) (by assumption)⟩

set_option maxHeartbeats 4000000 in
theorem unlike_bf (s g : Int) (m : Bool) (y : Int) (n : Bool) (t u : Int) (w : World) (hL : Lay w) (ht : U64 t) (hu : U64 u) (h0 : 0 ≤ s) (h1 : s < 256) (hg : U32 g) (hy : U32 y) (hd : (g == y) = false) (hT : (IntKind.u64.wrap (t * 65536) == IntKind.u64.wrap (u * 65536)) = false) :
    Calls Tryd.prog 8 #[.agg #[.int .i64 s, .int .u32 g, .bool m], .agg #[.int .i64 s, .int .u32 y, .bool n], .agg #[.int .u64 t, .int .u64 u]] w fun e w' => e = .returned (.bool true) ∧ Below w.heap.size w w' := by
  have f2 := head_other s t u ht hu hT
  have f1 := ref_gens s g y m n h0 h1 hg hy hd
  have HG := Lib.hid (u64_small hg.1 hg.2)
  have HY := Lib.hid (u64_small hy.1 hy.2)
  clear hg hy
  have HT := Lib.hid ht
  have HU := Lib.hid hu
  clear ht hu
  have B0 := Lib.hid (w332_below w s g m s y n t u)
  have H0 := Lib.hid (hL.below (w332_below w s g m s y n t u))
  have hsz := w332_size w s g m s y n t u
  have hbox := w332_box w s g m s y n t u
  clear hL
  go_enter Tryd.func8, Tryd.ntmps8
  go_wp2_with fail
  rw [show (((w.alloc (.cells #[.int .i64 s, .int .u32 g, .bool m] 24)).alloc (.cells #[.int .i64 s, .int .u32 y, .bool n] 24)).alloc (.cells #[.int .u64 t, .int .u64 u] 54)) = w332 w s g m s y n t u from rfl]
  revert B0 H0 hsz hbox
  generalize w332 w s g m s y n t u = w0
  intro B0 H0 hsz hbox
  go_region_held3 (fun w1 => (w1.cell? ⟨w.heap.size, 0, none⟩ = some (.int .i64 s) ∧ w1.cell? ⟨w.heap.size, 1, none⟩ = some (.int .u32 g) ∧ w1.cell? ⟨w.heap.size, 2, none⟩ = some (.bool m) ∧ w1.cell? ⟨w.heap.size + 1, 0, none⟩ = some (.int .i64 s) ∧ w1.cell? ⟨w.heap.size + 1, 1, none⟩ = some (.int .u32 y) ∧ w1.cell? ⟨w.heap.size + 1, 2, none⟩ = some (.bool n) ∧ w1.cell? ⟨w.heap.size + 1 + 1, 0, none⟩ = some (.int .u64 t) ∧ w1.cell? ⟨w.heap.size + 1 + 1, 1, none⟩ = some (.int .u64 u)) ∧ Hid (Below w0.heap.size w0 w1))
    (first | exact Box332.drew hbox | (refine Box332.step hsz ?_ hb; assumption))
    (first
      | (go_at_call_of 11 (Value.int IntKind.u32 g); refine (ref_any s g m _ ?_ HG.out).mono ?_; (refine Box332.lay (w0 := w0) (q := w.heap.size) (s := s) (g := g) (m := m) (z := s) (y := y) (n := n) (t := t) (u := u) ?_ H0.out; assumption); rintro e w' ⟨rfl, hb⟩)
      | (go_at_call_of 11 (Value.int IntKind.u32 y); refine (ref_any s y n _ ?_ HY.out).mono ?_; (refine Box332.lay (w0 := w0) (q := w.heap.size) (s := s) (g := g) (m := m) (z := s) (y := y) (n := n) (t := t) (u := u) ?_ H0.out; assumption); rintro e w' ⟨rfl, hb⟩)
      | (go_at_call_of 15 (Value.int IntKind.u64 t); refine (quiet_b (head_any s t _ ?_ HT.out)).mono ?_; (refine Box332.lay (w0 := w0) (q := w.heap.size) (s := s) (g := g) (m := m) (z := s) (y := y) (n := n) (t := t) (u := u) ?_ H0.out; assumption); rintro e w' ⟨rfl, hb⟩)
      | (go_at_call_of 15 (Value.int IntKind.u64 u); refine (quiet_b (head_any s u _ ?_ HU.out)).mono ?_; (refine Box332.lay (w0 := w0) (q := w.heap.size) (s := s) (g := g) (m := m) (z := s) (y := y) (n := n) (t := t) (u := u) ?_ H0.out; assumption); rintro e w' ⟨rfl, hb⟩)
      | (go_at_call 22; refine (lives_any _ ?_).mono ?_; (refine Box332.lay (w0 := w0) (q := w.heap.size) (s := s) (g := g) (m := m) (z := s) (y := y) (n := n) (t := t) (u := u) ?_ H0.out; assumption); rintro e w' ⟨rfl, hb⟩))
  go_wp2
  go_ret
  exact ⟨rfl, Box332.done (w0 := w0) (q := w.heap.size) (s := s) (g := g) (m := m) (z := s) (y := y) (n := n) (t := t) (u := u) B0.out (by omega) (by assumption)⟩

set_option maxHeartbeats 4000000 in
theorem unlike_cf (s g : Int) (m n : Bool) (t u : Int) (w : World) (hL : Lay w) (ht : U64 t) (hu : U64 u) (h0 : 0 ≤ s) (h1 : s < 256) (hg : U32 g) (hd : (m == n) = false) (hT : (IntKind.u64.wrap (t * 65536) == IntKind.u64.wrap (u * 65536)) = false) :
    Calls Tryd.prog 8 #[.agg #[.int .i64 s, .int .u32 g, .bool m], .agg #[.int .i64 s, .int .u32 g, .bool n], .agg #[.int .u64 t, .int .u64 u]] w fun e w' => e = .returned (.bool true) ∧ Below w.heap.size w w' := by
  have f2 := head_other s t u ht hu hT
  have f1 := ref_marks s g m n h0 h1 hg hd
  have HG := Lib.hid (u64_small hg.1 hg.2)
  clear hg
  have HT := Lib.hid ht
  have HU := Lib.hid hu
  clear ht hu
  have B0 := Lib.hid (w332_below w s g m s g n t u)
  have H0 := Lib.hid (hL.below (w332_below w s g m s g n t u))
  have hsz := w332_size w s g m s g n t u
  have hbox := w332_box w s g m s g n t u
  clear hL
  go_enter Tryd.func8, Tryd.ntmps8
  go_wp2_with fail
  rw [show (((w.alloc (.cells #[.int .i64 s, .int .u32 g, .bool m] 24)).alloc (.cells #[.int .i64 s, .int .u32 g, .bool n] 24)).alloc (.cells #[.int .u64 t, .int .u64 u] 54)) = w332 w s g m s g n t u from rfl]
  revert B0 H0 hsz hbox
  generalize w332 w s g m s g n t u = w0
  intro B0 H0 hsz hbox
  go_region_held3 (fun w1 => (w1.cell? ⟨w.heap.size, 0, none⟩ = some (.int .i64 s) ∧ w1.cell? ⟨w.heap.size, 1, none⟩ = some (.int .u32 g) ∧ w1.cell? ⟨w.heap.size, 2, none⟩ = some (.bool m) ∧ w1.cell? ⟨w.heap.size + 1, 0, none⟩ = some (.int .i64 s) ∧ w1.cell? ⟨w.heap.size + 1, 1, none⟩ = some (.int .u32 g) ∧ w1.cell? ⟨w.heap.size + 1, 2, none⟩ = some (.bool n) ∧ w1.cell? ⟨w.heap.size + 1 + 1, 0, none⟩ = some (.int .u64 t) ∧ w1.cell? ⟨w.heap.size + 1 + 1, 1, none⟩ = some (.int .u64 u)) ∧ Hid (Below w0.heap.size w0 w1))
    (first | exact Box332.drew hbox | (refine Box332.step hsz ?_ hb; assumption))
    (first
      | (go_at_call_of 11 (Value.bool m); refine (ref_any s g m _ ?_ HG.out).mono ?_; (refine Box332.lay (w0 := w0) (q := w.heap.size) (s := s) (g := g) (m := m) (z := s) (y := g) (n := n) (t := t) (u := u) ?_ H0.out; assumption); rintro e w' ⟨rfl, hb⟩)
      | (go_at_call_of 11 (Value.bool n); refine (ref_any s g n _ ?_ HG.out).mono ?_; (refine Box332.lay (w0 := w0) (q := w.heap.size) (s := s) (g := g) (m := m) (z := s) (y := g) (n := n) (t := t) (u := u) ?_ H0.out; assumption); rintro e w' ⟨rfl, hb⟩)
      | (go_at_call_of 15 (Value.int IntKind.u64 t); refine (quiet_b (head_any s t _ ?_ HT.out)).mono ?_; (refine Box332.lay (w0 := w0) (q := w.heap.size) (s := s) (g := g) (m := m) (z := s) (y := g) (n := n) (t := t) (u := u) ?_ H0.out; assumption); rintro e w' ⟨rfl, hb⟩)
      | (go_at_call_of 15 (Value.int IntKind.u64 u); refine (quiet_b (head_any s u _ ?_ HU.out)).mono ?_; (refine Box332.lay (w0 := w0) (q := w.heap.size) (s := s) (g := g) (m := m) (z := s) (y := g) (n := n) (t := t) (u := u) ?_ H0.out; assumption); rintro e w' ⟨rfl, hb⟩)
      | (go_at_call 22; refine (lives_any _ ?_).mono ?_; (refine Box332.lay (w0 := w0) (q := w.heap.size) (s := s) (g := g) (m := m) (z := s) (y := g) (n := n) (t := t) (u := u) ?_ H0.out; assumption); rintro e w' ⟨rfl, hb⟩))
  go_wp2
  go_ret
  exact ⟨rfl, Box332.done (w0 := w0) (q := w.heap.size) (s := s) (g := g) (m := m) (z := s) (y := g) (n := n) (t := t) (u := u) B0.out (by omega) (by assumption)⟩

set_option maxHeartbeats 4000000 in
theorem unlike_cnf (g : Int) (m : Bool) (y : Int) (n : Bool) (t u : Int) (w : World) (hL : Lay w) (ht : U64 t) (hu : U64 u) (hd : (m == n) = false) (hT : (IntKind.u64.wrap (t * 65536) == IntKind.u64.wrap (u * 65536)) = false) :
    Calls Tryd.prog 8 #[.agg #[.int .i64 (-1), .int .u32 g, .bool m], .agg #[.int .i64 (-1), .int .u32 y, .bool n], .agg #[.int .u64 t, .int .u64 u]] w fun e w' => e = .returned (.bool true) ∧ Below w.heap.size w w' := by
  have f2 := head_other (-1) t u ht hu hT
  have f1 := ref_marks_none 0 m n hd
  have HT := Lib.hid ht
  have HU := Lib.hid hu
  clear ht hu
  have B0 := Lib.hid (w332_below w (-1) 0 m (-1) 0 n t u)
  have H0 := Lib.hid (hL.below (w332_below w (-1) 0 m (-1) 0 n t u))
  have hsz := w332_size w (-1) 0 m (-1) 0 n t u
  have hbox := w332_box w (-1) 0 m (-1) 0 n t u
  clear hL
  go_enter Tryd.func8, Tryd.ntmps8
  go_wp2_with fail
  rw [show (((w.alloc (.cells #[.int .i64 (-1), .int .u32 0, .bool m] 24)).alloc (.cells #[.int .i64 (-1), .int .u32 0, .bool n] 24)).alloc (.cells #[.int .u64 t, .int .u64 u] 54)) = w332 w (-1) 0 m (-1) 0 n t u from rfl]
  revert B0 H0 hsz hbox
  generalize w332 w (-1) 0 m (-1) 0 n t u = w0
  intro B0 H0 hsz hbox
  go_region_held3 (fun w1 => (w1.cell? ⟨w.heap.size, 0, none⟩ = some (.int .i64 (-1)) ∧ w1.cell? ⟨w.heap.size, 1, none⟩ = some (.int .u32 0) ∧ w1.cell? ⟨w.heap.size, 2, none⟩ = some (.bool m) ∧ w1.cell? ⟨w.heap.size + 1, 0, none⟩ = some (.int .i64 (-1)) ∧ w1.cell? ⟨w.heap.size + 1, 1, none⟩ = some (.int .u32 0) ∧ w1.cell? ⟨w.heap.size + 1, 2, none⟩ = some (.bool n) ∧ w1.cell? ⟨w.heap.size + 1 + 1, 0, none⟩ = some (.int .u64 t) ∧ w1.cell? ⟨w.heap.size + 1 + 1, 1, none⟩ = some (.int .u64 u)) ∧ Hid (Below w0.heap.size w0 w1))
    (first | exact Box332.drew hbox | (refine Box332.step hsz ?_ hb; assumption))
    (first
      | (go_at_call_of 11 (Value.bool m); refine (ref_any (-1) 0 m _ ?_ ⟨by decide, by decide⟩).mono ?_; (refine Box332.lay (w0 := w0) (q := w.heap.size) (s := (-1)) (g := 0) (m := m) (z := (-1)) (y := 0) (n := n) (t := t) (u := u) ?_ H0.out; assumption); rintro e w' ⟨rfl, hb⟩)
      | (go_at_call_of 11 (Value.bool n); refine (ref_any (-1) 0 n _ ?_ ⟨by decide, by decide⟩).mono ?_; (refine Box332.lay (w0 := w0) (q := w.heap.size) (s := (-1)) (g := 0) (m := m) (z := (-1)) (y := 0) (n := n) (t := t) (u := u) ?_ H0.out; assumption); rintro e w' ⟨rfl, hb⟩)
      | (go_at_call_of 15 (Value.int IntKind.u64 t); refine (quiet_b (head_any (-1) t _ ?_ HT.out)).mono ?_; (refine Box332.lay (w0 := w0) (q := w.heap.size) (s := (-1)) (g := 0) (m := m) (z := (-1)) (y := 0) (n := n) (t := t) (u := u) ?_ H0.out; assumption); rintro e w' ⟨rfl, hb⟩)
      | (go_at_call_of 15 (Value.int IntKind.u64 u); refine (quiet_b (head_any (-1) u _ ?_ HU.out)).mono ?_; (refine Box332.lay (w0 := w0) (q := w.heap.size) (s := (-1)) (g := 0) (m := m) (z := (-1)) (y := 0) (n := n) (t := t) (u := u) ?_ H0.out; assumption); rintro e w' ⟨rfl, hb⟩)
      | (go_at_call 22; refine (lives_any _ ?_).mono ?_; (refine Box332.lay (w0 := w0) (q := w.heap.size) (s := (-1)) (g := 0) (m := m) (z := (-1)) (y := 0) (n := n) (t := t) (u := u) ?_ H0.out; assumption); rintro e w' ⟨rfl, hb⟩))
  go_wp2
  go_ret
  exact ⟨rfl, Box332.done (w0 := w0) (q := w.heap.size) (s := (-1)) (g := 0) (m := m) (z := (-1)) (y := 0) (n := n) (t := t) (u := u) B0.out (by omega) (by assumption)⟩

set_option maxHeartbeats 4000000 in
theorem unlike_df (s g : Int) (m : Bool) (t u : Int) (w : World) (hL : Lay w) (ht : U64 t) (hu : U64 u) (h0 : 0 ≤ s) (h1 : s < 256) (hg : U32 g) (hT : (IntKind.u64.wrap (t * 65536) == IntKind.u64.wrap (u * 65536)) = false) :
    Calls Tryd.prog 8 #[.agg #[.int .i64 s, .int .u32 g, .bool m], .agg #[.int .i64 s, .int .u32 g, .bool m], .agg #[.int .u64 t, .int .u64 u]] w fun e w' => e = .returned (.bool true) ∧ Below w.heap.size w w' := by
  have f2 := head_other s t u ht hu hT
  have HG := Lib.hid (u64_small hg.1 hg.2)
  clear hg
  have HT := Lib.hid ht
  have HU := Lib.hid hu
  clear ht hu
  have B0 := Lib.hid (w332_below w s g m s g m t u)
  have H0 := Lib.hid (hL.below (w332_below w s g m s g m t u))
  have hsz := w332_size w s g m s g m t u
  have hbox := w332_box w s g m s g m t u
  clear hL
  go_enter Tryd.func8, Tryd.ntmps8
  go_wp2_with fail
  rw [show (((w.alloc (.cells #[.int .i64 s, .int .u32 g, .bool m] 24)).alloc (.cells #[.int .i64 s, .int .u32 g, .bool m] 24)).alloc (.cells #[.int .u64 t, .int .u64 u] 54)) = w332 w s g m s g m t u from rfl]
  revert B0 H0 hsz hbox
  generalize w332 w s g m s g m t u = w0
  intro B0 H0 hsz hbox
  go_region_held3 (fun w1 => (w1.cell? ⟨w.heap.size, 0, none⟩ = some (.int .i64 s) ∧ w1.cell? ⟨w.heap.size, 1, none⟩ = some (.int .u32 g) ∧ w1.cell? ⟨w.heap.size, 2, none⟩ = some (.bool m) ∧ w1.cell? ⟨w.heap.size + 1, 0, none⟩ = some (.int .i64 s) ∧ w1.cell? ⟨w.heap.size + 1, 1, none⟩ = some (.int .u32 g) ∧ w1.cell? ⟨w.heap.size + 1, 2, none⟩ = some (.bool m) ∧ w1.cell? ⟨w.heap.size + 1 + 1, 0, none⟩ = some (.int .u64 t) ∧ w1.cell? ⟨w.heap.size + 1 + 1, 1, none⟩ = some (.int .u64 u)) ∧ Hid (Below w0.heap.size w0 w1))
    (first | exact Box332.drew hbox | (refine Box332.step hsz ?_ hb; assumption))
    (first
      | (go_at_call 11; refine (ref_any s g m _ ?_ HG.out).mono ?_; (refine Box332.lay (w0 := w0) (q := w.heap.size) (s := s) (g := g) (m := m) (z := s) (y := g) (n := m) (t := t) (u := u) ?_ H0.out; assumption); rintro e w' ⟨rfl, hb⟩)
      | (go_at_call_of 15 (Value.int IntKind.u64 t); refine (quiet_b (head_any s t _ ?_ HT.out)).mono ?_; (refine Box332.lay (w0 := w0) (q := w.heap.size) (s := s) (g := g) (m := m) (z := s) (y := g) (n := m) (t := t) (u := u) ?_ H0.out; assumption); rintro e w' ⟨rfl, hb⟩)
      | (go_at_call_of 15 (Value.int IntKind.u64 u); refine (quiet_b (head_any s u _ ?_ HU.out)).mono ?_; (refine Box332.lay (w0 := w0) (q := w.heap.size) (s := s) (g := g) (m := m) (z := s) (y := g) (n := m) (t := t) (u := u) ?_ H0.out; assumption); rintro e w' ⟨rfl, hb⟩)
      | (go_at_call 22; refine (lives_any _ ?_).mono ?_; (refine Box332.lay (w0 := w0) (q := w.heap.size) (s := s) (g := g) (m := m) (z := s) (y := g) (n := m) (t := t) (u := u) ?_ H0.out; assumption); rintro e w' ⟨rfl, hb⟩))
  go_wp2
  go_ret
  exact ⟨rfl, Box332.done (w0 := w0) (q := w.heap.size) (s := s) (g := g) (m := m) (z := s) (y := g) (n := m) (t := t) (u := u) B0.out (by omega) (by assumption)⟩

set_option maxHeartbeats 4000000 in
theorem unlike_dnf (g : Int) (m : Bool) (y : Int) (t u : Int) (w : World) (hL : Lay w) (ht : U64 t) (hu : U64 u) (hT : (IntKind.u64.wrap (t * 65536) == IntKind.u64.wrap (u * 65536)) = false) :
    Calls Tryd.prog 8 #[.agg #[.int .i64 (-1), .int .u32 g, .bool m], .agg #[.int .i64 (-1), .int .u32 y, .bool m], .agg #[.int .u64 t, .int .u64 u]] w fun e w' => e = .returned (.bool true) ∧ Below w.heap.size w w' := by
  have f2 := head_other (-1) t u ht hu hT
  have HT := Lib.hid ht
  have HU := Lib.hid hu
  clear ht hu
  have B0 := Lib.hid (w332_below w (-1) 0 m (-1) 0 m t u)
  have H0 := Lib.hid (hL.below (w332_below w (-1) 0 m (-1) 0 m t u))
  have hsz := w332_size w (-1) 0 m (-1) 0 m t u
  have hbox := w332_box w (-1) 0 m (-1) 0 m t u
  clear hL
  go_enter Tryd.func8, Tryd.ntmps8
  go_wp2_with fail
  rw [show (((w.alloc (.cells #[.int .i64 (-1), .int .u32 0, .bool m] 24)).alloc (.cells #[.int .i64 (-1), .int .u32 0, .bool m] 24)).alloc (.cells #[.int .u64 t, .int .u64 u] 54)) = w332 w (-1) 0 m (-1) 0 m t u from rfl]
  revert B0 H0 hsz hbox
  generalize w332 w (-1) 0 m (-1) 0 m t u = w0
  intro B0 H0 hsz hbox
  go_region_held3 (fun w1 => (w1.cell? ⟨w.heap.size, 0, none⟩ = some (.int .i64 (-1)) ∧ w1.cell? ⟨w.heap.size, 1, none⟩ = some (.int .u32 0) ∧ w1.cell? ⟨w.heap.size, 2, none⟩ = some (.bool m) ∧ w1.cell? ⟨w.heap.size + 1, 0, none⟩ = some (.int .i64 (-1)) ∧ w1.cell? ⟨w.heap.size + 1, 1, none⟩ = some (.int .u32 0) ∧ w1.cell? ⟨w.heap.size + 1, 2, none⟩ = some (.bool m) ∧ w1.cell? ⟨w.heap.size + 1 + 1, 0, none⟩ = some (.int .u64 t) ∧ w1.cell? ⟨w.heap.size + 1 + 1, 1, none⟩ = some (.int .u64 u)) ∧ Hid (Below w0.heap.size w0 w1))
    (first | exact Box332.drew hbox | (refine Box332.step hsz ?_ hb; assumption))
    (first
      | (go_at_call 11; refine (ref_any (-1) 0 m _ ?_ ⟨by decide, by decide⟩).mono ?_; (refine Box332.lay (w0 := w0) (q := w.heap.size) (s := (-1)) (g := 0) (m := m) (z := (-1)) (y := 0) (n := m) (t := t) (u := u) ?_ H0.out; assumption); rintro e w' ⟨rfl, hb⟩)
      | (go_at_call_of 15 (Value.int IntKind.u64 t); refine (quiet_b (head_any (-1) t _ ?_ HT.out)).mono ?_; (refine Box332.lay (w0 := w0) (q := w.heap.size) (s := (-1)) (g := 0) (m := m) (z := (-1)) (y := 0) (n := m) (t := t) (u := u) ?_ H0.out; assumption); rintro e w' ⟨rfl, hb⟩)
      | (go_at_call_of 15 (Value.int IntKind.u64 u); refine (quiet_b (head_any (-1) u _ ?_ HU.out)).mono ?_; (refine Box332.lay (w0 := w0) (q := w.heap.size) (s := (-1)) (g := 0) (m := m) (z := (-1)) (y := 0) (n := m) (t := t) (u := u) ?_ H0.out; assumption); rintro e w' ⟨rfl, hb⟩)
      | (go_at_call 22; refine (lives_any _ ?_).mono ?_; (refine Box332.lay (w0 := w0) (q := w.heap.size) (s := (-1)) (g := 0) (m := m) (z := (-1)) (y := 0) (n := m) (t := t) (u := u) ?_ H0.out; assumption); rintro e w' ⟨rfl, hb⟩))
  go_wp2
  go_ret
  exact ⟨rfl, Box332.done (w0 := w0) (q := w.heap.size) (s := (-1)) (g := 0) (m := m) (z := (-1)) (y := 0) (n := m) (t := t) (u := u) B0.out (by omega) (by assumption)⟩

theorem lawUnlike (s g : Int) (m : Bool) (z y : Int) (n : Bool) (t u : Int) (w : World) (hL : Lay w) (hg : U32 g) (hy : U32 y) (ht : U64 t) (hu : U64 u) :
    Calls Tryd.prog 8 #[.agg #[.int .i64 s, .int .u32 g, .bool m], .agg #[.int .i64 z, .int .u32 y, .bool n], .agg #[.int .u64 t, .int .u64 u]] w fun e w' => e = .returned (.bool true) ∧ Below w.heap.size w w' := by
  by_cases o1 : s < -1
  · exact unlike_o1 s g m z y n t u w hL o1
  by_cases o2 : 256 ≤ s
  · exact unlike_o2 s g m z y n t u w hL o1 o2
  by_cases o3 : z < -1
  · exact unlike_o3 s g m z y n t u w hL o1 o2 o3
  by_cases o4 : 256 ≤ z
  · exact unlike_o4 s g m z y n t u w hL o1 o2 o3 o4
  by_cases hd : s = z
  · subst hd
    have hT : (IntKind.u64.wrap (t * 65536) == IntKind.u64.wrap (u * 65536)) = true ∨ (IntKind.u64.wrap (t * 65536) == IntKind.u64.wrap (u * 65536)) = false := by
      cases (IntKind.u64.wrap (t * 65536) == IntKind.u64.wrap (u * 65536)) <;> simp
    by_cases hn : s = -1
    · subst hn
      by_cases hm : m = n
      · subst hm
        rcases hT with hT | hT
        · exact unlike_dnt g m y t u w hL ht hu hT
        · exact unlike_dnf g m y t u w hL ht hu hT
      · have hm' : (m == n) = false := beq_eq_false_iff_ne.2 hm
        rcases hT with hT | hT
        · exact unlike_cnt g m y n t u w hL ht hu hm' hT
        · exact unlike_cnf g m y n t u w hL ht hu hm' hT
    · have h0 : 0 ≤ s := by omega
      have h1 : s < 256 := by omega
      by_cases hgy : g = y
      · subst hgy
        by_cases hm : m = n
        · subst hm
          rcases hT with hT | hT
          · exact unlike_dt s g m t u w hL ht hu h0 h1 hg hT
          · exact unlike_df s g m t u w hL ht hu h0 h1 hg hT
        · have hm' : (m == n) = false := beq_eq_false_iff_ne.2 hm
          rcases hT with hT | hT
          · exact unlike_ct s g m n t u w hL ht hu h0 h1 hg hm' hT
          · exact unlike_cf s g m n t u w hL ht hu h0 h1 hg hm' hT
      · have hgy' : (g == y) = false := beq_eq_false_iff_ne.2 hgy
        rcases hT with hT | hT
        · exact unlike_bt s g m y n t u w hL ht hu h0 h1 hg hy hgy' hT
        · exact unlike_bf s g m y n t u w hL ht hu h0 h1 hg hy hgy' hT
  · have hd' : (s == z) = false := beq_eq_false_iff_ne.2 hd
    by_cases hn : s = -1
    · subst hn
      exact unlike_a2 g m z y n t u w hL ht hu (by omega) (by omega) hy hd'
    · by_cases hz : z = -1
      · subst hz
        exact unlike_a3 s g m y n t u w hL ht hu (by omega) (by omega) hg hd'
      · exact unlike_a1 s g m z y n t u w hL ht hu (by omega) (by omega) (by omega) (by omega) hg hy hd'
end Go.Proofs.YtommlceihogelaaDoor
