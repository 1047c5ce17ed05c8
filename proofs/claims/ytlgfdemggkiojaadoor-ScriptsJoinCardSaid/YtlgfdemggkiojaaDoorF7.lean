/-
  The program's May of layer 3: may a command be; no condition but that its small numbers fit their kinds.
-/
import Derived.Test.YtlgfdemggkiojaaDoorQ1
import Derived.Deep.RegionHeld3
namespace Go.Proofs.YtlgfdemggkiojaaDoor
open Go.RowKit

theorem cell_keep {w0 w1 w2 : World} (hB : Below w0.heap.size w0 w1) (hb : Below w1.heap.size w1 w2) {b o : Nat} {v : Value} (hs : b < w0.heap.size) (h : w1.cell? ⟨b, o, none⟩ = some v) : w2.cell? ⟨b, o, none⟩ = some v :=
  (hb.cell (p := ⟨b, o, none⟩) (Nat.lt_of_lt_of_le hs hB.size)).trans h
theorem below_next {w0 w1 w2 : World} (hB : Below w0.heap.size w0 w1) (hb : Below w1.heap.size w1 w2) : Below w0.heap.size w0 w2 := hB.trans (hb.mono hB.size)
/-- What May's two boxes hold, while the world goes on. -/
def MayBox (w0 : World) (p q : Nat) (k a t s o ky v b0 b1 b2 b3 b4 : Int) (w : World) : Prop :=
  (w.cell? ⟨p, 0, none⟩ = some (.int .u8 k) ∧ w.cell? ⟨p, 1, none⟩ = some (.int .i64 0) ∧ w.cell? ⟨p, 2, none⟩ = some (.int .i64 0) ∧ w.cell? ⟨p, 3, none⟩ = some (.int .i64 a) ∧ w.cell? ⟨p, 4, none⟩ = some (.int .i64 t) ∧ w.cell? ⟨p, 5, none⟩ = some (.int .u8 s) ∧ w.cell? ⟨p, 6, none⟩ = some (.int .u8 o) ∧ w.cell? ⟨p, 7, none⟩ = some (.int .u64 ky) ∧ w.cell? ⟨p, 8, none⟩ = some (.int .u64 v) ∧
   w.cell? ⟨q, 0, none⟩ = some (.int .u8 b0) ∧ w.cell? ⟨q, 1, none⟩ = some (.int .u8 b1) ∧ w.cell? ⟨q, 2, none⟩ = some (.int .u8 b2) ∧ w.cell? ⟨q, 3, none⟩ = some (.int .u8 b3) ∧ w.cell? ⟨q, 4, none⟩ = some (.int .u8 b4)) ∧ Hid (Below w0.heap.size w0 w)
section
variable {w0 w1 w2 : World} {p q : Nat} {k a t s o ky v b0 b1 b2 b3 b4 : Int}
theorem MayBox.step (hp : p < w0.heap.size) (hq : q < w0.heap.size) (h : MayBox w0 p q k a t s o ky v b0 b1 b2 b3 b4 w1) (hb : Below w1.heap.size w1 w2) : MayBox w0 p q k a t s o ky v b0 b1 b2 b3 b4 w2 := by
  obtain ⟨⟨h0, h1, h2, h3, h4, h5, h6, h7, h8, g0, g1, g2, g3, g4⟩, hB⟩ := h
  exact ⟨⟨cell_keep hB.out hb hp h0, cell_keep hB.out hb hp h1, cell_keep hB.out hb hp h2, cell_keep hB.out hb hp h3, cell_keep hB.out hb hp h4, cell_keep hB.out hb hp h5, cell_keep hB.out hb hp h6, cell_keep hB.out hb hp h7, cell_keep hB.out hb hp h8,
    cell_keep hB.out hb hq g0, cell_keep hB.out hb hq g1, cell_keep hB.out hb hq g2, cell_keep hB.out hb hq g3, cell_keep hB.out hb hq g4⟩, Lib.hid (below_next hB.out hb)⟩
theorem MayBox.drew (h : MayBox w0 p q k a t s o ky v b0 b1 b2 b3 b4 w1) : MayBox w0 p q k a t s o ky v b0 b1 b2 b3 b4 w1.drew := ⟨h.1, Lib.hid h.2.out.drew⟩
theorem MayBox.low (h : MayBox w0 p q k a t s o ky v b0 b1 b2 b3 b4 w1) : Below w0.heap.size w0 w1 := h.2.out
end
set_option maxHeartbeats 1000000 in
theorem may_out (k fr u a t s o ky v : Int) (w : World) (h : k = 0 ∨ 9 < k) :
    Calls Tryd.prog 17 #[.agg #[.int .u8 k, .int .i64 fr, .int .i64 u, .int .i64 a, .int .i64 t, .int .u8 s, .int .u8 o, .int .u64 ky, .int .u64 v]] w fun e w' => e = .returned (.bool false) ∧ Below w.heap.size w w' := by
  rcases h with rfl | h
  all_goals
    go_enter Tryd.func17, Tryd.ntmps17
    go_wp2_with fail
    go_ret
    exact ⟨rfl, (Below.refl _ _).alloc (Nat.le_refl _) _⟩
set_option maxRecDepth 100000 in
set_option maxHeartbeats 4000000 in
theorem may_walk (k fr u a t s o ky v b0 b1 b2 b3 b4 : Int) (c2 : Cm) (R : Bool) (w : World) (h1 : 1 ≤ k) (h9 : k ≤ 9)
    (hcode : ∀ W, Calls Tryd.prog 28 #[.agg #[.int .u8 k, .int .i64 0, .int .i64 0, .int .i64 a, .int .i64 t, .int .u8 s, .int .u8 o, .int .u64 ky, .int .u64 v]] W fun e W' => e = .returned (.agg #[.int .u8 b0, .int .u8 b1, .int .u8 b2, .int .u8 b3, .int .u8 b4]) ∧ Below W.heap.size W W')
    (hinb : ∀ W, Calls Tryd.prog 29 #[.agg #[.int .u8 k, .int .i64 0, .int .i64 0, .int .i64 a, .int .i64 t, .int .u8 s, .int .u8 o, .int .u64 ky, .int .u64 v]] W fun e W' => e = .returned (.bool true) ∧ Below W.heap.size W W')
    (hread : ∀ (W : World) (q : Nat), W.cell? ⟨q, 0, none⟩ = some (.int .u8 b0) → W.cell? ⟨q, 1, none⟩ = some (.int .u8 b1) → W.cell? ⟨q, 2, none⟩ = some (.int .u8 b2) → W.cell? ⟨q, 3, none⟩ = some (.int .u8 b3) → W.cell? ⟨q, 4, none⟩ = some (.int .u8 b4) →
      Calls Tryd.prog 30 #[.int .u8 k, .slice (some ⟨q, 0, none⟩) 5 5] W fun e W' => e = .returned (.agg #[.int .u8 c2.kind, .int .i64 c2.fr, .int .i64 c2.to, .int .i64 c2.at_, .int .i64 c2.thr, .int .u8 c2.sch, .int .u8 c2.op, .int .u64 c2.key, .int .u64 c2.val]) ∧ Below W.heap.size W W')
    (heq : ∀ W : World, (binOp .eql 34 (.agg #[.int .u8 c2.kind, .int .i64 c2.fr, .int .i64 c2.to, .int .i64 c2.at_, .int .i64 c2.thr, .int .u8 c2.sch, .int .u8 c2.op, .int .u64 c2.key, .int .u64 c2.val]) (.agg #[.int .u8 k, .int .i64 0, .int .i64 0, .int .i64 a, .int .i64 t, .int .u8 s, .int .u8 o, .int .u64 ky, .int .u64 v])).run Tryd.prog W = .ok (.bool R) W) :
    Calls Tryd.prog 17 #[.agg #[.int .u8 k, .int .i64 fr, .int .i64 u, .int .i64 a, .int .i64 t, .int .u8 s, .int .u8 o, .int .u64 ky, .int .u64 v]] w fun e w' => e = .returned (.bool R) ∧ Below w.heap.size w w' := by
  have HCODE := Lib.hid hcode
  have HINB := Lib.hid hinb
  have HREAD := Lib.hid hread
  have k0 : (k == 0) = false := by simp; omega
  clear hcode hinb hread
  go_enter Tryd.func17, Tryd.ntmps17
  go_wp2_with fail
  have bx0 := Box9.new w 34 (.int .u8 k) (.int .i64 0) (.int .i64 0) (.int .i64 a) (.int .i64 t) (.int .u8 s) (.int .u8 o) (.int .u64 ky) (.int .u64 v)
  refine (HCODE.out _).mono ?_
  rintro e w1 ⟨rfl, hb1⟩
  have BX := Lib.hid (bx0.below hb1 bx0.lt)
  have HB := Lib.hid (((Below.refl _ w).alloc (Nat.le_refl _) _).trans (hb1.mono (by simp)))
  clear hb1 bx0 HCODE k0
  go_wp2_with fail
  have hbx := BX.out.below (w' := w1.alloc (.cells #[.int .u8 b0, .int .u8 b1, .int .u8 b2, .int .u8 b3, .int .u8 b4] 61)) ((Below.refl _ w1).alloc (Nat.le_refl _) _) BX.out.lt
  have hq := heap_alloc_new w1 (.cells #[.int .u8 b0, .int .u8 b1, .int .u8 b2, .int .u8 b3, .int .u8 b4] 61)
  obtain ⟨y0, y1, y2, y3, y4, y5, y6, y7, y8, _⟩ := hbx.cells
  have hbox : MayBox (w1.alloc (.cells #[.int .u8 b0, .int .u8 b1, .int .u8 b2, .int .u8 b3, .int .u8 b4] 61)) w.heap.size w1.heap.size k a t s o ky v b0 b1 b2 b3 b4 (w1.alloc (.cells #[.int .u8 b0, .int .u8 b1, .int .u8 b2, .int .u8 b3, .int .u8 b4] 61)) :=
    ⟨⟨y0, y1, y2, y3, y4, y5, y6, y7, y8, by rw [cell_of_row _ _ _ _ _ _ hq]; rfl, by rw [cell_of_row _ _ _ _ _ _ hq]; rfl, by rw [cell_of_row _ _ _ _ _ _ hq]; rfl, by rw [cell_of_row _ _ _ _ _ _ hq]; rfl, by rw [cell_of_row _ _ _ _ _ _ hq]; rfl⟩, Lib.hid (Below.refl _ _)⟩
  have hpl := hbx.lt
  have hql := (Array.getElem?_eq_some_iff.1 hq).1
  have HBB := Lib.hid (HB.out.alloc HB.out.size (.cells #[.int .u8 b0, .int .u8 b1, .int .u8 b2, .int .u8 b3, .int .u8 b4] 61))
  clear hbx hq y0 y1 y2 y3 y4 y5 y6 y7 y8 BX HB
  revert hbox hpl hql HBB
  generalize w1.alloc (.cells #[.int .u8 b0, .int .u8 b1, .int .u8 b2, .int .u8 b3, .int .u8 b4] 61) = w0
  generalize w1.heap.size = q
  generalize hp : w.heap.size = p at *
  intro hbox hpl hql HBB
  have HP := Lib.hid hp
  have HRD := Lib.hid (fun (W : World) (h : MayBox w0 p q k a t s o ky v b0 b1 b2 b3 b4 W) => HREAD.out W q h.1.2.2.2.2.2.2.2.2.2.1 h.1.2.2.2.2.2.2.2.2.2.2.1 h.1.2.2.2.2.2.2.2.2.2.2.2.1 h.1.2.2.2.2.2.2.2.2.2.2.2.2.1 h.1.2.2.2.2.2.2.2.2.2.2.2.2.2)
  clear hp HREAD
  go_region_held3 (fun w1 => (w1.cell? ⟨p, 0, none⟩ = some (.int .u8 k) ∧ w1.cell? ⟨p, 1, none⟩ = some (.int .i64 0) ∧ w1.cell? ⟨p, 2, none⟩ = some (.int .i64 0) ∧ w1.cell? ⟨p, 3, none⟩ = some (.int .i64 a) ∧ w1.cell? ⟨p, 4, none⟩ = some (.int .i64 t) ∧ w1.cell? ⟨p, 5, none⟩ = some (.int .u8 s) ∧ w1.cell? ⟨p, 6, none⟩ = some (.int .u8 o) ∧ w1.cell? ⟨p, 7, none⟩ = some (.int .u64 ky) ∧ w1.cell? ⟨p, 8, none⟩ = some (.int .u64 v) ∧ w1.cell? ⟨q, 0, none⟩ = some (.int .u8 b0) ∧ w1.cell? ⟨q, 1, none⟩ = some (.int .u8 b1) ∧ w1.cell? ⟨q, 2, none⟩ = some (.int .u8 b2) ∧ w1.cell? ⟨q, 3, none⟩ = some (.int .u8 b3) ∧ w1.cell? ⟨q, 4, none⟩ = some (.int .u8 b4)) ∧ Hid (Below w0.heap.size w0 w1))
    (first | exact MayBox.drew hbox | (refine MayBox.step hpl hql ?_ hb; assumption))
    (first
      | (go_at_call 29; refine (HINB.out _).mono ?_; rintro e w' ⟨rfl, hb⟩)
      | (go_at_call 30; refine (HRD.out _ ?_).mono ?_; assumption; rintro e w' ⟨rfl, hb⟩))
  go_wp2
  go_ret
  refine ⟨rfl, ?_⟩
  have hlow := HBB.out.trans ((MayBox.low (w0 := w0) (p := p) (q := q) (k := k) (a := a) (t := t) (s := s) (o := o) (ky := ky) (v := v) (b0 := b0) (b1 := b1) (b2 := b2) (b3 := b3) (b4 := b4) (by assumption)).mono (Nat.le_of_lt hpl))
  rwa [← HP.out] at hlow
set_option maxRecDepth 100000 in
set_option maxHeartbeats 4000000 in
theorem may_walk_no (k fr u a t s o ky v b0 b1 b2 b3 b4 : Int) (w : World) (h1 : 1 ≤ k) (h9 : k ≤ 9)
    (hcode : ∀ W, Calls Tryd.prog 28 #[.agg #[.int .u8 k, .int .i64 0, .int .i64 0, .int .i64 a, .int .i64 t, .int .u8 s, .int .u8 o, .int .u64 ky, .int .u64 v]] W fun e W' => e = .returned (.agg #[.int .u8 b0, .int .u8 b1, .int .u8 b2, .int .u8 b3, .int .u8 b4]) ∧ Below W.heap.size W W')
    (hinb : ∀ W, Calls Tryd.prog 29 #[.agg #[.int .u8 k, .int .i64 0, .int .i64 0, .int .i64 a, .int .i64 t, .int .u8 s, .int .u8 o, .int .u64 ky, .int .u64 v]] W fun e W' => e = .returned (.bool false) ∧ Below W.heap.size W W') :
    Calls Tryd.prog 17 #[.agg #[.int .u8 k, .int .i64 fr, .int .i64 u, .int .i64 a, .int .i64 t, .int .u8 s, .int .u8 o, .int .u64 ky, .int .u64 v]] w fun e w' => e = .returned (.bool false) ∧ Below w.heap.size w w' := by
  have HCODE := Lib.hid hcode
  have HINB := Lib.hid hinb
  have k0 : (k == 0) = false := by simp; omega
  clear hcode hinb
  go_enter Tryd.func17, Tryd.ntmps17
  go_wp2_with fail
  have bx0 := Box9.new w 34 (.int .u8 k) (.int .i64 0) (.int .i64 0) (.int .i64 a) (.int .i64 t) (.int .u8 s) (.int .u8 o) (.int .u64 ky) (.int .u64 v)
  refine (HCODE.out _).mono ?_
  rintro e w1 ⟨rfl, hb1⟩
  have BX := Lib.hid (bx0.below hb1 bx0.lt)
  have HB := Lib.hid (((Below.refl _ w).alloc (Nat.le_refl _) _).trans (hb1.mono (by simp)))
  clear hb1 bx0 HCODE k0
  go_wp2_with fail
  have hbx := BX.out.below (w' := w1.alloc (.cells #[.int .u8 b0, .int .u8 b1, .int .u8 b2, .int .u8 b3, .int .u8 b4] 61)) ((Below.refl _ w1).alloc (Nat.le_refl _) _) BX.out.lt
  have hq := heap_alloc_new w1 (.cells #[.int .u8 b0, .int .u8 b1, .int .u8 b2, .int .u8 b3, .int .u8 b4] 61)
  obtain ⟨y0, y1, y2, y3, y4, y5, y6, y7, y8, _⟩ := hbx.cells
  have hbox : MayBox (w1.alloc (.cells #[.int .u8 b0, .int .u8 b1, .int .u8 b2, .int .u8 b3, .int .u8 b4] 61)) w.heap.size w1.heap.size k a t s o ky v b0 b1 b2 b3 b4 (w1.alloc (.cells #[.int .u8 b0, .int .u8 b1, .int .u8 b2, .int .u8 b3, .int .u8 b4] 61)) :=
    ⟨⟨y0, y1, y2, y3, y4, y5, y6, y7, y8, by rw [cell_of_row _ _ _ _ _ _ hq]; rfl, by rw [cell_of_row _ _ _ _ _ _ hq]; rfl, by rw [cell_of_row _ _ _ _ _ _ hq]; rfl, by rw [cell_of_row _ _ _ _ _ _ hq]; rfl, by rw [cell_of_row _ _ _ _ _ _ hq]; rfl⟩, Lib.hid (Below.refl _ _)⟩
  have hpl := hbx.lt
  have hql := (Array.getElem?_eq_some_iff.1 hq).1
  have HBB := Lib.hid (HB.out.alloc HB.out.size (.cells #[.int .u8 b0, .int .u8 b1, .int .u8 b2, .int .u8 b3, .int .u8 b4] 61))
  clear hbx hq y0 y1 y2 y3 y4 y5 y6 y7 y8 BX HB
  revert hbox hpl hql HBB
  generalize w1.alloc (.cells #[.int .u8 b0, .int .u8 b1, .int .u8 b2, .int .u8 b3, .int .u8 b4] 61) = w0
  generalize w1.heap.size = q
  generalize hp : w.heap.size = p at *
  intro hbox hpl hql HBB
  have HP := Lib.hid hp
  clear hp
  refine wp_region_held_drew (S := (fun w1 => (w1.cell? ⟨p, 0, none⟩ = some (.int .u8 k) ∧ w1.cell? ⟨p, 1, none⟩ = some (.int .i64 0) ∧ w1.cell? ⟨p, 2, none⟩ = some (.int .i64 0) ∧ w1.cell? ⟨p, 3, none⟩ = some (.int .i64 a) ∧ w1.cell? ⟨p, 4, none⟩ = some (.int .i64 t) ∧ w1.cell? ⟨p, 5, none⟩ = some (.int .u8 s) ∧ w1.cell? ⟨p, 6, none⟩ = some (.int .u8 o) ∧ w1.cell? ⟨p, 7, none⟩ = some (.int .u64 ky) ∧ w1.cell? ⟨p, 8, none⟩ = some (.int .u64 v) ∧ w1.cell? ⟨q, 0, none⟩ = some (.int .u8 b0) ∧ w1.cell? ⟨q, 1, none⟩ = some (.int .u8 b1) ∧ w1.cell? ⟨q, 2, none⟩ = some (.int .u8 b2) ∧ w1.cell? ⟨q, 3, none⟩ = some (.int .u8 b3) ∧ w1.cell? ⟨q, 4, none⟩ = some (.int .u8 b4)) ∧ Hid (Below w0.heap.size w0 w1))) (by kernel_rfl) (MayBox.drew hbox) (fun hHeld => ?_)
  refine wpAnyH_take (i := 0) (oi := { dst := some 16, op := _, type := _, pos := _, after := _, guard := _ }) (v := ?_) rfl (by kernel_rfl) (by kernel_rfl) (by kernel_rfl) (fun _ _ _ h => h) (Or.inl ⟨by rfl, ?_⟩) hHeld ?_
  rotate_left
  · intro w hSw
    (try dsimp only at hSw)
    go_simp
    (try with_reducible rfl)
  (try simp only [Act.put, List.setIfInBounds_toArray, List.set_cons_zero, List.set_cons_succ])
  refine wpAnyH_ready (rs := [1]) (by kernel_rfl) (by simp) ?_
  refine AllReadyH.cons (o := { dst := some 17, op := _, type := _, pos := _, after := _, guard := _ }) rfl (fun K hK => ?_) AllReadyH.nil
  go_simp
  refine (HINB.out _).mono ?_
  rintro e w' ⟨rfl, hb⟩
  go_wp2_with fail
  refine hK.out _ _ (MayBox.step hpl hql hHeld hb) (fun hHeld2 => ?_)
  clear hK K hHeld hb
  have hHeld := hHeld2
  clear hHeld2
  (try simp only [Act.put, List.setIfInBounds_toArray, List.set_cons_zero, List.set_cons_succ])
  refine wpAnyH_take (i := 2) (oi := { dst := some 18, op := _, type := _, pos := _, after := _, guard := _ }) (v := ?_) rfl (by kernel_rfl) (by kernel_rfl) (by kernel_rfl) (fun _ _ _ h => h) (Or.inl ⟨by rfl, ?_⟩) hHeld ?_
  rotate_left
  · intro w hSw
    (try dsimp only at hSw)
    go_simp
    (try with_reducible rfl)
  (try simp only [Act.put, List.setIfInBounds_toArray, List.set_cons_zero, List.set_cons_succ])
  refine wpAnyH_take (i := 3) (oi := { dst := some 19, op := _, type := _, pos := _, after := _, guard := _ }) (v := undef) rfl (by kernel_rfl) (by kernel_rfl) (by kernel_rfl) (fun _ _ _ h => h) (Or.inr ⟨by rfl, rfl⟩) hHeld ?_
  (try simp only [Act.put, List.setIfInBounds_toArray, List.set_cons_zero, List.set_cons_succ])
  refine wpAnyH_take (i := 4) (oi := { dst := some 20, op := _, type := _, pos := _, after := _, guard := _ }) (v := undef) rfl (by kernel_rfl) (by kernel_rfl) (by kernel_rfl) (fun _ _ _ h => h) (Or.inr ⟨by rfl, rfl⟩) hHeld ?_
  (try simp only [Act.put, List.setIfInBounds_toArray, List.set_cons_zero, List.set_cons_succ])
  refine wpAnyH_take (i := 5) (oi := { dst := some 21, op := _, type := _, pos := _, after := _, guard := _ }) (v := undef) rfl (by kernel_rfl) (by kernel_rfl) (by kernel_rfl) (fun _ _ _ h => h) (Or.inr ⟨by rfl, rfl⟩) hHeld ?_
  (try simp only [Act.put, List.setIfInBounds_toArray, List.set_cons_zero, List.set_cons_succ])
  refine wpAnyH_take (i := 6) (oi := { dst := some 22, op := _, type := _, pos := _, after := _, guard := _ }) (v := undef) rfl (by kernel_rfl) (by kernel_rfl) (by kernel_rfl) (fun _ _ _ h => h) (Or.inr ⟨by rfl, rfl⟩) hHeld ?_
  (try simp only [Act.put, List.setIfInBounds_toArray, List.set_cons_zero, List.set_cons_succ])
  refine wpAnyH_take (i := 7) (oi := { dst := some 23, op := _, type := _, pos := _, after := _, guard := _ }) (v := undef) rfl (by kernel_rfl) (by kernel_rfl) (by kernel_rfl) (fun _ _ _ h => h) (Or.inr ⟨by rfl, rfl⟩) hHeld ?_
  (try simp only [Act.put, List.setIfInBounds_toArray, List.set_cons_zero, List.set_cons_succ])
  refine wpAnyH_take (i := 8) (oi := { dst := some 24, op := _, type := _, pos := _, after := _, guard := _ }) (v := undef) rfl (by kernel_rfl) (by kernel_rfl) (by kernel_rfl) (fun _ _ _ h => h) (Or.inr ⟨by rfl, rfl⟩) hHeld ?_
  (try simp only [Act.put, List.setIfInBounds_toArray, List.set_cons_zero, List.set_cons_succ])
  refine wpAnyH_take (i := 9) (oi := { dst := some 25, op := _, type := _, pos := _, after := _, guard := _ }) (v := ?_) rfl (by kernel_rfl) (by kernel_rfl) (by kernel_rfl) (fun _ _ _ h => h) (Or.inl ⟨by rfl, ?_⟩) hHeld ?_
  rotate_left
  · intro w hSw
    (try dsimp only at hSw)
    go_simp
    (try with_reducible rfl)
  (try simp only [Act.put, List.setIfInBounds_toArray, List.set_cons_zero, List.set_cons_succ])
  refine wpAnyH_take (i := 10) (oi := { dst := some 2, op := _, type := _, pos := _, after := _, guard := _ }) (v := ?_) rfl (by kernel_rfl) (by kernel_rfl) (by kernel_rfl) (fun _ _ _ h => h) (Or.inl ⟨by rfl, ?_⟩) hHeld ?_
  rotate_left
  · intro w hSw
    (try dsimp only at hSw)
    go_simp
    (try with_reducible rfl)
  (try simp only [Act.put, List.setIfInBounds_toArray, List.set_cons_zero, List.set_cons_succ])
  refine wpAnyH_done (by kernel_rfl) ?_ _
  go_wp2
  go_ret
  refine ⟨rfl, ?_⟩
  have hlow := HBB.out.trans ((MayBox.low (w0 := w0) (p := p) (q := q) (k := k) (a := a) (t := t) (s := s) (o := o) (ky := ky) (v := v) (b0 := b0) (b1 := b1) (b2 := b2) (b3 := b3) (b4 := b4) (by assumption)).mono (Nat.le_of_lt hpl))
  rwa [← HP.out] at hlow
end Go.Proofs.YtlgfdemggkiojaaDoor
