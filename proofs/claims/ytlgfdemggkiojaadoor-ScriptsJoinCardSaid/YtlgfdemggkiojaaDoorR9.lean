/-
  The document's May of layer 3: may a command be; condition: its small numbers fit their kinds.
-/
import Derived.Test.YtlgfdemggkiojaaDoorR8
namespace Go.Proofs.YtlgfdemggkiojaaDoor
open Go.RowKit

theorem bys_of_row {w : World} {g : Nat} {bs : List UInt8} {t : TypeId} (h : w.heap[g]? = some (.cells (bs.map bC).toArray t (0, 0))) : Bys w g 0 bs := fun i hi => by
  rw [cell_of_row _ _ _ _ _ _ h, Nat.zero_add]
  simp [bC, byt, hi, List.getD_eq_getElem?_getD]
theorem nextC_code (c : Cm) : nextC (codeC c) 0 = some ((dec (codeC c)).shift 0) := by
  have hl := codeC_length c
  have hs := sizeOf_bd c.kind
  have hm := most_eq
  have ht : (codeC c).take most = codeC c := List.take_of_length_le (by omega)
  have h := nextC_in (codeC c) 0 (by rw [ht]; omega)
  rw [ht, List.drop_zero] at h
  exact h
theorem shift_zero (c : Cm) : c.shift 0 = c := by
  unfold Cm.shift
  simp
set_option maxHeartbeats 1000000 in
theorem rmay_out (k fr u a t s o ky v : Int) (w : World) (h : k < 1 ∨ 9 < k) :
    Calls Tryd.prog 18 #[.agg #[.int .i64 k, .int .i64 fr, .int .i64 u, .int .i64 a, .int .i64 t, .int .u8 s, .int .i64 o, .int .u64 ky, .int .u64 v]] w fun e w' => e = .returned (.bool false) ∧ Below w.heap.size w w' := by
  rcases h with h | h
  all_goals
    go_enter Tryd.func18, Tryd.ntmps18
    go_wp2_with fail
    go_ret
    exact ⟨rfl, (Below.refl _ _).alloc (Nat.le_refl _) _⟩
theorem bare_eq (x c : Cm) : decide (x = { c with fr := x.fr, «to» := x.to }) = decide (x.bare = c.bare) := by
  rw [Bool.eq_iff_iff, decide_eq_true_eq, decide_eq_true_eq]
  obtain ⟨k, fr, u, a, t, s, o, ky, v⟩ := x
  obtain ⟨k', fr', u', a', t', s', o', ky', v'⟩ := c
  simp [Cm.bare]
set_option maxRecDepth 100000 in
set_option maxHeartbeats 4000000 in
theorem rmay_in (c : Cm) (w : World) (h1 : 1 ≤ c.kind) (h9 : c.kind ≤ 9) (s0 : 0 ≤ c.sch) (s1 : c.sch ≤ 255) :
    Calls Tryd.prog 18 #[c.r] w fun e w' => e = .returned (.bool (mayC c)) ∧ Below w.heap.size w w' := by
  rw [mayC_doc c h1 h9]
  obtain ⟨x, hx⟩ : ∃ x, dec (codeC c) = x := ⟨_, rfl⟩
  have hnx := nextC_code c
  rw [hx, shift_zero] at hnx
  rw [hx]
  have heq : ∀ W : World, (binOp .eql 38 x.r (Cm.r { c with fr := x.fr, «to» := x.to })).run Tryd.prog W = .ok (.bool (decide (x.bare = c.bare))) W := fun W => by
    rw [← bare_eq]
    exact eql38 _ _ _ _ _ _ _ _ _ _ _ _ _ _ _ _ _ _ W
  generalize decide (x.bare = c.bare) = R at heq ⊢
  have HN := Lib.hid hnx
  simp only [Cm.r] at heq ⊢
  clear hx hnx
  go_enter Tryd.func18, Tryd.ntmps18
  go_wp2_with fail
  have bx0 := Box9.new w 38 (.int .i64 c.kind) (.int .i64 c.fr) (.int .i64 c.to) (.int .i64 c.at_) (.int .i64 c.thr) (.int .u8 c.sch) (.int .i64 c.op) (.int .u64 c.key) (.int .u64 c.val)
  refine (rbytes_any c _ h1 h9 s0 s1).mono ?_
  rintro e w1 ⟨g, rfl, hg, hb1⟩
  have BX1 := Lib.hid (bx0.below hb1 bx0.lt)
  have HB1 := Lib.hid (((Below.refl _ w).alloc (Nat.le_refl _) _).trans (hb1.mono (by simp)))
  have HG := Lib.hid hg
  clear bx0 hb1 hg
  go_wp2_with fail
  refine (rnext_some (some ⟨g, 0, none⟩) _ (codeC c) 0 x _ (Sl.of (bys_of_row HG.out)) (Nat.le_refl _) (by have := codeC_length c; have := sizeOf_bd c.kind; omega) HN.out).mono ?_
  rintro e w2 ⟨rfl, hb2⟩
  have BX2 := Lib.hid (BX1.out.below hb2 BX1.out.lt)
  have HB2 := Lib.hid (HB1.out.trans (hb2.mono HB1.out.size))
  clear hb2 BX1 HB1 HG HN
  simp only [someCmdR, Cm.r]
  go_upto_region 4 with (fail)
  have bq := Box9.new w2 38 (.int .i64 x.kind) (.int .i64 x.fr) (.int .i64 x.to) (.int .i64 x.at_) (.int .i64 x.thr) (.int .u8 x.sch) (.int .i64 x.op) (.int .u64 x.key) (.int .u64 x.val)
  have BP := Lib.hid (BX2.out.below (w' := (w2.alloc (.cells #[.int .i64 x.kind, .int .i64 x.fr, .int .i64 x.to, .int .i64 x.at_, .int .i64 x.thr, .int .u8 x.sch, .int .i64 x.op, .int .u64 x.key, .int .u64 x.val] 38))) ((Below.refl _ w2).alloc (Nat.le_refl _) _) BX2.out.lt)
  have BQ := Lib.hid bq
  have HB3 := Lib.hid (HB2.out.alloc HB2.out.size (.cells #[.int .i64 x.kind, .int .i64 x.fr, .int .i64 x.to, .int .i64 x.at_, .int .i64 x.thr, .int .u8 x.sch, .int .i64 x.op, .int .u64 x.key, .int .u64 x.val] 38))
  have hne := BX2.out.lt
  have hwp : w.heap.size ≤ w.heap.size := Nat.le_refl _
  clear bq BX2 HB2
  revert BP BQ HB3 hne hwp
  generalize (w2.alloc (.cells #[.int .i64 x.kind, .int .i64 x.fr, .int .i64 x.to, .int .i64 x.at_, .int .i64 x.thr, .int .u8 x.sch, .int .i64 x.op, .int .u64 x.key, .int .u64 x.val] 38)) = w3
  generalize w2.heap.size = q
  generalize hp : w.heap.size = p at *
  intro BP BQ HB3 hne hwp
  have HP := Lib.hid hp
  clear hp
  have hpq : q ≠ p := by omega
  obtain ⟨_, x1, x2, _⟩ := BQ.out.cells
  go_wp2_with (first
    | (refine wpList_store_fld rfl 3 (.tmp 21) (.tmp 20) rfl p 1 rfl .i64 x.fr rfl 38 _ BP.out isz3 (by simp) ?_; intro w4 hp4; have bp := hp4.at_; simp only [List.setIfInBounds_toArray, List.set_cons_succ, List.set_cons_zero] at bp; have BP4 := Lib.hid bp; clear bp; have BQ4 := Lib.hid ((hp4.far q hpq).trans BQ.out); have HB4 := Lib.hid (hp4.below HB3.out hwp); clear hp4; have z2 := (Box9.cells BQ4.out).2.2.1)
    | (refine wpList_store_fld rfl 3 (.tmp 24) (.tmp 23) rfl p 2 rfl .i64 x.to rfl 38 _ BP4.out isz3 (by simp) ?_; intro w5 hp5; have bp := hp5.at_; simp only [List.setIfInBounds_toArray, List.set_cons_succ, List.set_cons_zero] at bp; have BP5 := Lib.hid bp; clear bp; have BQ5 := Lib.hid ((hp5.far q hpq).trans BQ4.out); have HB5 := Lib.hid (hp5.below HB4.out hwp); clear hp5; obtain ⟨q0, q1, q2, q3, q4, q5, q6, q7, q8, _⟩ := Box9.cells BQ5.out; obtain ⟨p0, p1, p2, p3, p4, p5, p6, p7, p8, _⟩ := Box9.cells BP5.out))
  go_ret
  have hb5 := HB5.out
  rw [← HP.out] at hb5
  exact ⟨rfl, hb5⟩
theorem rmay_any (c : Cm) (w : World) (hf : c.Fit) : Calls Tryd.prog 18 #[c.r] w fun e w' => e = .returned (.bool (mayC c)) ∧ Below w.heap.size w w' := by
  by_cases hk : 1 ≤ c.kind ∧ c.kind ≤ 9
  · exact rmay_in c w hk.1 hk.2 hf.s0 hf.s1
  · rw [mayC_out hk]
    exact rmay_out _ _ _ _ _ _ _ _ _ w (by omega)
end Go.Proofs.YtlgfdemggkiojaaDoor
