/-
  The law FreesVoid, walked: it returns true and only makes memory of its own; condition: the tables as laid.
-/
import Derived.Test.YtipgidkpjilhoaaDoorF7
import Derived.Test.YtipgidkpjilhoaaDoorD11
namespace Go.Proofs.YtipgidkpjilhoaaDoor
open Go.RowKit Go.Maps

theorem pr_steps {p m b n : Nat} {D : DataW Unit} {s r : Acc8} {L : List (Ad × Int)} {W W' : World} (h : Pr p m b n D s L r W) (hb : Below W.heap.size W W') : Calls Tryd.prog 22 #[.pointer (some ⟨p, 0, none⟩)] W' fun e w' => e = .returned (.int .i64 s.st) ∧ W' = w' := steps_p (h.below hb)
theorem f_pair0 (p b : Nat) (w : World) : (Instr.field 28 (.agg #[.pointer (some ⟨p, 0, none⟩), .pointer (some ⟨b, 0, none⟩)]) 0).run Tryd.prog w = .ok (.pointer (some ⟨p, 0, none⟩)) w := by kernel_rfl
theorem void_long (ao : Option Addr) (cap nn : Nat) (slot : Int) (W : World) (hL : Lay W) (hM : LayM W) (hn : 300 < nn) :
    Calls Tryd.prog 4 #[.slice ao nn cap, .int .i64 slot] W fun e W' => e = .returned (.bool true) ∧ Below W.heap.size W W' := by
  have HL := Lib.hid hL
  have HM := Lib.hid hM
  have hn' : (300 : Int) < (nn : Int) := by omega
  clear hL hM
  go_enter Tryd.func4, Tryd.ntmps4
  go_wp2_with fail
  ((with_reducible refine (lives_any W HL.out HM.out).mono ?_); rintro e w4 ⟨rfl, hb⟩)
  go_wp2_with fail
  go_ret
  exact ⟨rfl, hb⟩
/-- What the law's lists lie as. -/
structure VS (A : Nat) (w : World) : Prop where
  oa : OpAt 62 A 0 0 0 w
  ob : OpAt 63 (A + 1) 0 0 0 w
  s1 : w.heap[A + 1 + 1]? = some (.cells #[.pointer none, .pointer (some ⟨A, 0, none⟩)] 39 (0, 0))
  s2 : w.heap[A + 1 + 1 + 1]? = some (.cells #[.pointer none, .pointer (some ⟨A + 1, 0, none⟩)] 43 (0, 0))
theorem VS.below {A : Nat} {w w' : World} (h : VS A w) (hb : Below w.heap.size w w') : VS A w' :=
  have k : ∀ {j : Nat} {o : Obj}, w.heap[j]? = some o → w'.heap[j]? = some o := fun {j _} hc => (hb.block j (Array.getElem?_eq_some_iff.1 hc).1).trans hc
  ⟨k h.oa, k h.ob, k h.s1, k h.s2⟩
theorem VS.cell {A : Nat} {w : World} (h : VS A w) (i : Nat) : w.cell? ⟨A + 1 + 1, i, none⟩ = [.pointer none, .pointer (some ⟨A, 0, none⟩)][i]? := by
  simp [World.cell?, h.s1]
theorem VS.sell {A : Nat} {w : World} (h : VS A w) (i : Nat) : w.cell? ⟨A + 1 + 1 + 1, i, none⟩ = [.pointer none, .pointer (some ⟨A + 1, 0, none⟩)][i]? := by
  simp [World.cell?, h.s2]
theorem VS.row {A B : Nat} {w : World} (h : VS A w) (hB : B ≤ A + 1 + 1 + 1) : w.ownsRow B 43 1 (.slice (some ⟨A + 1 + 1 + 1, 0, none⟩) 2 2) 2 [.pointer none, .pointer (some ⟨A + 1, 0, none⟩)] :=
  ⟨rfl, .inr ⟨A + 1 + 1 + 1, 2, _, rfl, hB, h.s2, Nat.le_refl _, by unfold maxLen; omega, rfl, rfl⟩⟩
theorem Tryd_infoPu : (Tryd.prog.info? 43).map (fun i => (i.zero, i.size, i.bytes)) = some (some (.pointer none), 1, 8) := by kernel_rfl
/-- .. and behind an append. -/
structure VT (A C G : Nat) (w : World) : Prop where
  oa : OpAt 62 A 0 0 0 w
  ob : OpAt 63 (A + 1) 0 0 0 w
  oc : OpAt 63 C 0 0 0 w
  c0 : w.cell? ⟨A + 1 + 1, 0, none⟩ = some (.pointer none)
  c1 : w.cell? ⟨A + 1 + 1, 1, none⟩ = some (.pointer (some ⟨A, 0, none⟩))
  l0 : w.cell? ⟨G, 0, none⟩ = some (.pointer none)
  l1 : w.cell? ⟨G, 1, none⟩ = some (.pointer (some ⟨A + 1, 0, none⟩))
  l2 : w.cell? ⟨G, 2, none⟩ = some (.pointer (some ⟨C, 0, none⟩))
theorem VT.below {A C G : Nat} {w w' : World} (h : VT A C G w) (hb : Below w.heap.size w w') : VT A C G w' :=
  have k : ∀ {j : Nat} {o : Obj}, w.heap[j]? = some o → w'.heap[j]? = some o := fun {j _} hc => (hb.block j (Array.getElem?_eq_some_iff.1 hc).1).trans hc
  have c : ∀ {q j : Nat} {v : Value}, w.cell? ⟨q, j, none⟩ = some v → w'.cell? ⟨q, j, none⟩ = some v := fun {q j _} hc => (hb.cell (p := ⟨q, j, none⟩) (World.block_lt_of_cell? w _ hc)).trans hc
  ⟨k h.oa, k h.ob, k h.oc, c h.c0, c h.c1, c h.l0, c h.l1, c h.l2⟩
set_option maxRecDepth 100000 in
set_option maxHeartbeats 8000000 in
theorem void_good (ao : Option Addr) (cap nn : Nat) (slot : Int) (W : World) (hL : Lay W) (hM : LayM W) (hn : nn ≤ 300) (h0 : 0 ≤ slot) (h1 : slot ≤ 255)
    (hbeg : Calls Tryd.prog 8 #[.slice ao nn cap] W fun e W' => ∃ p m b, e = .returned (.agg #[.pointer (some ⟨p, 0, none⟩), .pointer (some ⟨b, 0, none⟩)]) ∧ Both p m b nn W' ∧ W.heap.size ≤ m ∧ m < p ∧ p < b ∧ Below W.heap.size W W') :
    Calls Tryd.prog 4 #[.slice ao nn cap, .int .i64 slot] W fun e W' => e = .returned (.bool true) ∧ Below W.heap.size W W' := by
  have HL := Lib.hid hL
  have HM := Lib.hid hM
  have hn' : (nn : Int) ≤ 300 := by omega
  clear hL hM
  go_enter Tryd.func4, Tryd.ntmps4
  go_wp2_with fail
  ((with_reducible refine hbeg.mono ?_); rintro e w1 ⟨p, m, b, rfl, ⟨n, D, s, L, hp, _, _, _, _, _⟩, _, _, _, hb1⟩)
  have HP := Lib.hid hp
  have HB := Lib.hid hb1
  clear hp hb1 hbeg
  have hfp := f_pair0 p b w1
  go_wp2_with fail
  ((with_reducible refine (pr_steps HP.out (Below.refl _ _)).mono ?_); rintro e w' ⟨rfl, rfl⟩)
  have hX : Below w1.heap.size w1 ((((w1.alloc (.cells #[.int .i64 0, .int .u64 0, .int .i64 0] 62)).alloc (.cells #[.int .i64 0, .int .u64 0, .int .i64 0] 63)).alloc (.cells #[.pointer none, .pointer (some ⟨w1.heap.size, 0, none⟩)] 39)).alloc (.cells #[.pointer none, .pointer (some ⟨w1.heap.size + 1, 0, none⟩)] 43)) := ((((Below.refl _ _).alloc (Nat.le_refl _) _).alloc (by simp) _).alloc (by simp; omega) _).alloc (by simp; omega) _
  have k0 : OpAt 62 w1.heap.size 0 0 0 (w1.alloc (.cells #[.int .i64 0, .int .u64 0, .int .i64 0] 62)) := alloc_blk _ _
  have k1 : OpAt 63 (w1.heap.size + 1) 0 0 0 ((w1.alloc (.cells #[.int .i64 0, .int .u64 0, .int .i64 0] 62)).alloc (.cells #[.int .i64 0, .int .u64 0, .int .i64 0] 63)) := by
    have := alloc_blk (w1.alloc (.cells #[.int .i64 0, .int .u64 0, .int .i64 0] 62)) (.cells #[.int .i64 0, .int .u64 0, .int .i64 0] 63)
    unfold OpAt
    simpa using this
  have k2 : ((((w1.alloc (.cells #[.int .i64 0, .int .u64 0, .int .i64 0] 62)).alloc (.cells #[.int .i64 0, .int .u64 0, .int .i64 0] 63)).alloc (.cells #[.pointer none, .pointer (some ⟨w1.heap.size, 0, none⟩)] 39))).heap[w1.heap.size + 1 + 1]? = some (.cells #[.pointer none, .pointer (some ⟨w1.heap.size, 0, none⟩)] 39 (0, 0)) := by
    have := alloc_blk ((w1.alloc (.cells #[.int .i64 0, .int .u64 0, .int .i64 0] 62)).alloc (.cells #[.int .i64 0, .int .u64 0, .int .i64 0] 63)) (.cells #[.pointer none, .pointer (some ⟨w1.heap.size, 0, none⟩)] 39)
    simpa using this
  have k3 : ((((w1.alloc (.cells #[.int .i64 0, .int .u64 0, .int .i64 0] 62)).alloc (.cells #[.int .i64 0, .int .u64 0, .int .i64 0] 63)).alloc (.cells #[.pointer none, .pointer (some ⟨w1.heap.size, 0, none⟩)] 39)).alloc (.cells #[.pointer none, .pointer (some ⟨w1.heap.size + 1, 0, none⟩)] 43)).heap[w1.heap.size + 1 + 1 + 1]? = some (.cells #[.pointer none, .pointer (some ⟨w1.heap.size + 1, 0, none⟩)] 43 (0, 0)) := by
    have := alloc_blk (((w1.alloc (.cells #[.int .i64 0, .int .u64 0, .int .i64 0] 62)).alloc (.cells #[.int .i64 0, .int .u64 0, .int .i64 0] 63)).alloc (.cells #[.pointer none, .pointer (some ⟨w1.heap.size, 0, none⟩)] 39)) (.cells #[.pointer none, .pointer (some ⟨w1.heap.size + 1, 0, none⟩)] 43)
    simpa using this
  have hV : VS w1.heap.size ((((w1.alloc (.cells #[.int .i64 0, .int .u64 0, .int .i64 0] 62)).alloc (.cells #[.int .i64 0, .int .u64 0, .int .i64 0] 63)).alloc (.cells #[.pointer none, .pointer (some ⟨w1.heap.size, 0, none⟩)] 39)).alloc (.cells #[.pointer none, .pointer (some ⟨w1.heap.size + 1, 0, none⟩)] 43)) :=
    ⟨(Below.heap_alloc _ _ _ (by simp <;> omega)).trans ((Below.heap_alloc _ _ _ (by simp <;> omega)).trans ((Below.heap_alloc _ _ _ (by simp)).trans k0)), (Below.heap_alloc _ _ _ (by simp <;> omega)).trans ((Below.heap_alloc _ _ _ (by simp)).trans k1), (Below.heap_alloc _ _ _ (by simp)).trans k2, k3⟩
  have HV := Lib.hid hV
  have HX := Lib.hid hX
  clear hV hX k0 k1 k2 k3
  have HLX := Lib.hid ((HL.out.below HB.out).below HX.out)
  have HMX := Lib.hid ((HM.out.below HB.out).below HX.out)
  have HBX := Lib.hid (HB.out.trans (HX.out.mono HB.out.size))
  have HPX := Lib.hid (HP.out.below HX.out)
  go_wp2_with fail
  revert HV HX HLX HMX HBX HPX
  generalize (((w1.alloc (.cells #[.int .i64 0, .int .u64 0, .int .i64 0] 62)).alloc (.cells #[.int .i64 0, .int .u64 0, .int .i64 0] 63)).alloc (.cells #[.pointer none, .pointer (some ⟨w1.heap.size, 0, none⟩)] 39)).alloc (.cells #[.pointer none, .pointer (some ⟨w1.heap.size + 1, 0, none⟩)] 43) = X
  intro HV HX HLX HMX HBX HPX
  clear HX HP HB hfp
  generalize w1.heap.size = A at *
  have c0 := HV.out.cell 0
  have c1 := HV.out.cell 1
  have s0 := HV.out.sell 0
  have s1 := HV.out.sell 1
  simp only [List.getElem?_cons_zero, List.getElem?_cons_succ] at c0 c1 s0 s1
  refine wp_loop_rounds 3 ?_
  rw [rounds_succ]
  go_wp2_with fail
  ((with_reducible refine (got_nil _).mono ?_); rintro e w' ⟨rfl, rfl⟩)
  go_wp2_with fail
  ((with_reducible refine (popStep_nil _ _).mono ?_); rintro e w' ⟨rfl, rfl⟩)
  go_wp2_with fail
  ((with_reducible refine (popOver_nil _).mono ?_); rintro e w' ⟨rfl, rfl⟩)
  go_wp2_with fail
  rw [rounds_succ]
  go_wp2_with fail
  ((with_reducible refine (got_none HLX.out u64_0 (by decide) HV.out.oa).mono ?_); rintro e w' ⟨rfl, j, rfl⟩)
  have HJ := Lib.hid (show Below X.heap.size X (X.drewN j) from below_drewN' (Below.refl _ _) j)
  have HV1 := Lib.hid (HV.out.below HJ.out)
  have HPY := Lib.hid (HPX.out.below HJ.out)
  have HBY := Lib.hid (HBX.out.trans (HJ.out.mono HBX.out.size))
  have HLY := Lib.hid (HLX.out.below HJ.out)
  have HMY := Lib.hid (HMX.out.below HJ.out)
  have c1' := HV1.out.cell 1
  have s0' := HV1.out.sell 0
  have s1' := HV1.out.sell 1
  simp only [List.getElem?_cons_zero, List.getElem?_cons_succ] at c1' s0' s1'
  clear HV HJ HPX HBX HLX HMX c0 c1 s0 s1
  revert HV1 HPY HBY HLY HMY c1' s0' s1'
  generalize X.drewN j = Y
  intro HV1 HPY HBY HLY HMY c1' s0' s1'
  go_wp2_with fail
  ((with_reducible refine (popStep_over _ HV1.out.oa).mono ?_); rintro e w' ⟨rfl, rfl⟩)
  go_wp2_with fail
  ((with_reducible refine (popOver_any HV1.out.oa).mono ?_); rintro e w' ⟨rfl, rfl⟩)
  go_wp2_with fail
  rw [rounds_succ]
  go_wp2_with fail
  refine wp_loop_rounds 4 ?_
  rw [rounds_succ]
  go_wp2_with fail
  ((with_reducible refine (pushStep_nil _ _).mono ?_); rintro e w' ⟨rfl, rfl⟩)
  go_wp2_with fail
  ((with_reducible refine (pushOver_nil _).mono ?_); rintro e w' ⟨rfl, rfl⟩)
  go_wp2_with fail
  rw [rounds_succ]
  go_wp2_with fail
  ((with_reducible refine (pushStep_over _ HV1.out.ob).mono ?_); rintro e w' ⟨rfl, rfl⟩)
  go_wp2_with fail
  ((with_reducible refine (pushOver_any HV1.out.ob).mono ?_); rintro e w' ⟨rfl, rfl⟩)
  go_wp2_with fail
  rw [rounds_succ]
  go_wp2_with fail
  ((with_reducible refine (steps_p HPY.out).mono ?_); rintro e w' ⟨rfl, rfl⟩)
  go_wp2_with fail
  ((with_reducible refine (lives_any Y HLY.out HMY.out).mono ?_); rintro e w4 ⟨rfl, hb⟩)
  go_wp2_with fail
  go_ret
  exact ⟨rfl, HBY.out.trans (hb.mono HBY.out.size)⟩
set_option maxRecDepth 100000 in
set_option maxHeartbeats 8000000 in
theorem void_low (ao : Option Addr) (cap nn : Nat) (slot : Int) (W : World) (hL : Lay W) (hM : LayM W) (hn : nn ≤ 300) (h0 : slot < 0)
    (hbeg : Calls Tryd.prog 8 #[.slice ao nn cap] W fun e W' => ∃ p m b, e = .returned (.agg #[.pointer (some ⟨p, 0, none⟩), .pointer (some ⟨b, 0, none⟩)]) ∧ Both p m b nn W' ∧ W.heap.size ≤ m ∧ m < p ∧ p < b ∧ Below W.heap.size W W') :
    Calls Tryd.prog 4 #[.slice ao nn cap, .int .i64 slot] W fun e W' => e = .returned (.bool true) ∧ Below W.heap.size W W' := by
  have HL := Lib.hid hL
  have HM := Lib.hid hM
  have hn' : (nn : Int) ≤ 300 := by omega
  have HS := Lib.hid (show ¬ (0 ≤ slot ∧ slot < 256) by omega)
  clear hL hM
  go_enter Tryd.func4, Tryd.ntmps4
  go_wp2_with fail
  ((with_reducible refine hbeg.mono ?_); rintro e w1 ⟨p, m, b, rfl, ⟨n, D, s, L, hp, _, _, _, _, _⟩, _, _, _, hb1⟩)
  have hPZ' : p < w1.heap.size ∧ m < w1.heap.size := ⟨hp.prog.lt, hp.prog.own.lt⟩
  have hWA0' : W.heap.size ≤ w1.heap.size := hb1.size
  have HP := Lib.hid hp
  have HB := Lib.hid hb1
  clear hp hb1 hbeg
  have hfp := f_pair0 p b w1
  go_wp2_with fail
  ((with_reducible refine (pr_steps HP.out (Below.refl _ _)).mono ?_); rintro e w' ⟨rfl, rfl⟩)
  have hX : Below w1.heap.size w1 ((((w1.alloc (.cells #[.int .i64 0, .int .u64 0, .int .i64 0] 62)).alloc (.cells #[.int .i64 0, .int .u64 0, .int .i64 0] 63)).alloc (.cells #[.pointer none, .pointer (some ⟨w1.heap.size, 0, none⟩)] 39)).alloc (.cells #[.pointer none, .pointer (some ⟨w1.heap.size + 1, 0, none⟩)] 43)) := ((((Below.refl _ _).alloc (Nat.le_refl _) _).alloc (by simp) _).alloc (by simp; omega) _).alloc (by simp; omega) _
  have k0 : OpAt 62 w1.heap.size 0 0 0 (w1.alloc (.cells #[.int .i64 0, .int .u64 0, .int .i64 0] 62)) := alloc_blk _ _
  have k1 : OpAt 63 (w1.heap.size + 1) 0 0 0 ((w1.alloc (.cells #[.int .i64 0, .int .u64 0, .int .i64 0] 62)).alloc (.cells #[.int .i64 0, .int .u64 0, .int .i64 0] 63)) := by
    have := alloc_blk (w1.alloc (.cells #[.int .i64 0, .int .u64 0, .int .i64 0] 62)) (.cells #[.int .i64 0, .int .u64 0, .int .i64 0] 63)
    unfold OpAt
    simpa using this
  have k2 : ((((w1.alloc (.cells #[.int .i64 0, .int .u64 0, .int .i64 0] 62)).alloc (.cells #[.int .i64 0, .int .u64 0, .int .i64 0] 63)).alloc (.cells #[.pointer none, .pointer (some ⟨w1.heap.size, 0, none⟩)] 39))).heap[w1.heap.size + 1 + 1]? = some (.cells #[.pointer none, .pointer (some ⟨w1.heap.size, 0, none⟩)] 39 (0, 0)) := by
    have := alloc_blk ((w1.alloc (.cells #[.int .i64 0, .int .u64 0, .int .i64 0] 62)).alloc (.cells #[.int .i64 0, .int .u64 0, .int .i64 0] 63)) (.cells #[.pointer none, .pointer (some ⟨w1.heap.size, 0, none⟩)] 39)
    simpa using this
  have k3 : ((((w1.alloc (.cells #[.int .i64 0, .int .u64 0, .int .i64 0] 62)).alloc (.cells #[.int .i64 0, .int .u64 0, .int .i64 0] 63)).alloc (.cells #[.pointer none, .pointer (some ⟨w1.heap.size, 0, none⟩)] 39)).alloc (.cells #[.pointer none, .pointer (some ⟨w1.heap.size + 1, 0, none⟩)] 43)).heap[w1.heap.size + 1 + 1 + 1]? = some (.cells #[.pointer none, .pointer (some ⟨w1.heap.size + 1, 0, none⟩)] 43 (0, 0)) := by
    have := alloc_blk (((w1.alloc (.cells #[.int .i64 0, .int .u64 0, .int .i64 0] 62)).alloc (.cells #[.int .i64 0, .int .u64 0, .int .i64 0] 63)).alloc (.cells #[.pointer none, .pointer (some ⟨w1.heap.size, 0, none⟩)] 39)) (.cells #[.pointer none, .pointer (some ⟨w1.heap.size + 1, 0, none⟩)] 43)
    simpa using this
  have hV : VS w1.heap.size ((((w1.alloc (.cells #[.int .i64 0, .int .u64 0, .int .i64 0] 62)).alloc (.cells #[.int .i64 0, .int .u64 0, .int .i64 0] 63)).alloc (.cells #[.pointer none, .pointer (some ⟨w1.heap.size, 0, none⟩)] 39)).alloc (.cells #[.pointer none, .pointer (some ⟨w1.heap.size + 1, 0, none⟩)] 43)) :=
    ⟨(Below.heap_alloc _ _ _ (by simp <;> omega)).trans ((Below.heap_alloc _ _ _ (by simp <;> omega)).trans ((Below.heap_alloc _ _ _ (by simp)).trans k0)), (Below.heap_alloc _ _ _ (by simp <;> omega)).trans ((Below.heap_alloc _ _ _ (by simp)).trans k1), (Below.heap_alloc _ _ _ (by simp)).trans k2, k3⟩
  have HV := Lib.hid hV
  have HX := Lib.hid hX
  clear hV hX k0 k1 k2 k3
  have HLX := Lib.hid ((HL.out.below HB.out).below HX.out)
  have HMX := Lib.hid ((HM.out.below HB.out).below HX.out)
  have HBX := Lib.hid (HB.out.trans (HX.out.mono HB.out.size))
  have HPX := Lib.hid (HP.out.below HX.out)
  go_wp2_with fail
  revert HV HX HLX HMX HBX HPX
  generalize (((w1.alloc (.cells #[.int .i64 0, .int .u64 0, .int .i64 0] 62)).alloc (.cells #[.int .i64 0, .int .u64 0, .int .i64 0] 63)).alloc (.cells #[.pointer none, .pointer (some ⟨w1.heap.size, 0, none⟩)] 39)).alloc (.cells #[.pointer none, .pointer (some ⟨w1.heap.size + 1, 0, none⟩)] 43) = Z
  intro HV HX HLX HMX HBX HPX
  clear HX HP HB hfp
  have HWA0 := Lib.hid hWA0'
  have HPZ := Lib.hid hPZ'
  clear hWA0' hPZ'
  generalize w1.heap.size = A at *
  ((with_reducible refine (newPush_bad slot HS.out Z).mono ?_); rintro e wN ⟨rfl, oN, hbN, hsN⟩)
  have hCA : A + 1 + 1 + 1 < Z.heap.size := (Array.getElem?_eq_some_iff.1 HV.out.s2).1
  have hWA : W.heap.size ≤ Z.heap.size := HBX.out.size
  have hAl := (Below.refl wN.heap.size wN).alloc (Nat.le_refl _) (.cells #[.pointer (some ⟨Z.heap.size, 0, none⟩)] 43)
  have HSN := Lib.hid hsN.symm
  have HVN := Lib.hid ((HV.out.below hbN).below hAl)
  have HON := Lib.hid (oN.below hAl)
  have HLN := Lib.hid ((HLX.out.below hbN).below hAl)
  have HMN := Lib.hid ((HMX.out.below hbN).below hAl)
  have HBN := Lib.hid ((HBX.out.trans (hbN.mono HBX.out.size)).trans (hAl.mono (by rw [hsN]; omega)))
  have HPN := Lib.hid ((HPX.out.below hbN).below hAl)
  have HROW := Lib.hid (HVN.out.row (B := A + 1 + 1 + 1) (Nat.le_refl _))
  have hnew := cells_new wN [.pointer (some ⟨Z.heap.size, 0, none⟩)] 43
  have HN := Lib.hid hnew
  clear hnew oN hbN hsN hAl HV HLX HMX HBX HPX
  obtain ⟨i0, hi, hz0, hz1, hz2⟩ := info_parts Tryd_infoPu
  go_wp2_with (at_builtin; refine wpList_append_own _ rfl (.tmp 36) (.tmp 39) _ rfl (A + 1 + 1 + 1) 43 i0 _ 1 8 Tryd.underlying65 hi hz0 hz1 hz2 rfl (by decide) (.slice (some ⟨A + 1 + 1 + 1, 0, none⟩) 2 2) 2 [.pointer none, .pointer (some ⟨A + 1, 0, none⟩)] rfl HROW.out ⟨wN.heap.size, 0, none⟩ 1 1 [.pointer (some ⟨Z.heap.size, 0, none⟩)] rfl rfl HN.out (fun u hu => by rw [List.mem_singleton.1 hu]; rfl) (by unfold maxLen; omega) (by omega) (by have := HVN.out.s2; exact Nat.le_of_lt (Array.getElem?_eq_some_iff.1 this).1) ?_; intro v' w4 hown' hgrow _; have HO4 := Lib.hid hown'; have HG4 := Lib.hid hgrow; clear hown' hgrow)
  have hWA0 := HWA0.out
  have hrow := HO4.out
  rcases hrow.2 with ⟨_, hn0⟩ | ⟨G, cp, cur, rfl, hG, _, _, _, _, _⟩
  · omega
  have l0 := hrow.cellAt 0 (by decide)
  have l1 := hrow.cellAt 1 (by decide)
  have l2 := hrow.cellAt 2 (by decide)
  have hk : ∀ k, k < wN.heap.size + 1 → k ≠ A + 1 + 1 + 1 → w4.heap[k]? = (wN.alloc (.cells #[.pointer (some ⟨Z.heap.size, 0, none⟩)] 43)).heap[k]? := fun k h1 h2 => HG4.out.block k (by simpa using h1) (by simp [Value.ownBlock]; omega)
  have hA4 : A + 1 + 1 < wN.heap.size := by rw [← HSN.out]; omega
  have hV : VT A Z.heap.size G w4 := ⟨(hk A (by omega) (by omega)).trans HVN.out.oa, (hk (A + 1) (by omega) (by omega)).trans HVN.out.ob, (hk Z.heap.size (by rw [← HSN.out]; omega) (by omega)).trans HON.out, (World.cell?_of_block (a := ⟨A + 1 + 1, 0, none⟩) (hk (A + 1 + 1) (by omega) (by omega))).trans (by simpa using HVN.out.cell 0), (World.cell?_of_block (a := ⟨A + 1 + 1, 1, none⟩) (hk (A + 1 + 1) (by omega) (by omega))).trans (by simpa using HVN.out.cell 1), l0, l1, l2⟩
  have hbg : Below W.heap.size W w4 := HBN.out.grown HG4.out HBN.out.size (fun k hk => by simp [Value.ownBlock] at hk; omega)
  have HV := Lib.hid hV
  have HBX := Lib.hid hbg
  have HLX := Lib.hid (HL.out.below hbg)
  have HMX := Lib.hid (HM.out.below hbg)
  have hpm : PM p m n D s.st s.ak s.k s.a s.f s.was s.is s.done w4 := HPN.out.prog.keep (hk p (by have := HPZ.out; omega) (by have := HPZ.out; omega)) (hk m (by have := HPZ.out; omega) (by have := HPZ.out; omega))
  have HPX := Lib.hid hpm
  clear hV hbg hk hrow l0 l1 l2 HO4 HG4 HVN HON HLN HMN HBN HPN HROW HN hpm
  generalize w4 = X at *
  generalize Z.heap.size = C at *
  have c0 := HV.out.c0
  have c1 := HV.out.c1
  refine wp_loop_rounds 3 ?_
  rw [rounds_succ]
  go_wp2_with fail
  ((with_reducible refine (got_nil _).mono ?_); rintro e w' ⟨rfl, rfl⟩)
  go_wp2_with fail
  ((with_reducible refine (popStep_nil _ _).mono ?_); rintro e w' ⟨rfl, rfl⟩)
  go_wp2_with fail
  ((with_reducible refine (popOver_nil _).mono ?_); rintro e w' ⟨rfl, rfl⟩)
  go_wp2_with fail
  rw [rounds_succ]
  go_wp2_with fail
  ((with_reducible refine (got_none HLX.out u64_0 (by decide) HV.out.oa).mono ?_); rintro e w' ⟨rfl, j, rfl⟩)
  have HJ := Lib.hid (show Below X.heap.size X (X.drewN j) from below_drewN' (Below.refl _ _) j)
  have HV1 := Lib.hid (HV.out.below HJ.out)
  have HPY := Lib.hid (HPX.out.below HJ.out)
  have HBY := Lib.hid (HBX.out.trans (HJ.out.mono HBX.out.size))
  have HLY := Lib.hid (HLX.out.below HJ.out)
  have HMY := Lib.hid (HMX.out.below HJ.out)
  have c1' := HV1.out.c1
  have s0' := HV1.out.l0
  have s1' := HV1.out.l1
  have s2' := HV1.out.l2
  clear HV HJ HPX HBX HLX HMX c0 c1
  revert HV1 HPY HBY HLY HMY c1' s0' s1' s2'
  generalize X.drewN j = Y
  intro HV1 HPY HBY HLY HMY c1' s0' s1' s2'
  go_wp2_with fail
  ((with_reducible refine (popStep_over _ HV1.out.oa).mono ?_); rintro e w' ⟨rfl, rfl⟩)
  go_wp2_with fail
  ((with_reducible refine (popOver_any HV1.out.oa).mono ?_); rintro e w' ⟨rfl, rfl⟩)
  go_wp2_with fail
  rw [rounds_succ]
  go_wp2_with fail
  refine wp_loop_rounds 4 ?_
  rw [rounds_succ]
  go_wp2_with fail
  ((with_reducible refine (pushStep_nil _ _).mono ?_); rintro e w' ⟨rfl, rfl⟩)
  go_wp2_with fail
  ((with_reducible refine (pushOver_nil _).mono ?_); rintro e w' ⟨rfl, rfl⟩)
  go_wp2_with fail
  rw [rounds_succ]
  go_wp2_with fail
  ((with_reducible refine (pushStep_over _ HV1.out.ob).mono ?_); rintro e w' ⟨rfl, rfl⟩)
  go_wp2_with fail
  ((with_reducible refine (pushOver_any HV1.out.ob).mono ?_); rintro e w' ⟨rfl, rfl⟩)
  go_wp2_with fail
  rw [rounds_succ]
  go_wp2_with fail
  ((with_reducible refine (pushStep_over _ HV1.out.oc).mono ?_); rintro e w' ⟨rfl, rfl⟩)
  go_wp2_with fail
  ((with_reducible refine (pushOver_any HV1.out.oc).mono ?_); rintro e w' ⟨rfl, rfl⟩)
  go_wp2_with fail
  rw [rounds_succ]
  go_wp2_with fail
  ((with_reducible refine (steps_prog p m n D s.st s.ak s.k s.a s.f s.was s.is s.done _ HPY.out).mono ?_); rintro e w' ⟨rfl, rfl⟩)
  go_wp2_with fail
  ((with_reducible refine (lives_any Y HLY.out HMY.out).mono ?_); rintro e w4 ⟨rfl, hb⟩)
  go_wp2_with fail
  go_ret
  exact ⟨rfl, HBY.out.trans (hb.mono HBY.out.size)⟩
set_option maxRecDepth 100000 in
set_option maxHeartbeats 8000000 in
theorem void_high (ao : Option Addr) (cap nn : Nat) (slot : Int) (W : World) (hL : Lay W) (hM : LayM W) (hn : nn ≤ 300) (h0 : 255 < slot)
    (hbeg : Calls Tryd.prog 8 #[.slice ao nn cap] W fun e W' => ∃ p m b, e = .returned (.agg #[.pointer (some ⟨p, 0, none⟩), .pointer (some ⟨b, 0, none⟩)]) ∧ Both p m b nn W' ∧ W.heap.size ≤ m ∧ m < p ∧ p < b ∧ Below W.heap.size W W') :
    Calls Tryd.prog 4 #[.slice ao nn cap, .int .i64 slot] W fun e W' => e = .returned (.bool true) ∧ Below W.heap.size W W' := by
  have HL := Lib.hid hL
  have HM := Lib.hid hM
  have hn' : (nn : Int) ≤ 300 := by omega
  have HS := Lib.hid (show ¬ (0 ≤ slot ∧ slot < 256) by omega)
  have h00 : 0 ≤ slot := by omega
  clear hL hM
  go_enter Tryd.func4, Tryd.ntmps4
  go_wp2_with fail
  ((with_reducible refine hbeg.mono ?_); rintro e w1 ⟨p, m, b, rfl, ⟨n, D, s, L, hp, _, _, _, _, _⟩, _, _, _, hb1⟩)
  have hPZ' : p < w1.heap.size ∧ m < w1.heap.size := ⟨hp.prog.lt, hp.prog.own.lt⟩
  have hWA0' : W.heap.size ≤ w1.heap.size := hb1.size
  have HP := Lib.hid hp
  have HB := Lib.hid hb1
  clear hp hb1 hbeg
  have hfp := f_pair0 p b w1
  go_wp2_with fail
  ((with_reducible refine (pr_steps HP.out (Below.refl _ _)).mono ?_); rintro e w' ⟨rfl, rfl⟩)
  have hX : Below w1.heap.size w1 ((((w1.alloc (.cells #[.int .i64 0, .int .u64 0, .int .i64 0] 62)).alloc (.cells #[.int .i64 0, .int .u64 0, .int .i64 0] 63)).alloc (.cells #[.pointer none, .pointer (some ⟨w1.heap.size, 0, none⟩)] 39)).alloc (.cells #[.pointer none, .pointer (some ⟨w1.heap.size + 1, 0, none⟩)] 43)) := ((((Below.refl _ _).alloc (Nat.le_refl _) _).alloc (by simp) _).alloc (by simp; omega) _).alloc (by simp; omega) _
  have k0 : OpAt 62 w1.heap.size 0 0 0 (w1.alloc (.cells #[.int .i64 0, .int .u64 0, .int .i64 0] 62)) := alloc_blk _ _
  have k1 : OpAt 63 (w1.heap.size + 1) 0 0 0 ((w1.alloc (.cells #[.int .i64 0, .int .u64 0, .int .i64 0] 62)).alloc (.cells #[.int .i64 0, .int .u64 0, .int .i64 0] 63)) := by
    have := alloc_blk (w1.alloc (.cells #[.int .i64 0, .int .u64 0, .int .i64 0] 62)) (.cells #[.int .i64 0, .int .u64 0, .int .i64 0] 63)
    unfold OpAt
    simpa using this
  have k2 : ((((w1.alloc (.cells #[.int .i64 0, .int .u64 0, .int .i64 0] 62)).alloc (.cells #[.int .i64 0, .int .u64 0, .int .i64 0] 63)).alloc (.cells #[.pointer none, .pointer (some ⟨w1.heap.size, 0, none⟩)] 39))).heap[w1.heap.size + 1 + 1]? = some (.cells #[.pointer none, .pointer (some ⟨w1.heap.size, 0, none⟩)] 39 (0, 0)) := by
    have := alloc_blk ((w1.alloc (.cells #[.int .i64 0, .int .u64 0, .int .i64 0] 62)).alloc (.cells #[.int .i64 0, .int .u64 0, .int .i64 0] 63)) (.cells #[.pointer none, .pointer (some ⟨w1.heap.size, 0, none⟩)] 39)
    simpa using this
  have k3 : ((((w1.alloc (.cells #[.int .i64 0, .int .u64 0, .int .i64 0] 62)).alloc (.cells #[.int .i64 0, .int .u64 0, .int .i64 0] 63)).alloc (.cells #[.pointer none, .pointer (some ⟨w1.heap.size, 0, none⟩)] 39)).alloc (.cells #[.pointer none, .pointer (some ⟨w1.heap.size + 1, 0, none⟩)] 43)).heap[w1.heap.size + 1 + 1 + 1]? = some (.cells #[.pointer none, .pointer (some ⟨w1.heap.size + 1, 0, none⟩)] 43 (0, 0)) := by
    have := alloc_blk (((w1.alloc (.cells #[.int .i64 0, .int .u64 0, .int .i64 0] 62)).alloc (.cells #[.int .i64 0, .int .u64 0, .int .i64 0] 63)).alloc (.cells #[.pointer none, .pointer (some ⟨w1.heap.size, 0, none⟩)] 39)) (.cells #[.pointer none, .pointer (some ⟨w1.heap.size + 1, 0, none⟩)] 43)
    simpa using this
  have hV : VS w1.heap.size ((((w1.alloc (.cells #[.int .i64 0, .int .u64 0, .int .i64 0] 62)).alloc (.cells #[.int .i64 0, .int .u64 0, .int .i64 0] 63)).alloc (.cells #[.pointer none, .pointer (some ⟨w1.heap.size, 0, none⟩)] 39)).alloc (.cells #[.pointer none, .pointer (some ⟨w1.heap.size + 1, 0, none⟩)] 43)) :=
    ⟨(Below.heap_alloc _ _ _ (by simp <;> omega)).trans ((Below.heap_alloc _ _ _ (by simp <;> omega)).trans ((Below.heap_alloc _ _ _ (by simp)).trans k0)), (Below.heap_alloc _ _ _ (by simp <;> omega)).trans ((Below.heap_alloc _ _ _ (by simp)).trans k1), (Below.heap_alloc _ _ _ (by simp)).trans k2, k3⟩
  have HV := Lib.hid hV
  have HX := Lib.hid hX
  clear hV hX k0 k1 k2 k3
  have HLX := Lib.hid ((HL.out.below HB.out).below HX.out)
  have HMX := Lib.hid ((HM.out.below HB.out).below HX.out)
  have HBX := Lib.hid (HB.out.trans (HX.out.mono HB.out.size))
  have HPX := Lib.hid (HP.out.below HX.out)
  go_wp2_with fail
  revert HV HX HLX HMX HBX HPX
  generalize (((w1.alloc (.cells #[.int .i64 0, .int .u64 0, .int .i64 0] 62)).alloc (.cells #[.int .i64 0, .int .u64 0, .int .i64 0] 63)).alloc (.cells #[.pointer none, .pointer (some ⟨w1.heap.size, 0, none⟩)] 39)).alloc (.cells #[.pointer none, .pointer (some ⟨w1.heap.size + 1, 0, none⟩)] 43) = Z
  intro HV HX HLX HMX HBX HPX
  clear HX HP HB hfp
  have HWA0 := Lib.hid hWA0'
  have HPZ := Lib.hid hPZ'
  clear hWA0' hPZ'
  generalize w1.heap.size = A at *
  ((with_reducible refine (newPush_bad slot HS.out Z).mono ?_); rintro e wN ⟨rfl, oN, hbN, hsN⟩)
  have hCA : A + 1 + 1 + 1 < Z.heap.size := (Array.getElem?_eq_some_iff.1 HV.out.s2).1
  have hWA : W.heap.size ≤ Z.heap.size := HBX.out.size
  have hAl := (Below.refl wN.heap.size wN).alloc (Nat.le_refl _) (.cells #[.pointer (some ⟨Z.heap.size, 0, none⟩)] 43)
  have HSN := Lib.hid hsN.symm
  have HVN := Lib.hid ((HV.out.below hbN).below hAl)
  have HON := Lib.hid (oN.below hAl)
  have HLN := Lib.hid ((HLX.out.below hbN).below hAl)
  have HMN := Lib.hid ((HMX.out.below hbN).below hAl)
  have HBN := Lib.hid ((HBX.out.trans (hbN.mono HBX.out.size)).trans (hAl.mono (by rw [hsN]; omega)))
  have HPN := Lib.hid ((HPX.out.below hbN).below hAl)
  have HROW := Lib.hid (HVN.out.row (B := A + 1 + 1 + 1) (Nat.le_refl _))
  have hnew := cells_new wN [.pointer (some ⟨Z.heap.size, 0, none⟩)] 43
  have HN := Lib.hid hnew
  clear hnew oN hbN hsN hAl HV HLX HMX HBX HPX
  obtain ⟨i0, hi, hz0, hz1, hz2⟩ := info_parts Tryd_infoPu
  go_wp2_with (at_builtin; refine wpList_append_own _ rfl (.tmp 36) (.tmp 39) _ rfl (A + 1 + 1 + 1) 43 i0 _ 1 8 Tryd.underlying65 hi hz0 hz1 hz2 rfl (by decide) (.slice (some ⟨A + 1 + 1 + 1, 0, none⟩) 2 2) 2 [.pointer none, .pointer (some ⟨A + 1, 0, none⟩)] rfl HROW.out ⟨wN.heap.size, 0, none⟩ 1 1 [.pointer (some ⟨Z.heap.size, 0, none⟩)] rfl rfl HN.out (fun u hu => by rw [List.mem_singleton.1 hu]; rfl) (by unfold maxLen; omega) (by omega) (by have := HVN.out.s2; exact Nat.le_of_lt (Array.getElem?_eq_some_iff.1 this).1) ?_; intro v' w4 hown' hgrow _; have HO4 := Lib.hid hown'; have HG4 := Lib.hid hgrow; clear hown' hgrow)
  have hWA0 := HWA0.out
  have hrow := HO4.out
  rcases hrow.2 with ⟨_, hn0⟩ | ⟨G, cp, cur, rfl, hG, _, _, _, _, _⟩
  · omega
  have l0 := hrow.cellAt 0 (by decide)
  have l1 := hrow.cellAt 1 (by decide)
  have l2 := hrow.cellAt 2 (by decide)
  have hk : ∀ k, k < wN.heap.size + 1 → k ≠ A + 1 + 1 + 1 → w4.heap[k]? = (wN.alloc (.cells #[.pointer (some ⟨Z.heap.size, 0, none⟩)] 43)).heap[k]? := fun k h1 h2 => HG4.out.block k (by simpa using h1) (by simp [Value.ownBlock]; omega)
  have hA4 : A + 1 + 1 < wN.heap.size := by rw [← HSN.out]; omega
  have hV : VT A Z.heap.size G w4 := ⟨(hk A (by omega) (by omega)).trans HVN.out.oa, (hk (A + 1) (by omega) (by omega)).trans HVN.out.ob, (hk Z.heap.size (by rw [← HSN.out]; omega) (by omega)).trans HON.out, (World.cell?_of_block (a := ⟨A + 1 + 1, 0, none⟩) (hk (A + 1 + 1) (by omega) (by omega))).trans (by simpa using HVN.out.cell 0), (World.cell?_of_block (a := ⟨A + 1 + 1, 1, none⟩) (hk (A + 1 + 1) (by omega) (by omega))).trans (by simpa using HVN.out.cell 1), l0, l1, l2⟩
  have hbg : Below W.heap.size W w4 := HBN.out.grown HG4.out HBN.out.size (fun k hk => by simp [Value.ownBlock] at hk; omega)
  have HV := Lib.hid hV
  have HBX := Lib.hid hbg
  have HLX := Lib.hid (HL.out.below hbg)
  have HMX := Lib.hid (HM.out.below hbg)
  have hpm : PM p m n D s.st s.ak s.k s.a s.f s.was s.is s.done w4 := HPN.out.prog.keep (hk p (by have := HPZ.out; omega) (by have := HPZ.out; omega)) (hk m (by have := HPZ.out; omega) (by have := HPZ.out; omega))
  have HPX := Lib.hid hpm
  clear hV hbg hk hrow l0 l1 l2 HO4 HG4 HVN HON HLN HMN HBN HPN HROW HN hpm
  generalize w4 = X at *
  generalize Z.heap.size = C at *
  have c0 := HV.out.c0
  have c1 := HV.out.c1
  refine wp_loop_rounds 3 ?_
  rw [rounds_succ]
  go_wp2_with fail
  ((with_reducible refine (got_nil _).mono ?_); rintro e w' ⟨rfl, rfl⟩)
  go_wp2_with fail
  ((with_reducible refine (popStep_nil _ _).mono ?_); rintro e w' ⟨rfl, rfl⟩)
  go_wp2_with fail
  ((with_reducible refine (popOver_nil _).mono ?_); rintro e w' ⟨rfl, rfl⟩)
  go_wp2_with fail
  rw [rounds_succ]
  go_wp2_with fail
  ((with_reducible refine (got_none HLX.out u64_0 (by decide) HV.out.oa).mono ?_); rintro e w' ⟨rfl, j, rfl⟩)
  have HJ := Lib.hid (show Below X.heap.size X (X.drewN j) from below_drewN' (Below.refl _ _) j)
  have HV1 := Lib.hid (HV.out.below HJ.out)
  have HPY := Lib.hid (HPX.out.below HJ.out)
  have HBY := Lib.hid (HBX.out.trans (HJ.out.mono HBX.out.size))
  have HLY := Lib.hid (HLX.out.below HJ.out)
  have HMY := Lib.hid (HMX.out.below HJ.out)
  have c1' := HV1.out.c1
  have s0' := HV1.out.l0
  have s1' := HV1.out.l1
  have s2' := HV1.out.l2
  clear HV HJ HPX HBX HLX HMX c0 c1
  revert HV1 HPY HBY HLY HMY c1' s0' s1' s2'
  generalize X.drewN j = Y
  intro HV1 HPY HBY HLY HMY c1' s0' s1' s2'
  go_wp2_with fail
  ((with_reducible refine (popStep_over _ HV1.out.oa).mono ?_); rintro e w' ⟨rfl, rfl⟩)
  go_wp2_with fail
  ((with_reducible refine (popOver_any HV1.out.oa).mono ?_); rintro e w' ⟨rfl, rfl⟩)
  go_wp2_with fail
  rw [rounds_succ]
  go_wp2_with fail
  refine wp_loop_rounds 4 ?_
  rw [rounds_succ]
  go_wp2_with fail
  ((with_reducible refine (pushStep_nil _ _).mono ?_); rintro e w' ⟨rfl, rfl⟩)
  go_wp2_with fail
  ((with_reducible refine (pushOver_nil _).mono ?_); rintro e w' ⟨rfl, rfl⟩)
  go_wp2_with fail
  rw [rounds_succ]
  go_wp2_with fail
  ((with_reducible refine (pushStep_over _ HV1.out.ob).mono ?_); rintro e w' ⟨rfl, rfl⟩)
  go_wp2_with fail
  ((with_reducible refine (pushOver_any HV1.out.ob).mono ?_); rintro e w' ⟨rfl, rfl⟩)
  go_wp2_with fail
  rw [rounds_succ]
  go_wp2_with fail
  ((with_reducible refine (pushStep_over _ HV1.out.oc).mono ?_); rintro e w' ⟨rfl, rfl⟩)
  go_wp2_with fail
  ((with_reducible refine (pushOver_any HV1.out.oc).mono ?_); rintro e w' ⟨rfl, rfl⟩)
  go_wp2_with fail
  rw [rounds_succ]
  go_wp2_with fail
  ((with_reducible refine (steps_prog p m n D s.st s.ak s.k s.a s.f s.was s.is s.done _ HPY.out).mono ?_); rintro e w' ⟨rfl, rfl⟩)
  go_wp2_with fail
  ((with_reducible refine (lives_any Y HLY.out HMY.out).mono ?_); rintro e w4 ⟨rfl, hb⟩)
  go_wp2_with fail
  go_ret
  exact ⟨rfl, HBY.out.trans (hb.mono HBY.out.size)⟩
end Go.Proofs.YtipgidkpjilhoaaDoor
