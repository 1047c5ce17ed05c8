/-
  The law AllocsVoid, walked: it returns true and only makes memory of its own; condition: the tables as laid.
-/
import Derived.Test.YtlcbinckbkdgdaaDoorB14
import Derived.Test.YtlcbinckbkdgdaaDoorD6
namespace Go.Proofs.YtlcbinckbkdgdaaDoor
open Go.RowKit Go.Maps

theorem f_pair0 (p b : Nat) (w : World) : (Instr.field 27 (.agg #[.pointer (some ⟨p, 0, none⟩), .pointer (some ⟨b, 0, none⟩)]) 0).run Tryd.prog w = .ok (.pointer (some ⟨p, 0, none⟩)) w := by kernel_rfl
/-- What the law's lists lie as. -/
structure VS (A : Nat) (w : World) : Prop where
  a : Bq A 36 [.nilIface, .int .i64 0, .int .u32 0, .bool false, .bool false] w
  f : Bq (A + 1) 39 [.nilIface, .int .i64 0, .int .u32 0, .int .u8 0] w
  p : Bq (A + 1 + 1) 41 [.nilIface, .int .i64 0, .int .u32 0, .bool false] w
  sa : Bq (A + 1 + 1 + 1) 42 [.pointer none, .pointer (some ⟨A, 0, none⟩)] w
  sf : Bq (A + 1 + 1 + 1 + 1) 43 [.pointer none, .pointer (some ⟨A + 1, 0, none⟩)] w
  sp : Bq (A + 1 + 1 + 1 + 1 + 1) 44 [.pointer none, .pointer (some ⟨A + 1 + 1, 0, none⟩)] w
theorem VS.below {A : Nat} {w w' : World} (h : VS A w) (hb : Below w.heap.size w w') : VS A w' := ⟨h.a.below hb, h.f.below hb, h.p.below hb, h.sa.below hb, h.sf.below hb, h.sp.below hb⟩
theorem Bq.alloc {e : Nat} {t : TypeId} {cs : List Value} {w : World} (h : Bq e t cs w) (o : Obj) : Bq e t cs (w.alloc o) := h.below ((Below.refl _ _).alloc (Nat.le_refl _) o)
theorem vs_new (w : World) : VS w.heap.size ((((((w.alloc (.cells #[.nilIface, .int .i64 0, .int .u32 0, .bool false, .bool false] 36)).alloc (.cells #[.nilIface, .int .i64 0, .int .u32 0, .int .u8 0] 39)).alloc (.cells #[.nilIface, .int .i64 0, .int .u32 0, .bool false] 41)).alloc (.cells #[.pointer none, .pointer (some ⟨w.heap.size, 0, none⟩)] 42)).alloc (.cells #[.pointer none, .pointer (some ⟨w.heap.size + 1, 0, none⟩)] 43)).alloc (.cells #[.pointer none, .pointer (some ⟨w.heap.size + 1 + 1, 0, none⟩)] 44)) ∧ Below w.heap.size w ((((((w.alloc (.cells #[.nilIface, .int .i64 0, .int .u32 0, .bool false, .bool false] 36)).alloc (.cells #[.nilIface, .int .i64 0, .int .u32 0, .int .u8 0] 39)).alloc (.cells #[.nilIface, .int .i64 0, .int .u32 0, .bool false] 41)).alloc (.cells #[.pointer none, .pointer (some ⟨w.heap.size, 0, none⟩)] 42)).alloc (.cells #[.pointer none, .pointer (some ⟨w.heap.size + 1, 0, none⟩)] 43)).alloc (.cells #[.pointer none, .pointer (some ⟨w.heap.size + 1 + 1, 0, none⟩)] 44)) := by
  refine ⟨⟨?_, ?_, ?_, ?_, ?_, ?_⟩, ?_⟩
  · exact (((((Bq.new w _ _).alloc _).alloc _).alloc _).alloc _).alloc _
  · have := ((((Bq.new (w.alloc (.cells #[.nilIface, .int .i64 0, .int .u32 0, .bool false, .bool false] 36)) [.nilIface, .int .i64 0, .int .u32 0, .int .u8 0] 39).alloc (.cells #[.nilIface, .int .i64 0, .int .u32 0, .bool false] 41)).alloc (.cells #[.pointer none, .pointer (some ⟨w.heap.size, 0, none⟩)] 42)).alloc (.cells #[.pointer none, .pointer (some ⟨w.heap.size + 1, 0, none⟩)] 43)).alloc (.cells #[.pointer none, .pointer (some ⟨w.heap.size + 1 + 1, 0, none⟩)] 44)
    unfold Bq at this ⊢
    simpa using this
  · have := (((Bq.new ((w.alloc (.cells #[.nilIface, .int .i64 0, .int .u32 0, .bool false, .bool false] 36)).alloc (.cells #[.nilIface, .int .i64 0, .int .u32 0, .int .u8 0] 39)) [.nilIface, .int .i64 0, .int .u32 0, .bool false] 41).alloc (.cells #[.pointer none, .pointer (some ⟨w.heap.size, 0, none⟩)] 42)).alloc (.cells #[.pointer none, .pointer (some ⟨w.heap.size + 1, 0, none⟩)] 43)).alloc (.cells #[.pointer none, .pointer (some ⟨w.heap.size + 1 + 1, 0, none⟩)] 44)
    unfold Bq at this ⊢
    simpa using this
  · have := ((Bq.new (((w.alloc (.cells #[.nilIface, .int .i64 0, .int .u32 0, .bool false, .bool false] 36)).alloc (.cells #[.nilIface, .int .i64 0, .int .u32 0, .int .u8 0] 39)).alloc (.cells #[.nilIface, .int .i64 0, .int .u32 0, .bool false] 41)) [.pointer none, .pointer (some ⟨w.heap.size, 0, none⟩)] 42).alloc (.cells #[.pointer none, .pointer (some ⟨w.heap.size + 1, 0, none⟩)] 43)).alloc (.cells #[.pointer none, .pointer (some ⟨w.heap.size + 1 + 1, 0, none⟩)] 44)
    unfold Bq at this ⊢
    simpa using this
  · have := (Bq.new ((((w.alloc (.cells #[.nilIface, .int .i64 0, .int .u32 0, .bool false, .bool false] 36)).alloc (.cells #[.nilIface, .int .i64 0, .int .u32 0, .int .u8 0] 39)).alloc (.cells #[.nilIface, .int .i64 0, .int .u32 0, .bool false] 41)).alloc (.cells #[.pointer none, .pointer (some ⟨w.heap.size, 0, none⟩)] 42)) [.pointer none, .pointer (some ⟨w.heap.size + 1, 0, none⟩)] 43).alloc (.cells #[.pointer none, .pointer (some ⟨w.heap.size + 1 + 1, 0, none⟩)] 44)
    unfold Bq at this ⊢
    simpa using this
  · have := (Bq.new (((((w.alloc (.cells #[.nilIface, .int .i64 0, .int .u32 0, .bool false, .bool false] 36)).alloc (.cells #[.nilIface, .int .i64 0, .int .u32 0, .int .u8 0] 39)).alloc (.cells #[.nilIface, .int .i64 0, .int .u32 0, .bool false] 41)).alloc (.cells #[.pointer none, .pointer (some ⟨w.heap.size, 0, none⟩)] 42)).alloc (.cells #[.pointer none, .pointer (some ⟨w.heap.size + 1, 0, none⟩)] 43)) [.pointer none, .pointer (some ⟨w.heap.size + 1 + 1, 0, none⟩)] 44)
    unfold Bq at this ⊢
    simpa using this
  · exact ((((((Below.refl _ _).alloc (Nat.le_refl _) _).alloc (by simp) _).alloc (by simp; omega) _).alloc (by simp; omega) _).alloc (by simp; omega) _).alloc (by simp; omega) _
theorem cells_new (w : World) (xs : List Value) (t : TypeId) : ∀ j u, xs[j]? = some u → (w.alloc (.cells xs.toArray t)).cell? ((⟨w.heap.size, 0, none⟩ : Addr).add j) = some u := by
  intro j u hj
  by_cases h : j = 0
  · subst h
    simp [Addr.add, hj]
  · simp [Addr.add, h, hj]
theorem info_fr : (Tryd.prog.info? 43).map (fun i => (i.zero, i.size, i.bytes)) = some (some (.pointer none), 1, 8) := by kernel_rfl
theorem info_pk : (Tryd.prog.info? 44).map (fun i => (i.zero, i.size, i.bytes)) = some (some (.pointer none), 1, 8) := by kernel_rfl
theorem Bq.row {e B : Nat} {t : TypeId} {x y : Value} {w : World} (h : Bq e t [x, y] w) (hB : B ≤ e) : w.ownsRow B t 1 (.slice (some ⟨e, 0, none⟩) 2 2) 2 [x, y] :=
  ⟨rfl, .inr ⟨e, 2, _, rfl, hB, h, Nat.le_refl _, by unfold maxLen; omega, rfl, rfl⟩⟩
/-- .. behind the first append. -/
structure VU (A C G : Nat) (w : World) : Prop where
  a : Bq A 36 [.nilIface, .int .i64 0, .int .u32 0, .bool false, .bool false] w
  f : Bq (A + 1) 39 [.nilIface, .int .i64 0, .int .u32 0, .int .u8 0] w
  p : Bq (A + 1 + 1) 41 [.nilIface, .int .i64 0, .int .u32 0, .bool false] w
  c : Bq C 39 [.nilIface, .int .i64 0, .int .u32 0, .int .u8 0] w
  sa : Bq (A + 1 + 1 + 1) 42 [.pointer none, .pointer (some ⟨A, 0, none⟩)] w
  sp : Bq (A + 1 + 1 + 1 + 1 + 1) 44 [.pointer none, .pointer (some ⟨A + 1 + 1, 0, none⟩)] w
  ne : G ≠ A + 1 + 1 + 1 + 1 + 1
  g0 : w.cell? ⟨G, 0, none⟩ = some (.pointer none)
  g1 : w.cell? ⟨G, 1, none⟩ = some (.pointer (some ⟨A + 1, 0, none⟩))
  g2 : w.cell? ⟨G, 2, none⟩ = some (.pointer (some ⟨C, 0, none⟩))
theorem cell_below {q j : Nat} {v : Value} {w w' : World} (hc : w.cell? ⟨q, j, none⟩ = some v) (hb : Below w.heap.size w w') : w'.cell? ⟨q, j, none⟩ = some v := (hb.cell (p := ⟨q, j, none⟩) (World.block_lt_of_cell? w _ hc)).trans hc
theorem VU.below {A C G : Nat} {w w' : World} (h : VU A C G w) (hb : Below w.heap.size w w') : VU A C G w' :=
  ⟨h.a.below hb, h.f.below hb, h.p.below hb, h.c.below hb, h.sa.below hb, h.sp.below hb, h.ne, cell_below h.g0 hb, cell_below h.g1 hb, cell_below h.g2 hb⟩
/-- .. and behind the second. -/
structure VT (A C G E H : Nat) (w : World) : Prop where
  a : Bq A 36 [.nilIface, .int .i64 0, .int .u32 0, .bool false, .bool false] w
  f : Bq (A + 1) 39 [.nilIface, .int .i64 0, .int .u32 0, .int .u8 0] w
  p : Bq (A + 1 + 1) 41 [.nilIface, .int .i64 0, .int .u32 0, .bool false] w
  c : Bq C 39 [.nilIface, .int .i64 0, .int .u32 0, .int .u8 0] w
  e : Bq E 41 [.nilIface, .int .i64 0, .int .u32 0, .bool false] w
  sa : Bq (A + 1 + 1 + 1) 42 [.pointer none, .pointer (some ⟨A, 0, none⟩)] w
  g0 : w.cell? ⟨G, 0, none⟩ = some (.pointer none)
  g1 : w.cell? ⟨G, 1, none⟩ = some (.pointer (some ⟨A + 1, 0, none⟩))
  g2 : w.cell? ⟨G, 2, none⟩ = some (.pointer (some ⟨C, 0, none⟩))
  h0 : w.cell? ⟨H, 0, none⟩ = some (.pointer none)
  h1 : w.cell? ⟨H, 1, none⟩ = some (.pointer (some ⟨A + 1 + 1, 0, none⟩))
  h2 : w.cell? ⟨H, 2, none⟩ = some (.pointer (some ⟨E, 0, none⟩))
theorem VT.below {A C G E H : Nat} {w w' : World} (h : VT A C G E H w) (hb : Below w.heap.size w w') : VT A C G E H w' :=
  ⟨h.a.below hb, h.f.below hb, h.p.below hb, h.c.below hb, h.e.below hb, h.sa.below hb, cell_below h.g0 hb, cell_below h.g1 hb, cell_below h.g2 hb, cell_below h.h0 hb, cell_below h.h1 hb, cell_below h.h2 hb⟩
theorem VS.grow {A C G B cp : Nat} {cur : Array Value} {w w' : World} (h : VS A w) (hc : Bq C 39 [.nilIface, .int .i64 0, .int .u32 0, .int .u8 0] w)
    (hg : w.grownBy w' (some (A + 1 + 1 + 1 + 1))) (hr : w'.ownsRow B 43 1 (.slice (some ⟨G, 0, none⟩) 3 cp) 3 [.pointer none, .pointer (some ⟨A + 1, 0, none⟩), .pointer (some ⟨C, 0, none⟩)]) (hG : w'.heap[G]? = some (.cells cur 43 (0, 0))) : VU A C G w' := by
  have hk : ∀ k, k < w.heap.size → k ≠ A + 1 + 1 + 1 + 1 → w'.heap[k]? = w.heap[k]? := fun k h1 h2 => hg.block k h1 (by simpa using h2)
  have sp := h.sp.same (hk _ h.sp.lt (by omega))
  refine ⟨h.a.same (hk _ h.a.lt (by omega)), h.f.same (hk _ h.f.lt (by omega)), h.p.same (hk _ h.p.lt (by omega)), hc.same (hk _ hc.lt (hc.ne h.sf (by decide))), h.sa.same (hk _ h.sa.lt (by omega)), sp, ?_, hr.cellAt 0 (by decide), hr.cellAt 1 (by decide), hr.cellAt 2 (by decide)⟩
  rintro rfl
  have := hG.symm.trans sp
  simp at this
theorem VU.grow {A C G E H B cp : Nat} {w w' : World} (h : VU A C G w) (hc : Bq E 41 [.nilIface, .int .i64 0, .int .u32 0, .bool false] w)
    (hg : w.grownBy w' (some (A + 1 + 1 + 1 + 1 + 1))) (hr : w'.ownsRow B 44 1 (.slice (some ⟨H, 0, none⟩) 3 cp) 3 [.pointer none, .pointer (some ⟨A + 1 + 1, 0, none⟩), .pointer (some ⟨E, 0, none⟩)]) : VT A C G E H w' := by
  have hk : ∀ k, k < w.heap.size → k ≠ A + 1 + 1 + 1 + 1 + 1 → w'.heap[k]? = w.heap[k]? := fun k h1 h2 => hg.block k h1 (by simpa using h2)
  have hcl : ∀ {j : Nat} {v : Value}, w.cell? ⟨G, j, none⟩ = some v → w'.cell? ⟨G, j, none⟩ = some v := fun {j v} q => (World.cell?_of_block (a := ⟨G, j, none⟩) (hk G (World.block_lt_of_cell? w _ q) h.ne)).trans q
  exact ⟨h.a.same (hk _ h.a.lt (by omega)), h.f.same (hk _ h.f.lt (by omega)), h.p.same (hk _ h.p.lt (by omega)), h.c.same (hk _ h.c.lt (h.c.ne h.sp (by decide))), hc.same (hk _ hc.lt (hc.ne h.sp (by decide))), h.sa.same (hk _ h.sa.lt (by omega)), hcl h.g0, hcl h.g1, hcl h.g2, hr.cellAt 0 (by decide), hr.cellAt 1 (by decide), hr.cellAt 2 (by decide)⟩
theorem void_long (ao : Option Addr) (cap nn : Nat) (slot : Int) (W : World) (hL : Lay W) (hM : LayM W) (hn : 300 < nn) :
    Calls Tryd.prog 3 #[.slice ao nn cap, .int .i64 slot] W fun e W' => e = .returned (.bool true) ∧ Below W.heap.size W W' := by
  have HL := Lib.hid hL
  have HM := Lib.hid hM
  have hn' : (300 : Int) < (nn : Int) := by omega
  clear hL hM
  go_enter Tryd.func3, Tryd.ntmps3
  go_wp2_with fail
  ((with_reducible refine (lives_any W HL.out HM.out).mono ?_); rintro e w4 ⟨rfl, hb⟩)
  go_wp2_with fail
  go_ret
  exact ⟨rfl, hb⟩
set_option maxRecDepth 100000 in
set_option maxHeartbeats 8000000 in
theorem void_good (ao : Option Addr) (cap nn : Nat) (slot : Int) (W : World) (hL : Lay W) (hM : LayM W) (hn : nn ≤ 300) (h0 : 0 ≤ slot) (h1 : slot ≤ 255)
    (hbeg : Calls Tryd.prog 7 #[.slice ao nn cap] W fun e W' => ∃ p m b, e = .returned (.agg #[.pointer (some ⟨p, 0, none⟩), .pointer (some ⟨b, 0, none⟩)]) ∧ Both p m b nn W' ∧ W.heap.size ≤ m ∧ m < p ∧ p < b ∧ Below W.heap.size W W') :
    Calls Tryd.prog 3 #[.slice ao nn cap, .int .i64 slot] W fun e W' => e = .returned (.bool true) ∧ Below W.heap.size W W' := by
  have HL := Lib.hid hL
  have HM := Lib.hid hM
  have hn' : (nn : Int) ≤ 300 := by omega
  clear hL hM
  go_enter Tryd.func3, Tryd.ntmps3
  go_wp2_with fail
  ((with_reducible refine hbeg.mono ?_); rintro e w1 ⟨p, m, b, rfl, ⟨n, D, s, L, hp, _, _, _, _, _⟩, _, _, _, hb1⟩)
  have HP := Lib.hid hp
  have HB := Lib.hid hb1
  clear hp hb1 hbeg
  have hfp := f_pair0 p b w1
  go_wp2_with fail
  ((with_reducible refine (steps_p HP.out).mono ?_); rintro e w' ⟨rfl, rfl⟩)
  go_wp2_with fail
  obtain ⟨hV, hX⟩ := vs_new w1
  have HV := Lib.hid hV
  have HX := Lib.hid hX
  clear hV hX
  have HLX := Lib.hid ((HL.out.below HB.out).below HX.out)
  have HMX := Lib.hid ((HM.out.below HB.out).below HX.out)
  have HBX := Lib.hid (HB.out.trans (HX.out.mono HB.out.size))
  have HPX := Lib.hid (HP.out.below HX.out)
  revert HV HX HLX HMX HBX HPX
  generalize ((((((w1.alloc (.cells #[.nilIface, .int .i64 0, .int .u32 0, .bool false, .bool false] 36)).alloc (.cells #[.nilIface, .int .i64 0, .int .u32 0, .int .u8 0] 39)).alloc (.cells #[.nilIface, .int .i64 0, .int .u32 0, .bool false] 41)).alloc (.cells #[.pointer none, .pointer (some ⟨w1.heap.size, 0, none⟩)] 42)).alloc (.cells #[.pointer none, .pointer (some ⟨w1.heap.size + 1, 0, none⟩)] 43)).alloc (.cells #[.pointer none, .pointer (some ⟨w1.heap.size + 1 + 1, 0, none⟩)] 44)) = X
  intro HV HX HLX HMX HBX HPX
  clear HX HP HB hfp
  generalize w1.heap.size = A at *
  have HPP := Lib.hid HPX.out.prog
  clear HPX
  have HPX := HPP
  clear HPP
  refine wp_loop_rounds 3 ?_
  have c0 : X.cell? ⟨A + 1 + 1 + 1, 0, none⟩ = some (.pointer none) := HV.out.sa.cell 0
  rw [rounds_succ]
  go_wp2_with fail
  ((with_reducible refine (gotAlloc_nil _).mono ?_); rintro e w2 ⟨rfl, hb2⟩)
  have HY := Lib.hid (hb2.alloc hb2.size (.cells #[.int .i64 (-1), .int .u32 0, .bool false] 34))
  have HV1 := Lib.hid (HV.out.below HY.out)
  have HL1 := Lib.hid (HLX.out.below HY.out)
  have HM1 := Lib.hid (HMX.out.below HY.out)
  have HB1 := Lib.hid (HBX.out.trans (HY.out.mono HBX.out.size))
  have HP1 := Lib.hid (HPX.out.below HY.out)
  have c0' : (w2.alloc (.cells #[.int .i64 (-1), .int .u32 0, .bool false] 34)).cell? ⟨A + 1 + 1 + 1, 0, none⟩ = some (.pointer none) := HV1.out.sa.cell 0
  have hne := neq_same (-1) 0 false (w2.alloc (.cells #[.int .i64 (-1), .int .u32 0, .bool false] 34))
  clear hb2 c0 HY HV HLX HMX HBX HPX
  have HV := HV1
  have HLX := HL1
  have HMX := HM1
  have HBX := HB1
  have HPX := HP1
  clear HV1 HL1 HM1 HB1 HP1
  go_wp2_with fail
  ((with_reducible refine (stepAlloc_nil _ _).mono ?_); rintro e w' ⟨rfl, rfl⟩)
  go_wp2_with fail
  ((with_reducible refine (overAlloc_nil _).mono ?_); rintro e w' ⟨rfl, rfl⟩)
  go_wp2_with fail
  revert HV HLX HMX HBX HPX
  clear hne c0'
  generalize w2.alloc (.cells #[.int .i64 (-1), .int .u32 0, .bool false] 34) = Y1
  intro HV HLX HMX HBX HPX
  have c0 : Y1.cell? ⟨A + 1 + 1 + 1, 1, none⟩ = some (.pointer (some ⟨A, 0, none⟩)) := HV.out.sa.cell 1
  rw [rounds_succ]
  go_wp2_with fail
  ((with_reducible refine (gotAlloc_no HV.out.a).mono ?_); rintro e w2 ⟨rfl, hb2⟩)
  have HY := Lib.hid (hb2.alloc hb2.size (.cells #[.int .i64 (-1), .int .u32 0, .bool false] 34))
  have HV1 := Lib.hid (HV.out.below HY.out)
  have HL1 := Lib.hid (HLX.out.below HY.out)
  have HM1 := Lib.hid (HMX.out.below HY.out)
  have HB1 := Lib.hid (HBX.out.trans (HY.out.mono HBX.out.size))
  have HP1 := Lib.hid (HPX.out.below HY.out)
  have c0' : (w2.alloc (.cells #[.int .i64 (-1), .int .u32 0, .bool false] 34)).cell? ⟨A + 1 + 1 + 1, 1, none⟩ = some (.pointer (some ⟨A, 0, none⟩)) := HV1.out.sa.cell 1
  have hne := neq_same (-1) 0 false (w2.alloc (.cells #[.int .i64 (-1), .int .u32 0, .bool false] 34))
  clear hb2 c0 HY HV HLX HMX HBX HPX
  have HV := HV1
  have HLX := HL1
  have HMX := HM1
  have HBX := HB1
  have HPX := HP1
  clear HV1 HL1 HM1 HB1 HP1
  go_wp2_with fail
  ((with_reducible refine (stepAlloc_over _ HV.out.a).mono ?_); rintro e w' ⟨rfl, rfl⟩)
  go_wp2_with fail
  ((with_reducible refine (overAlloc_yes HV.out.a).mono ?_); rintro e w' ⟨rfl, rfl⟩)
  go_wp2_with fail
  revert HV HLX HMX HBX HPX
  clear hne c0'
  generalize w2.alloc (.cells #[.int .i64 (-1), .int .u32 0, .bool false] 34) = Y2
  intro HV HLX HMX HBX HPX
  rw [rounds_succ]
  go_wp2_with fail
  have g0 : Y2.cell? ⟨A + 1 + 1 + 1 + 1, 0, none⟩ = some (.pointer none) := HV.out.sf.cell 0
  have h0 : Y2.cell? ⟨A + 1 + 1 + 1 + 1 + 1, 0, none⟩ = some (.pointer none) := HV.out.sp.cell 0
  have g1 : Y2.cell? ⟨A + 1 + 1 + 1 + 1, 1, none⟩ = some (.pointer (some ⟨A + 1, 0, none⟩)) := HV.out.sf.cell 1
  have h1 : Y2.cell? ⟨A + 1 + 1 + 1 + 1 + 1, 1, none⟩ = some (.pointer (some ⟨A + 1 + 1, 0, none⟩)) := HV.out.sp.cell 1
  refine wp_loop_rounds 3 ?_
  rw [rounds_succ]
  go_wp2_with fail
  ((with_reducible refine (stepFree_nil _ _).mono ?_); rintro e w' ⟨rfl, rfl⟩)
  go_wp2_with fail
  ((with_reducible refine (overFree_nil _).mono ?_); rintro e w' ⟨rfl, rfl⟩)
  go_wp2_with fail
  ((with_reducible refine (gotFree_nil _).mono ?_); rintro e w' ⟨rfl, rfl⟩)
  go_wp2_with fail
  ((with_reducible refine (stepPark_nil _ _).mono ?_); rintro e w' ⟨rfl, rfl⟩)
  go_wp2_with fail
  ((with_reducible refine (overPark_nil _).mono ?_); rintro e w' ⟨rfl, rfl⟩)
  go_wp2_with fail
  ((with_reducible refine (gotPark_nil _).mono ?_); rintro e w' ⟨rfl, rfl⟩)
  go_wp2_with fail
  rw [rounds_succ]
  go_wp2_with fail
  ((with_reducible refine (stepFree_over _ HV.out.f).mono ?_); rintro e w' ⟨rfl, rfl⟩)
  go_wp2_with fail
  ((with_reducible refine (overFree_yes HV.out.f).mono ?_); rintro e w' ⟨rfl, rfl⟩)
  go_wp2_with fail
  ((with_reducible refine (gotFree_any HV.out.f).mono ?_); rintro e w' ⟨rfl, rfl⟩)
  go_wp2_with fail
  ((with_reducible refine (stepPark_over _ HV.out.p).mono ?_); rintro e w' ⟨rfl, rfl⟩)
  go_wp2_with fail
  ((with_reducible refine (overPark_yes HV.out.p).mono ?_); rintro e w' ⟨rfl, rfl⟩)
  go_wp2_with fail
  ((with_reducible refine (gotPark_any HV.out.p).mono ?_); rintro e w' ⟨rfl, rfl⟩)
  go_wp2_with fail
  rw [rounds_succ]
  go_wp2_with fail
  ((with_reducible refine (steps_prog p m n D s.st s.ak s.k s.a s.f s.was s.is s.done _ HPX.out).mono ?_); rintro e w' ⟨rfl, rfl⟩)
  go_wp2_with fail
  ((with_reducible refine (lives_any _ HLX.out HMX.out).mono ?_); rintro e w4 ⟨rfl, hb⟩)
  go_wp2_with fail
  go_ret
  exact ⟨rfl, HBX.out.trans (hb.mono HBX.out.size)⟩
set_option maxRecDepth 100000 in
set_option maxHeartbeats 8000000 in
theorem void_low (ao : Option Addr) (cap nn : Nat) (slot : Int) (W : World) (hL : Lay W) (hM : LayM W) (hn : nn ≤ 300) (h0 : slot < 0)
    (hbeg : Calls Tryd.prog 7 #[.slice ao nn cap] W fun e W' => ∃ p m b, e = .returned (.agg #[.pointer (some ⟨p, 0, none⟩), .pointer (some ⟨b, 0, none⟩)]) ∧ Both p m b nn W' ∧ W.heap.size ≤ m ∧ m < p ∧ p < b ∧ Below W.heap.size W W') :
    Calls Tryd.prog 3 #[.slice ao nn cap, .int .i64 slot] W fun e W' => e = .returned (.bool true) ∧ Below W.heap.size W W' := by
  have HL := Lib.hid hL
  have HM := Lib.hid hM
  have hn' : (nn : Int) ≤ 300 := by omega
  have HS := Lib.hid (show slot < 0 ∨ 255 < slot by omega)
  clear hL hM
  go_enter Tryd.func3, Tryd.ntmps3
  go_wp2_with fail
  ((with_reducible refine hbeg.mono ?_); rintro e w1 ⟨p, m, b, rfl, ⟨n, D, s, L, hp, _, _, _, _, _⟩, _, _, _, hb1⟩)
  have HP := Lib.hid hp
  have HB := Lib.hid hb1
  clear hp hb1 hbeg
  have hfp := f_pair0 p b w1
  go_wp2_with fail
  ((with_reducible refine (steps_p HP.out).mono ?_); rintro e w' ⟨rfl, rfl⟩)
  go_wp2_with fail
  obtain ⟨hV, hX⟩ := vs_new w1
  have HV := Lib.hid hV
  have HX := Lib.hid hX
  clear hV hX
  have HLX := Lib.hid ((HL.out.below HB.out).below HX.out)
  have HMX := Lib.hid ((HM.out.below HB.out).below HX.out)
  have HBX := Lib.hid (HB.out.trans (HX.out.mono HB.out.size))
  have HPX := Lib.hid (HP.out.below HX.out)
  revert HV HX HLX HMX HBX HPX
  generalize ((((((w1.alloc (.cells #[.nilIface, .int .i64 0, .int .u32 0, .bool false, .bool false] 36)).alloc (.cells #[.nilIface, .int .i64 0, .int .u32 0, .int .u8 0] 39)).alloc (.cells #[.nilIface, .int .i64 0, .int .u32 0, .bool false] 41)).alloc (.cells #[.pointer none, .pointer (some ⟨w1.heap.size, 0, none⟩)] 42)).alloc (.cells #[.pointer none, .pointer (some ⟨w1.heap.size + 1, 0, none⟩)] 43)).alloc (.cells #[.pointer none, .pointer (some ⟨w1.heap.size + 1 + 1, 0, none⟩)] 44)) = X
  intro HV HX HLX HMX HBX HPX
  have HPZ := Lib.hid (show p < w1.heap.size ∧ m < w1.heap.size from ⟨HP.out.prog.lt, HP.out.prog.own.lt⟩)
  have HWA0 := Lib.hid HB.out.size
  have HPP := Lib.hid HPX.out.prog
  clear HX HP HB hfp HPX
  have HPX := HPP
  clear HPP
  generalize w1.heap.size = A at *
  ((with_reducible refine (newFree_no 1 HS.out X).mono ?_); rintro e wN ⟨C, rfl, hr, kr, hbN⟩)
  have hAl := (Below.refl wN.heap.size wN).alloc (Nat.le_refl _) (.cells #[.pointer (some ⟨C, 0, none⟩)] 43)
  have HVN := Lib.hid ((HV.out.below hbN).below hAl)
  have HKN := Lib.hid (kr.below hAl)
  have HBN := Lib.hid ((HBX.out.trans (hbN.mono HBX.out.size)).trans (hAl.mono (Nat.le_trans HBX.out.size hbN.size)))
  have HPN := Lib.hid ((HPX.out.below hbN).below hAl)
  have HROW := Lib.hid (HVN.out.sf.row (B := A + 1 + 1 + 1 + 1) (Nat.le_refl _))
  have hnew := cells_new wN [.pointer (some ⟨C, 0, none⟩)] 43
  have HN := Lib.hid hnew
  have HSZ := Lib.hid hAl.size
  clear hnew hr kr hbN hAl HV HLX HMX HBX HPX
  obtain ⟨i0, hi, hz0, hz1, hz2⟩ := info_parts info_fr
  go_wp2_with (at_builtin; refine wpList_append_own _ rfl (.tmp 41) (.tmp 44) _ rfl (A + 1 + 1 + 1 + 1) 43 i0 _ 1 8 Tryd.underlying46 hi hz0 hz1 hz2 rfl (by decide) (.slice (some ⟨A + 1 + 1 + 1 + 1, 0, none⟩) 2 2) 2 [.pointer none, .pointer (some ⟨A + 1, 0, none⟩)] rfl HROW.out ⟨wN.heap.size, 0, none⟩ 1 1 [.pointer (some ⟨C, 0, none⟩)] rfl rfl HN.out (fun u hu => by rw [List.mem_singleton.1 hu]; rfl) (by unfold maxLen; omega) (by omega) (Nat.le_of_lt HVN.out.sf.lt) ?_; intro v' w4 hown' hgrow _; have HO4 := Lib.hid hown'; have HG4 := Lib.hid hgrow; clear hown' hgrow)
  have hrow := HO4.out
  have hgr := HG4.out
  have hWA0 := HWA0.out
  rcases hrow.2 with ⟨_, hn0⟩ | ⟨G, cp, cur, rfl, hG, hcur, _, _, _, _⟩
  · omega
  have HV := Lib.hid (HVN.out.grow HKN.out hgr hrow hcur)
  have hbg : Below W.heap.size W w4 := HBN.out.grown hgr HBN.out.size (fun k hk => by simp [Value.ownBlock] at hk; omega)
  have HBX := Lib.hid hbg
  have HLX := Lib.hid (HL.out.below hbg)
  have HMX := Lib.hid (HM.out.below hbg)
  have HPX := Lib.hid (show PM p m n D s.st s.ak s.k s.a s.f s.was s.is s.done w4 from HPN.out.keep (hgr.block p HPN.out.lt (by have := HPZ.out; simp [Value.ownBlock]; omega)) (hgr.block m HPN.out.own.lt (by have := HPZ.out; simp [Value.ownBlock]; omega)))
  clear hbg hrow hgr hG hcur hWA0 HO4 HG4 HVN HKN HBN HPN HROW HN HSZ hi hz0 hz1 hz2
  go_wp2_with fail
  ((with_reducible refine (newPark_no HS.out _).mono ?_); rintro e wN ⟨E, rfl, hr, kr, hbN⟩)
  have hAl := (Below.refl wN.heap.size wN).alloc (Nat.le_refl _) (.cells #[.pointer (some ⟨E, 0, none⟩)] 44)
  have HVN := Lib.hid ((HV.out.below hbN).below hAl)
  have HKN := Lib.hid (kr.below hAl)
  have HBN := Lib.hid ((HBX.out.trans (hbN.mono HBX.out.size)).trans (hAl.mono (Nat.le_trans HBX.out.size hbN.size)))
  have HPN := Lib.hid ((HPX.out.below hbN).below hAl)
  have HROW := Lib.hid (HVN.out.sp.row (B := A + 1 + 1 + 1 + 1 + 1) (Nat.le_refl _))
  have hnew := cells_new wN [.pointer (some ⟨E, 0, none⟩)] 44
  have HN := Lib.hid hnew
  have HSZ := Lib.hid hAl.size
  clear hnew hr kr hbN hAl HV HLX HMX HBX HPX
  obtain ⟨i0, hi, hz0, hz1, hz2⟩ := info_parts info_pk
  go_wp2_with (at_builtin; refine wpList_append_own _ rfl (.tmp 46) (.tmp 49) _ rfl (A + 1 + 1 + 1 + 1 + 1) 44 i0 _ 1 8 Tryd.underlying47 hi hz0 hz1 hz2 rfl (by decide) (.slice (some ⟨A + 1 + 1 + 1 + 1 + 1, 0, none⟩) 2 2) 2 [.pointer none, .pointer (some ⟨A + 1 + 1, 0, none⟩)] rfl HROW.out ⟨wN.heap.size, 0, none⟩ 1 1 [.pointer (some ⟨E, 0, none⟩)] rfl rfl HN.out (fun u hu => by rw [List.mem_singleton.1 hu]; rfl) (by unfold maxLen; omega) (by omega) (Nat.le_of_lt HVN.out.sp.lt) ?_; intro v' w4 hown' hgrow _; have HO4 := Lib.hid hown'; have HG4 := Lib.hid hgrow; clear hown' hgrow)
  have hrow := HO4.out
  have hgr := HG4.out
  have hWA0 := HWA0.out
  rcases hrow.2 with ⟨_, hn0⟩ | ⟨H, cp, cur, rfl, hG, hcur, _, _, _, _⟩
  · omega
  have HV := Lib.hid (HVN.out.grow HKN.out hgr hrow )
  have hbg : Below W.heap.size W w4 := HBN.out.grown hgr HBN.out.size (fun k hk => by simp [Value.ownBlock] at hk; omega)
  have HBX := Lib.hid hbg
  have HLX := Lib.hid (HL.out.below hbg)
  have HMX := Lib.hid (HM.out.below hbg)
  have HPX := Lib.hid (show PM p m n D s.st s.ak s.k s.a s.f s.was s.is s.done w4 from HPN.out.keep (hgr.block p HPN.out.lt (by have := HPZ.out; simp [Value.ownBlock]; omega)) (hgr.block m HPN.out.own.lt (by have := HPZ.out; simp [Value.ownBlock]; omega)))
  clear hbg hrow hgr hG hcur hWA0 HO4 HG4 HVN HKN HBN HPN HROW HN HSZ hi hz0 hz1 hz2
  generalize w4 = X9 at *
  refine wp_loop_rounds 3 ?_
  have c0 : X9.cell? ⟨A + 1 + 1 + 1, 0, none⟩ = some (.pointer none) := HV.out.sa.cell 0
  rw [rounds_succ]
  go_wp2_with fail
  ((with_reducible refine (gotAlloc_nil _).mono ?_); rintro e w2 ⟨rfl, hb2⟩)
  have HY := Lib.hid (hb2.alloc hb2.size (.cells #[.int .i64 (-1), .int .u32 0, .bool false] 34))
  have HV1 := Lib.hid (HV.out.below HY.out)
  have HL1 := Lib.hid (HLX.out.below HY.out)
  have HM1 := Lib.hid (HMX.out.below HY.out)
  have HB1 := Lib.hid (HBX.out.trans (HY.out.mono HBX.out.size))
  have HP1 := Lib.hid (HPX.out.below HY.out)
  have c0' : (w2.alloc (.cells #[.int .i64 (-1), .int .u32 0, .bool false] 34)).cell? ⟨A + 1 + 1 + 1, 0, none⟩ = some (.pointer none) := HV1.out.sa.cell 0
  have hne := neq_same (-1) 0 false (w2.alloc (.cells #[.int .i64 (-1), .int .u32 0, .bool false] 34))
  clear hb2 c0 HY HV HLX HMX HBX HPX
  have HV := HV1
  have HLX := HL1
  have HMX := HM1
  have HBX := HB1
  have HPX := HP1
  clear HV1 HL1 HM1 HB1 HP1
  go_wp2_with fail
  ((with_reducible refine (stepAlloc_nil _ _).mono ?_); rintro e w' ⟨rfl, rfl⟩)
  go_wp2_with fail
  ((with_reducible refine (overAlloc_nil _).mono ?_); rintro e w' ⟨rfl, rfl⟩)
  go_wp2_with fail
  revert HV HLX HMX HBX HPX
  clear hne c0'
  generalize w2.alloc (.cells #[.int .i64 (-1), .int .u32 0, .bool false] 34) = Y1
  intro HV HLX HMX HBX HPX
  have c0 : Y1.cell? ⟨A + 1 + 1 + 1, 1, none⟩ = some (.pointer (some ⟨A, 0, none⟩)) := HV.out.sa.cell 1
  rw [rounds_succ]
  go_wp2_with fail
  ((with_reducible refine (gotAlloc_no HV.out.a).mono ?_); rintro e w2 ⟨rfl, hb2⟩)
  have HY := Lib.hid (hb2.alloc hb2.size (.cells #[.int .i64 (-1), .int .u32 0, .bool false] 34))
  have HV1 := Lib.hid (HV.out.below HY.out)
  have HL1 := Lib.hid (HLX.out.below HY.out)
  have HM1 := Lib.hid (HMX.out.below HY.out)
  have HB1 := Lib.hid (HBX.out.trans (HY.out.mono HBX.out.size))
  have HP1 := Lib.hid (HPX.out.below HY.out)
  have c0' : (w2.alloc (.cells #[.int .i64 (-1), .int .u32 0, .bool false] 34)).cell? ⟨A + 1 + 1 + 1, 1, none⟩ = some (.pointer (some ⟨A, 0, none⟩)) := HV1.out.sa.cell 1
  have hne := neq_same (-1) 0 false (w2.alloc (.cells #[.int .i64 (-1), .int .u32 0, .bool false] 34))
  clear hb2 c0 HY HV HLX HMX HBX HPX
  have HV := HV1
  have HLX := HL1
  have HMX := HM1
  have HBX := HB1
  have HPX := HP1
  clear HV1 HL1 HM1 HB1 HP1
  go_wp2_with fail
  ((with_reducible refine (stepAlloc_over _ HV.out.a).mono ?_); rintro e w' ⟨rfl, rfl⟩)
  go_wp2_with fail
  ((with_reducible refine (overAlloc_yes HV.out.a).mono ?_); rintro e w' ⟨rfl, rfl⟩)
  go_wp2_with fail
  revert HV HLX HMX HBX HPX
  clear hne c0'
  generalize w2.alloc (.cells #[.int .i64 (-1), .int .u32 0, .bool false] 34) = Y2
  intro HV HLX HMX HBX HPX
  rw [rounds_succ]
  go_wp2_with fail
  have g0 : Y2.cell? ⟨G, 0, none⟩ = some (.pointer none) := HV.out.g0
  have h0 : Y2.cell? ⟨H, 0, none⟩ = some (.pointer none) := HV.out.h0
  have g1 : Y2.cell? ⟨G, 1, none⟩ = some (.pointer (some ⟨A + 1, 0, none⟩)) := HV.out.g1
  have h1 : Y2.cell? ⟨H, 1, none⟩ = some (.pointer (some ⟨A + 1 + 1, 0, none⟩)) := HV.out.h1
  have g2 : Y2.cell? ⟨G, 2, none⟩ = some (.pointer (some ⟨C, 0, none⟩)) := HV.out.g2
  have h2 : Y2.cell? ⟨H, 2, none⟩ = some (.pointer (some ⟨E, 0, none⟩)) := HV.out.h2
  refine wp_loop_rounds 4 ?_
  rw [rounds_succ]
  go_wp2_with fail
  ((with_reducible refine (stepFree_nil _ _).mono ?_); rintro e w' ⟨rfl, rfl⟩)
  go_wp2_with fail
  ((with_reducible refine (overFree_nil _).mono ?_); rintro e w' ⟨rfl, rfl⟩)
  go_wp2_with fail
  ((with_reducible refine (gotFree_nil _).mono ?_); rintro e w' ⟨rfl, rfl⟩)
  go_wp2_with fail
  ((with_reducible refine (stepPark_nil _ _).mono ?_); rintro e w' ⟨rfl, rfl⟩)
  go_wp2_with fail
  ((with_reducible refine (overPark_nil _).mono ?_); rintro e w' ⟨rfl, rfl⟩)
  go_wp2_with fail
  ((with_reducible refine (gotPark_nil _).mono ?_); rintro e w' ⟨rfl, rfl⟩)
  go_wp2_with fail
  rw [rounds_succ]
  go_wp2_with fail
  ((with_reducible refine (stepFree_over _ HV.out.f).mono ?_); rintro e w' ⟨rfl, rfl⟩)
  go_wp2_with fail
  ((with_reducible refine (overFree_yes HV.out.f).mono ?_); rintro e w' ⟨rfl, rfl⟩)
  go_wp2_with fail
  ((with_reducible refine (gotFree_any HV.out.f).mono ?_); rintro e w' ⟨rfl, rfl⟩)
  go_wp2_with fail
  ((with_reducible refine (stepPark_over _ HV.out.p).mono ?_); rintro e w' ⟨rfl, rfl⟩)
  go_wp2_with fail
  ((with_reducible refine (overPark_yes HV.out.p).mono ?_); rintro e w' ⟨rfl, rfl⟩)
  go_wp2_with fail
  ((with_reducible refine (gotPark_any HV.out.p).mono ?_); rintro e w' ⟨rfl, rfl⟩)
  go_wp2_with fail
  rw [rounds_succ]
  go_wp2_with fail
  ((with_reducible refine (stepFree_over _ HV.out.c).mono ?_); rintro e w' ⟨rfl, rfl⟩)
  go_wp2_with fail
  ((with_reducible refine (overFree_yes HV.out.c).mono ?_); rintro e w' ⟨rfl, rfl⟩)
  go_wp2_with fail
  ((with_reducible refine (gotFree_any HV.out.c).mono ?_); rintro e w' ⟨rfl, rfl⟩)
  go_wp2_with fail
  ((with_reducible refine (stepPark_over _ HV.out.e).mono ?_); rintro e w' ⟨rfl, rfl⟩)
  go_wp2_with fail
  ((with_reducible refine (overPark_yes HV.out.e).mono ?_); rintro e w' ⟨rfl, rfl⟩)
  go_wp2_with fail
  ((with_reducible refine (gotPark_any HV.out.e).mono ?_); rintro e w' ⟨rfl, rfl⟩)
  go_wp2_with fail
  rw [rounds_succ]
  go_wp2_with fail
  ((with_reducible refine (steps_prog p m n D s.st s.ak s.k s.a s.f s.was s.is s.done _ HPX.out).mono ?_); rintro e w' ⟨rfl, rfl⟩)
  go_wp2_with fail
  ((with_reducible refine (lives_any _ HLX.out HMX.out).mono ?_); rintro e w4 ⟨rfl, hb⟩)
  go_wp2_with fail
  go_ret
  exact ⟨rfl, HBX.out.trans (hb.mono HBX.out.size)⟩
set_option maxRecDepth 100000 in
set_option maxHeartbeats 8000000 in
theorem void_high (ao : Option Addr) (cap nn : Nat) (slot : Int) (W : World) (hL : Lay W) (hM : LayM W) (hn : nn ≤ 300) (h0 : 255 < slot)
    (hbeg : Calls Tryd.prog 7 #[.slice ao nn cap] W fun e W' => ∃ p m b, e = .returned (.agg #[.pointer (some ⟨p, 0, none⟩), .pointer (some ⟨b, 0, none⟩)]) ∧ Both p m b nn W' ∧ W.heap.size ≤ m ∧ m < p ∧ p < b ∧ Below W.heap.size W W') :
    Calls Tryd.prog 3 #[.slice ao nn cap, .int .i64 slot] W fun e W' => e = .returned (.bool true) ∧ Below W.heap.size W W' := by
  have HL := Lib.hid hL
  have HM := Lib.hid hM
  have hn' : (nn : Int) ≤ 300 := by omega
  have HS := Lib.hid (show slot < 0 ∨ 255 < slot by omega)
  have h00 : 0 ≤ slot := by omega
  clear hL hM
  go_enter Tryd.func3, Tryd.ntmps3
  go_wp2_with fail
  ((with_reducible refine hbeg.mono ?_); rintro e w1 ⟨p, m, b, rfl, ⟨n, D, s, L, hp, _, _, _, _, _⟩, _, _, _, hb1⟩)
  have HP := Lib.hid hp
  have HB := Lib.hid hb1
  clear hp hb1 hbeg
  have hfp := f_pair0 p b w1
  go_wp2_with fail
  ((with_reducible refine (steps_p HP.out).mono ?_); rintro e w' ⟨rfl, rfl⟩)
  go_wp2_with fail
  obtain ⟨hV, hX⟩ := vs_new w1
  have HV := Lib.hid hV
  have HX := Lib.hid hX
  clear hV hX
  have HLX := Lib.hid ((HL.out.below HB.out).below HX.out)
  have HMX := Lib.hid ((HM.out.below HB.out).below HX.out)
  have HBX := Lib.hid (HB.out.trans (HX.out.mono HB.out.size))
  have HPX := Lib.hid (HP.out.below HX.out)
  revert HV HX HLX HMX HBX HPX
  generalize ((((((w1.alloc (.cells #[.nilIface, .int .i64 0, .int .u32 0, .bool false, .bool false] 36)).alloc (.cells #[.nilIface, .int .i64 0, .int .u32 0, .int .u8 0] 39)).alloc (.cells #[.nilIface, .int .i64 0, .int .u32 0, .bool false] 41)).alloc (.cells #[.pointer none, .pointer (some ⟨w1.heap.size, 0, none⟩)] 42)).alloc (.cells #[.pointer none, .pointer (some ⟨w1.heap.size + 1, 0, none⟩)] 43)).alloc (.cells #[.pointer none, .pointer (some ⟨w1.heap.size + 1 + 1, 0, none⟩)] 44)) = X
  intro HV HX HLX HMX HBX HPX
  have HPZ := Lib.hid (show p < w1.heap.size ∧ m < w1.heap.size from ⟨HP.out.prog.lt, HP.out.prog.own.lt⟩)
  have HWA0 := Lib.hid HB.out.size
  have HPP := Lib.hid HPX.out.prog
  clear HX HP HB hfp HPX
  have HPX := HPP
  clear HPP
  generalize w1.heap.size = A at *
  ((with_reducible refine (newFree_no 1 HS.out X).mono ?_); rintro e wN ⟨C, rfl, hr, kr, hbN⟩)
  have hAl := (Below.refl wN.heap.size wN).alloc (Nat.le_refl _) (.cells #[.pointer (some ⟨C, 0, none⟩)] 43)
  have HVN := Lib.hid ((HV.out.below hbN).below hAl)
  have HKN := Lib.hid (kr.below hAl)
  have HBN := Lib.hid ((HBX.out.trans (hbN.mono HBX.out.size)).trans (hAl.mono (Nat.le_trans HBX.out.size hbN.size)))
  have HPN := Lib.hid ((HPX.out.below hbN).below hAl)
  have HROW := Lib.hid (HVN.out.sf.row (B := A + 1 + 1 + 1 + 1) (Nat.le_refl _))
  have hnew := cells_new wN [.pointer (some ⟨C, 0, none⟩)] 43
  have HN := Lib.hid hnew
  have HSZ := Lib.hid hAl.size
  clear hnew hr kr hbN hAl HV HLX HMX HBX HPX
  obtain ⟨i0, hi, hz0, hz1, hz2⟩ := info_parts info_fr
  go_wp2_with (at_builtin; refine wpList_append_own _ rfl (.tmp 41) (.tmp 44) _ rfl (A + 1 + 1 + 1 + 1) 43 i0 _ 1 8 Tryd.underlying46 hi hz0 hz1 hz2 rfl (by decide) (.slice (some ⟨A + 1 + 1 + 1 + 1, 0, none⟩) 2 2) 2 [.pointer none, .pointer (some ⟨A + 1, 0, none⟩)] rfl HROW.out ⟨wN.heap.size, 0, none⟩ 1 1 [.pointer (some ⟨C, 0, none⟩)] rfl rfl HN.out (fun u hu => by rw [List.mem_singleton.1 hu]; rfl) (by unfold maxLen; omega) (by omega) (Nat.le_of_lt HVN.out.sf.lt) ?_; intro v' w4 hown' hgrow _; have HO4 := Lib.hid hown'; have HG4 := Lib.hid hgrow; clear hown' hgrow)
  have hrow := HO4.out
  have hgr := HG4.out
  have hWA0 := HWA0.out
  rcases hrow.2 with ⟨_, hn0⟩ | ⟨G, cp, cur, rfl, hG, hcur, _, _, _, _⟩
  · omega
  have HV := Lib.hid (HVN.out.grow HKN.out hgr hrow hcur)
  have hbg : Below W.heap.size W w4 := HBN.out.grown hgr HBN.out.size (fun k hk => by simp [Value.ownBlock] at hk; omega)
  have HBX := Lib.hid hbg
  have HLX := Lib.hid (HL.out.below hbg)
  have HMX := Lib.hid (HM.out.below hbg)
  have HPX := Lib.hid (show PM p m n D s.st s.ak s.k s.a s.f s.was s.is s.done w4 from HPN.out.keep (hgr.block p HPN.out.lt (by have := HPZ.out; simp [Value.ownBlock]; omega)) (hgr.block m HPN.out.own.lt (by have := HPZ.out; simp [Value.ownBlock]; omega)))
  clear hbg hrow hgr hG hcur hWA0 HO4 HG4 HVN HKN HBN HPN HROW HN HSZ hi hz0 hz1 hz2
  go_wp2_with fail
  ((with_reducible refine (newPark_no HS.out _).mono ?_); rintro e wN ⟨E, rfl, hr, kr, hbN⟩)
  have hAl := (Below.refl wN.heap.size wN).alloc (Nat.le_refl _) (.cells #[.pointer (some ⟨E, 0, none⟩)] 44)
  have HVN := Lib.hid ((HV.out.below hbN).below hAl)
  have HKN := Lib.hid (kr.below hAl)
  have HBN := Lib.hid ((HBX.out.trans (hbN.mono HBX.out.size)).trans (hAl.mono (Nat.le_trans HBX.out.size hbN.size)))
  have HPN := Lib.hid ((HPX.out.below hbN).below hAl)
  have HROW := Lib.hid (HVN.out.sp.row (B := A + 1 + 1 + 1 + 1 + 1) (Nat.le_refl _))
  have hnew := cells_new wN [.pointer (some ⟨E, 0, none⟩)] 44
  have HN := Lib.hid hnew
  have HSZ := Lib.hid hAl.size
  clear hnew hr kr hbN hAl HV HLX HMX HBX HPX
  obtain ⟨i0, hi, hz0, hz1, hz2⟩ := info_parts info_pk
  go_wp2_with (at_builtin; refine wpList_append_own _ rfl (.tmp 46) (.tmp 49) _ rfl (A + 1 + 1 + 1 + 1 + 1) 44 i0 _ 1 8 Tryd.underlying47 hi hz0 hz1 hz2 rfl (by decide) (.slice (some ⟨A + 1 + 1 + 1 + 1 + 1, 0, none⟩) 2 2) 2 [.pointer none, .pointer (some ⟨A + 1 + 1, 0, none⟩)] rfl HROW.out ⟨wN.heap.size, 0, none⟩ 1 1 [.pointer (some ⟨E, 0, none⟩)] rfl rfl HN.out (fun u hu => by rw [List.mem_singleton.1 hu]; rfl) (by unfold maxLen; omega) (by omega) (Nat.le_of_lt HVN.out.sp.lt) ?_; intro v' w4 hown' hgrow _; have HO4 := Lib.hid hown'; have HG4 := Lib.hid hgrow; clear hown' hgrow)
  have hrow := HO4.out
  have hgr := HG4.out
  have hWA0 := HWA0.out
  rcases hrow.2 with ⟨_, hn0⟩ | ⟨H, cp, cur, rfl, hG, hcur, _, _, _, _⟩
  · omega
  have HV := Lib.hid (HVN.out.grow HKN.out hgr hrow )
  have hbg : Below W.heap.size W w4 := HBN.out.grown hgr HBN.out.size (fun k hk => by simp [Value.ownBlock] at hk; omega)
  have HBX := Lib.hid hbg
  have HLX := Lib.hid (HL.out.below hbg)
  have HMX := Lib.hid (HM.out.below hbg)
  have HPX := Lib.hid (show PM p m n D s.st s.ak s.k s.a s.f s.was s.is s.done w4 from HPN.out.keep (hgr.block p HPN.out.lt (by have := HPZ.out; simp [Value.ownBlock]; omega)) (hgr.block m HPN.out.own.lt (by have := HPZ.out; simp [Value.ownBlock]; omega)))
  clear hbg hrow hgr hG hcur hWA0 HO4 HG4 HVN HKN HBN HPN HROW HN HSZ hi hz0 hz1 hz2
  generalize w4 = X9 at *
  refine wp_loop_rounds 3 ?_
  have c0 : X9.cell? ⟨A + 1 + 1 + 1, 0, none⟩ = some (.pointer none) := HV.out.sa.cell 0
  rw [rounds_succ]
  go_wp2_with fail
  ((with_reducible refine (gotAlloc_nil _).mono ?_); rintro e w2 ⟨rfl, hb2⟩)
  have HY := Lib.hid (hb2.alloc hb2.size (.cells #[.int .i64 (-1), .int .u32 0, .bool false] 34))
  have HV1 := Lib.hid (HV.out.below HY.out)
  have HL1 := Lib.hid (HLX.out.below HY.out)
  have HM1 := Lib.hid (HMX.out.below HY.out)
  have HB1 := Lib.hid (HBX.out.trans (HY.out.mono HBX.out.size))
  have HP1 := Lib.hid (HPX.out.below HY.out)
  have c0' : (w2.alloc (.cells #[.int .i64 (-1), .int .u32 0, .bool false] 34)).cell? ⟨A + 1 + 1 + 1, 0, none⟩ = some (.pointer none) := HV1.out.sa.cell 0
  have hne := neq_same (-1) 0 false (w2.alloc (.cells #[.int .i64 (-1), .int .u32 0, .bool false] 34))
  clear hb2 c0 HY HV HLX HMX HBX HPX
  have HV := HV1
  have HLX := HL1
  have HMX := HM1
  have HBX := HB1
  have HPX := HP1
  clear HV1 HL1 HM1 HB1 HP1
  go_wp2_with fail
  ((with_reducible refine (stepAlloc_nil _ _).mono ?_); rintro e w' ⟨rfl, rfl⟩)
  go_wp2_with fail
  ((with_reducible refine (overAlloc_nil _).mono ?_); rintro e w' ⟨rfl, rfl⟩)
  go_wp2_with fail
  revert HV HLX HMX HBX HPX
  clear hne c0'
  generalize w2.alloc (.cells #[.int .i64 (-1), .int .u32 0, .bool false] 34) = Y1
  intro HV HLX HMX HBX HPX
  have c0 : Y1.cell? ⟨A + 1 + 1 + 1, 1, none⟩ = some (.pointer (some ⟨A, 0, none⟩)) := HV.out.sa.cell 1
  rw [rounds_succ]
  go_wp2_with fail
  ((with_reducible refine (gotAlloc_no HV.out.a).mono ?_); rintro e w2 ⟨rfl, hb2⟩)
  have HY := Lib.hid (hb2.alloc hb2.size (.cells #[.int .i64 (-1), .int .u32 0, .bool false] 34))
  have HV1 := Lib.hid (HV.out.below HY.out)
  have HL1 := Lib.hid (HLX.out.below HY.out)
  have HM1 := Lib.hid (HMX.out.below HY.out)
  have HB1 := Lib.hid (HBX.out.trans (HY.out.mono HBX.out.size))
  have HP1 := Lib.hid (HPX.out.below HY.out)
  have c0' : (w2.alloc (.cells #[.int .i64 (-1), .int .u32 0, .bool false] 34)).cell? ⟨A + 1 + 1 + 1, 1, none⟩ = some (.pointer (some ⟨A, 0, none⟩)) := HV1.out.sa.cell 1
  have hne := neq_same (-1) 0 false (w2.alloc (.cells #[.int .i64 (-1), .int .u32 0, .bool false] 34))
  clear hb2 c0 HY HV HLX HMX HBX HPX
  have HV := HV1
  have HLX := HL1
  have HMX := HM1
  have HBX := HB1
  have HPX := HP1
  clear HV1 HL1 HM1 HB1 HP1
  go_wp2_with fail
  ((with_reducible refine (stepAlloc_over _ HV.out.a).mono ?_); rintro e w' ⟨rfl, rfl⟩)
  go_wp2_with fail
  ((with_reducible refine (overAlloc_yes HV.out.a).mono ?_); rintro e w' ⟨rfl, rfl⟩)
  go_wp2_with fail
  revert HV HLX HMX HBX HPX
  clear hne c0'
  generalize w2.alloc (.cells #[.int .i64 (-1), .int .u32 0, .bool false] 34) = Y2
  intro HV HLX HMX HBX HPX
  rw [rounds_succ]
  go_wp2_with fail
  have g0 : Y2.cell? ⟨G, 0, none⟩ = some (.pointer none) := HV.out.g0
  have h0 : Y2.cell? ⟨H, 0, none⟩ = some (.pointer none) := HV.out.h0
  have g1 : Y2.cell? ⟨G, 1, none⟩ = some (.pointer (some ⟨A + 1, 0, none⟩)) := HV.out.g1
  have h1 : Y2.cell? ⟨H, 1, none⟩ = some (.pointer (some ⟨A + 1 + 1, 0, none⟩)) := HV.out.h1
  have g2 : Y2.cell? ⟨G, 2, none⟩ = some (.pointer (some ⟨C, 0, none⟩)) := HV.out.g2
  have h2 : Y2.cell? ⟨H, 2, none⟩ = some (.pointer (some ⟨E, 0, none⟩)) := HV.out.h2
  refine wp_loop_rounds 4 ?_
  rw [rounds_succ]
  go_wp2_with fail
  ((with_reducible refine (stepFree_nil _ _).mono ?_); rintro e w' ⟨rfl, rfl⟩)
  go_wp2_with fail
  ((with_reducible refine (overFree_nil _).mono ?_); rintro e w' ⟨rfl, rfl⟩)
  go_wp2_with fail
  ((with_reducible refine (gotFree_nil _).mono ?_); rintro e w' ⟨rfl, rfl⟩)
  go_wp2_with fail
  ((with_reducible refine (stepPark_nil _ _).mono ?_); rintro e w' ⟨rfl, rfl⟩)
  go_wp2_with fail
  ((with_reducible refine (overPark_nil _).mono ?_); rintro e w' ⟨rfl, rfl⟩)
  go_wp2_with fail
  ((with_reducible refine (gotPark_nil _).mono ?_); rintro e w' ⟨rfl, rfl⟩)
  go_wp2_with fail
  rw [rounds_succ]
  go_wp2_with fail
  ((with_reducible refine (stepFree_over _ HV.out.f).mono ?_); rintro e w' ⟨rfl, rfl⟩)
  go_wp2_with fail
  ((with_reducible refine (overFree_yes HV.out.f).mono ?_); rintro e w' ⟨rfl, rfl⟩)
  go_wp2_with fail
  ((with_reducible refine (gotFree_any HV.out.f).mono ?_); rintro e w' ⟨rfl, rfl⟩)
  go_wp2_with fail
  ((with_reducible refine (stepPark_over _ HV.out.p).mono ?_); rintro e w' ⟨rfl, rfl⟩)
  go_wp2_with fail
  ((with_reducible refine (overPark_yes HV.out.p).mono ?_); rintro e w' ⟨rfl, rfl⟩)
  go_wp2_with fail
  ((with_reducible refine (gotPark_any HV.out.p).mono ?_); rintro e w' ⟨rfl, rfl⟩)
  go_wp2_with fail
  rw [rounds_succ]
  go_wp2_with fail
  ((with_reducible refine (stepFree_over _ HV.out.c).mono ?_); rintro e w' ⟨rfl, rfl⟩)
  go_wp2_with fail
  ((with_reducible refine (overFree_yes HV.out.c).mono ?_); rintro e w' ⟨rfl, rfl⟩)
  go_wp2_with fail
  ((with_reducible refine (gotFree_any HV.out.c).mono ?_); rintro e w' ⟨rfl, rfl⟩)
  go_wp2_with fail
  ((with_reducible refine (stepPark_over _ HV.out.e).mono ?_); rintro e w' ⟨rfl, rfl⟩)
  go_wp2_with fail
  ((with_reducible refine (overPark_yes HV.out.e).mono ?_); rintro e w' ⟨rfl, rfl⟩)
  go_wp2_with fail
  ((with_reducible refine (gotPark_any HV.out.e).mono ?_); rintro e w' ⟨rfl, rfl⟩)
  go_wp2_with fail
  rw [rounds_succ]
  go_wp2_with fail
  ((with_reducible refine (steps_prog p m n D s.st s.ak s.k s.a s.f s.was s.is s.done _ HPX.out).mono ?_); rintro e w' ⟨rfl, rfl⟩)
  go_wp2_with fail
  ((with_reducible refine (lives_any _ HLX.out HMX.out).mono ?_); rintro e w4 ⟨rfl, hb⟩)
  go_wp2_with fail
  go_ret
  exact ⟨rfl, HBX.out.trans (hb.mono HBX.out.size)⟩
end Go.Proofs.YtlcbinckbkdgdaaDoor
