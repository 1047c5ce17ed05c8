/-
  The law TablesVoid, walked: it returns true and only makes memory of its own; condition: the tables as laid.
-/
import Derived.Test.YtodfjnpnfalioaaDoorTC3
import Derived.Test.YtodfjnpnfalioaaDoorD11
namespace Go.Proofs.YtodfjnpnfalioaaDoor
open Go.RowKit Go.Maps

theorem f_pair0 (p b : Nat) (w : World) : (Instr.field 27 (.agg #[.pointer (some ⟨p, 0, none⟩), .pointer (some ⟨b, 0, none⟩)]) 0).run Tryd.prog w = .ok (.pointer (some ⟨p, 0, none⟩)) w := by kernel_rfl
section
variable {q : Nat} {T : TypeId} {bl th wd en ow bs fd : Int} {tl : List Value} {w X : World}
theorem over0J (k : Bq q T (PC 0 bl th wd en tl) w) : Calls Tryd.prog 11 #[.pointer (some ⟨q, 0, none⟩)] w fun e w' => e = .returned (.bool true) ∧ w' = w := overJ k
theorem over0L (k : Bq q T (PC 0 bl th wd en tl) w) : Calls Tryd.prog 13 #[.pointer (some ⟨q, 0, none⟩)] w fun e w' => e = .returned (.bool true) ∧ w' = w := overL k
theorem got0J (k : Bq q 38 (PC 0 bl th wd en (JT ow bs fd false)) w) : Calls Tryd.prog 9 #[.pointer (some ⟨q, 0, none⟩)] w fun e w' => e = .returned (.tuple #[.int .i64 (-1), .int .i64 en]) ∧ w' = w := gotJ_no k
theorem got0L (k : Bq q 40 (PC 0 bl th wd en tl) w) : Calls Tryd.prog 14 #[.pointer (some ⟨q, 0, none⟩)] w fun e w' => e = .returned (.int .i64 en) ∧ w' = w := gotL k
end
/-- What the law made itself. -/
structure VT (A : Nat) (w : World) : Prop where
  j : Bq A 38 (PC 0 0 0 0 0 (JT 0 0 0 false)) w
  l : Bq (A + 1) 40 (PC 0 0 0 0 0 []) w
  js : Bq (A + 2) 30 [.pointer none, .pointer (some ⟨A, 0, none⟩)] w
  ls : Bq (A + 3) 31 [.pointer none, .pointer (some ⟨A + 1, 0, none⟩)] w
set_option maxHeartbeats 4000000 in
theorem refused_low (m : Value) (n : Int) (h : n < 0) (X : World) : Calls Tryd.prog 15 #[m, .int .i64 n] X fun e w' => e = .returned (.bool true) ∧ Below X.heap.size X w' := by
  go_enter Tryd.func15, Tryd.ntmps15
  go_wp2_with fail
  ((with_reducible refine (newJoin_bad n h X).mono ?_); rintro e Y ⟨q, rfl, _, k, hb⟩)
  have HK := Lib.hid k
  have HB := Lib.hid hb
  clear k hb
  go_wp2_with fail
  ((with_reducible refine (got0J HK.out).mono ?_); rintro e Y ⟨rfl, rfl⟩)
  go_wp2_with fail
  ((with_reducible refine (stepJ_over (T := 38) _ HK.out).mono ?_); rintro e Y ⟨rfl, rfl⟩)
  go_wp2_with fail
  ((with_reducible refine (over0J HK.out).mono ?_); rintro e Y ⟨rfl, rfl⟩)
  go_wp2_with fail
  ((with_reducible refine (newLeave_low n h _).mono ?_); rintro e Z ⟨q2, rfl, _, k2, hb2⟩)
  have HK2 := Lib.hid k2
  have HB2 := Lib.hid hb2
  clear k2 hb2
  go_wp2_with fail
  ((with_reducible refine (stepL_over (T := 40) _ HK2.out).mono ?_); rintro e Z ⟨rfl, rfl⟩)
  go_wp2_with fail
  ((with_reducible refine (over0L HK2.out).mono ?_); rintro e Z ⟨rfl, rfl⟩)
  go_wp2_with fail
  ((with_reducible refine (got0L HK2.out).mono ?_); rintro e Z ⟨rfl, rfl⟩)
  go_wp2_with fail
  go_ret
  exact ⟨rfl, HB.out.trans (HB2.out.mono HB.out.size)⟩
set_option maxHeartbeats 4000000 in
theorem refused_high (m : Value) (n : Int) (h : 16 ≤ n) (X : World) : Calls Tryd.prog 15 #[m, .int .i64 n] X fun e w' => e = .returned (.bool true) ∧ Below X.heap.size X w' := by
  have h0 : 0 ≤ n := by omega
  go_enter Tryd.func15, Tryd.ntmps15
  go_wp2_with fail
  ((with_reducible refine (newLeave_high n h0 h _).mono ?_); rintro e Z ⟨q2, rfl, _, k2, hb2⟩)
  have HK2 := Lib.hid k2
  have HB2 := Lib.hid hb2
  clear k2 hb2
  go_wp2_with fail
  ((with_reducible refine (stepL_over (T := 40) _ HK2.out).mono ?_); rintro e Z ⟨rfl, rfl⟩)
  go_wp2_with fail
  ((with_reducible refine (over0L HK2.out).mono ?_); rintro e Z ⟨rfl, rfl⟩)
  go_wp2_with fail
  ((with_reducible refine (got0L HK2.out).mono ?_); rintro e Z ⟨rfl, rfl⟩)
  go_wp2_with fail
  go_ret
  exact ⟨rfl, HB2.out⟩
set_option maxHeartbeats 4000000 in
theorem refused_none (m : Value) (n : Int) (h : 0 ≤ n) (h1 : n < 16) (X : World) : Calls Tryd.prog 15 #[m, .int .i64 n] X fun e w' => e = .returned (.bool true) ∧ Below X.heap.size X w' := by
  go_enter Tryd.func15, Tryd.ntmps15
  go_wp2_with fail
  go_ret
  exact ⟨rfl, .refl _ _⟩
theorem refused_any (m : Value) (n : Int) (X : World) : Calls Tryd.prog 15 #[m, .int .i64 n] X fun e w' => e = .returned (.bool true) ∧ Below X.heap.size X w' := by
  rcases (show n < 0 ∨ 16 ≤ n ∨ (0 ≤ n ∧ n < 16) by omega) with h | h | ⟨h, h1⟩
  · exact refused_low m n h X
  · exact refused_high m n h X
  · exact refused_none m n h h1 X
theorem void_long (ao : Option Addr) (cap nn : Nat) (n : Int) (W : World) (hL : Lay W) (hM : LayM W) (hn : 300 < nn) :
    Calls Tryd.prog 3 #[.slice ao nn cap, .int .i64 n] W fun e W' => e = .returned (.bool true) ∧ Below W.heap.size W W' := by
  have HL := Lib.hid hL
  have HM := Lib.hid hM
  have hn' : (300 : Int) < (nn : Int) := by omega
  clear hL hM
  go_enter Tryd.func3, Tryd.ntmps3
  go_wp2_with fail
  ((with_reducible refine (lives10_any HL.out HM.out).mono ?_); rintro e w4 ⟨rfl, hb⟩)
  go_wp2_with fail
  go_ret
  exact ⟨rfl, hb⟩
set_option maxRecDepth 100000 in
set_option maxHeartbeats 8000000 in
theorem void_good (ao : Option Addr) (cap nn : Nat) (n : Int) (W : World) (hL : Lay W) (hM : LayM W) (hn : nn ≤ 300) (_hw : (Lit.int .i64 n).wf = true)
    (hbeg : Calls Tryd.prog 7 #[.slice ao nn cap] W fun e W' => ∃ p m b, e = .returned (.agg #[.pointer (some ⟨p, 0, none⟩), .pointer (some ⟨b, 0, none⟩)]) ∧ Both p m b nn W' ∧ W.heap.size ≤ m ∧ m < p ∧ p < b ∧ Below W.heap.size W W') :
    Calls Tryd.prog 3 #[.slice ao nn cap, .int .i64 n] W fun e W' => e = .returned (.bool true) ∧ Below W.heap.size W W' := by
  have HL := Lib.hid hL
  have HM := Lib.hid hM
  have hn' : (nn : Int) ≤ 300 := by omega
  clear hL hM
  go_enter Tryd.func3, Tryd.ntmps3
  go_wp2_with fail
  ((with_reducible refine hbeg.mono ?_); rintro e w1 ⟨p, m, b, rfl, ⟨k, D, s, L, hp, _, _, _, _, _⟩, _, _, _, hb1⟩)
  have HP := Lib.hid hp.prog
  have HB := Lib.hid hb1
  clear hp hb1 hbeg
  have hfp := f_pair0 p b w1
  go_wp2_with fail
  ((with_reducible refine (steps_prog p m k D s.st s.ak s.k s.a s.f s.was s.is s.done w1 HP.out).mono ?_); rintro e w9 ⟨rfl, hq⟩)
  subst hq
  have hX : Below w1.heap.size w1 ((((w1.alloc (.cells #[.int .i64 0, .int .i64 0, .int .i64 0, .int .u64 0, .int .i64 0, .int .i64 0, .int .i64 0, .int .i64 0, .bool false] 38)).alloc (.cells #[.int .i64 0, .int .i64 0, .int .i64 0, .int .u64 0, .int .i64 0] 40)).alloc (.cells #[.pointer none, .pointer (some ⟨w1.heap.size, 0, none⟩)] 30)).alloc (.cells #[.pointer none, .pointer (some ⟨w1.heap.size + 1, 0, none⟩)] 31)) := (((((Below.refl _ _).alloc (Nat.le_refl _) _).alloc (by simp) _).alloc (by simp; omega) _).alloc (by simp; omega) _)
  have k0 : Bq w1.heap.size 38 (PC 0 0 0 0 0 (JT 0 0 0 false)) (w1.alloc (.cells #[.int .i64 0, .int .i64 0, .int .i64 0, .int .u64 0, .int .i64 0, .int .i64 0, .int .i64 0, .int .i64 0, .bool false] 38)) := Bq.new w1 (PC 0 0 0 0 0 (JT 0 0 0 false)) 38
  have k1 : Bq (w1.heap.size + 1) 40 (PC 0 0 0 0 0 []) ((w1.alloc (.cells #[.int .i64 0, .int .i64 0, .int .i64 0, .int .u64 0, .int .i64 0, .int .i64 0, .int .i64 0, .int .i64 0, .bool false] 38)).alloc (.cells #[.int .i64 0, .int .i64 0, .int .i64 0, .int .u64 0, .int .i64 0] 40)) := by
    have := Bq.new (w1.alloc (.cells #[.int .i64 0, .int .i64 0, .int .i64 0, .int .u64 0, .int .i64 0, .int .i64 0, .int .i64 0, .int .i64 0, .bool false] 38)) (PC 0 0 0 0 0 []) 40
    rw [World.size_alloc] at this
    exact this
  have k2 : Bq (w1.heap.size + 2) 30 [.pointer none, .pointer (some ⟨w1.heap.size, 0, none⟩)] (((w1.alloc (.cells #[.int .i64 0, .int .i64 0, .int .i64 0, .int .u64 0, .int .i64 0, .int .i64 0, .int .i64 0, .int .i64 0, .bool false] 38)).alloc (.cells #[.int .i64 0, .int .i64 0, .int .i64 0, .int .u64 0, .int .i64 0] 40)).alloc (.cells #[.pointer none, .pointer (some ⟨w1.heap.size, 0, none⟩)] 30)) := by
    have := Bq.new ((w1.alloc (.cells #[.int .i64 0, .int .i64 0, .int .i64 0, .int .u64 0, .int .i64 0, .int .i64 0, .int .i64 0, .int .i64 0, .bool false] 38)).alloc (.cells #[.int .i64 0, .int .i64 0, .int .i64 0, .int .u64 0, .int .i64 0] 40)) [.pointer none, .pointer (some ⟨w1.heap.size, 0, none⟩)] 30
    rw [World.size_alloc, World.size_alloc] at this
    exact this
  have k3 : Bq (w1.heap.size + 3) 31 [.pointer none, .pointer (some ⟨w1.heap.size + 1, 0, none⟩)] ((((w1.alloc (.cells #[.int .i64 0, .int .i64 0, .int .i64 0, .int .u64 0, .int .i64 0, .int .i64 0, .int .i64 0, .int .i64 0, .bool false] 38)).alloc (.cells #[.int .i64 0, .int .i64 0, .int .i64 0, .int .u64 0, .int .i64 0] 40)).alloc (.cells #[.pointer none, .pointer (some ⟨w1.heap.size, 0, none⟩)] 30)).alloc (.cells #[.pointer none, .pointer (some ⟨w1.heap.size + 1, 0, none⟩)] 31)) := by
    have := Bq.new (((w1.alloc (.cells #[.int .i64 0, .int .i64 0, .int .i64 0, .int .u64 0, .int .i64 0, .int .i64 0, .int .i64 0, .int .i64 0, .bool false] 38)).alloc (.cells #[.int .i64 0, .int .i64 0, .int .i64 0, .int .u64 0, .int .i64 0] 40)).alloc (.cells #[.pointer none, .pointer (some ⟨w1.heap.size, 0, none⟩)] 30)) [.pointer none, .pointer (some ⟨w1.heap.size + 1, 0, none⟩)] 31
    rw [World.size_alloc, World.size_alloc, World.size_alloc] at this
    exact this
  have al : ∀ (w : World) (o : Obj), Below w.heap.size w (w.alloc o) := fun w o => (Below.refl _ _).alloc (Nat.le_refl _) o
  have HV := Lib.hid (show VT w1.heap.size ((((w1.alloc (.cells #[.int .i64 0, .int .i64 0, .int .i64 0, .int .u64 0, .int .i64 0, .int .i64 0, .int .i64 0, .int .i64 0, .bool false] 38)).alloc (.cells #[.int .i64 0, .int .i64 0, .int .i64 0, .int .u64 0, .int .i64 0] 40)).alloc (.cells #[.pointer none, .pointer (some ⟨w1.heap.size, 0, none⟩)] 30)).alloc (.cells #[.pointer none, .pointer (some ⟨w1.heap.size + 1, 0, none⟩)] 31)) from ⟨((k0.below (al _ _)).below (al _ _)).below (al _ _), (k1.below (al _ _)).below (al _ _), k2.below (al _ _), k3⟩)
  have HX := Lib.hid hX
  have HPX := Lib.hid (HP.out.below hX)
  have HBZ := Lib.hid (HB.out.trans (HX.out.mono HB.out.size))
  clear hX k0 k1 k2 k3 al hfp
  go_wp2_with fail
  clear HX
  revert HV HPX HBZ
  generalize ((((w1.alloc (.cells #[.int .i64 0, .int .i64 0, .int .i64 0, .int .u64 0, .int .i64 0, .int .i64 0, .int .i64 0, .int .i64 0, .bool false] 38)).alloc (.cells #[.int .i64 0, .int .i64 0, .int .i64 0, .int .u64 0, .int .i64 0] 40)).alloc (.cells #[.pointer none, .pointer (some ⟨w1.heap.size, 0, none⟩)] 30)).alloc (.cells #[.pointer none, .pointer (some ⟨w1.heap.size + 1, 0, none⟩)] 31)) = Z
  generalize w1.heap.size = A at *
  intro HV HPX HBZ
  have c0 := HV.out.js.cell 0
  have c1 := HV.out.js.cell 1
  have s0 := HV.out.ls.cell 0
  have s1 := HV.out.ls.cell 1
  simp only [List.getElem?_cons_zero, List.getElem?_cons_succ] at c0 c1 s0 s1
  refine wp_loop_rounds 3 ?_
  rw [rounds_succ]
  go_wp2_with fail
  ((with_reducible refine (gotJ_nil _).mono ?_); rintro e Z ⟨rfl, rfl⟩)
  go_wp2_with fail
  ((with_reducible refine (stepJ_nil _ _).mono ?_); rintro e Z ⟨rfl, rfl⟩)
  go_wp2_with fail
  ((with_reducible refine (overJ_nil _).mono ?_); rintro e Z ⟨rfl, rfl⟩)
  go_wp2_with fail
  ((with_reducible refine (stepL_nil _ _).mono ?_); rintro e Z ⟨rfl, rfl⟩)
  go_wp2_with fail
  ((with_reducible refine (overL_nil _).mono ?_); rintro e Z ⟨rfl, rfl⟩)
  go_wp2_with fail
  ((with_reducible refine (gotL_nil _).mono ?_); rintro e Z ⟨rfl, rfl⟩)
  go_wp2_with fail
  rw [rounds_succ]
  go_wp2_with fail
  ((with_reducible refine (got0J HV.out.j).mono ?_); rintro e Z ⟨rfl, rfl⟩)
  go_wp2_with fail
  ((with_reducible refine (stepJ_over (T := 38) _ HV.out.j).mono ?_); rintro e Z ⟨rfl, rfl⟩)
  go_wp2_with fail
  ((with_reducible refine (over0J HV.out.j).mono ?_); rintro e Z ⟨rfl, rfl⟩)
  go_wp2_with fail
  ((with_reducible refine (stepL_over (T := 40) _ HV.out.l).mono ?_); rintro e Z ⟨rfl, rfl⟩)
  go_wp2_with fail
  ((with_reducible refine (over0L HV.out.l).mono ?_); rintro e Z ⟨rfl, rfl⟩)
  go_wp2_with fail
  ((with_reducible refine (got0L HV.out.l).mono ?_); rintro e Z ⟨rfl, rfl⟩)
  go_wp2_with fail
  rw [rounds_succ]
  go_wp2_with fail
  ((with_reducible refine (refused_any _ n Z).mono ?_); rintro e w4 ⟨rfl, hb4⟩)
  have HP4 := Lib.hid (HPX.out.below hb4)
  have HB4 := Lib.hid hb4
  clear hb4 c0 c1 s0 s1 HV HPX
  go_wp2_with fail
  ((with_reducible refine (steps_prog p m k D s.st s.ak s.k s.a s.f s.was s.is s.done w4 HP4.out).mono ?_); rintro e w9 ⟨rfl, hq⟩)
  subst hq
  have HBW := Lib.hid (show Below W.heap.size W w4 from HBZ.out.trans (HB4.out.mono HBZ.out.size))
  go_wp2_with fail
  ((with_reducible refine (lives10_any (HL.out.below HBW.out) (HM.out.below HBW.out)).mono ?_); rintro e w5 ⟨rfl, hb5⟩)
  go_wp2_with fail
  go_ret
  exact ⟨rfl, HBW.out.trans (hb5.mono HBW.out.size)⟩
end Go.Proofs.YtodfjnpnfalioaaDoor
