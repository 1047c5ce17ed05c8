/-
  The law BlocksVoid, walked: it returns true and only makes memory of its own; condition: the tables as laid.
-/
import Derived.Test.YtffkjdmpeeagoaaDoorBA6
import Derived.Test.YtffkjdmpeeagoaaDoorD6
namespace Go.Proofs.YtffkjdmpeeagoaaDoor
open Go.RowKit Go.Maps

theorem f_pair0 (p b : Nat) (w : World) : (Instr.field 28 (.agg #[.pointer (some ⟨p, 0, none⟩), .pointer (some ⟨b, 0, none⟩)]) 0).run Tryd.prog w = .ok (.pointer (some ⟨p, 0, none⟩)) w := by kernel_rfl
section
variable {q : Nat} {T : TypeId} {w X : World}
theorem over0M (k : Bq q T (KC 0 0 0 0) w) : Calls Tryd.prog 19 #[.pointer (some ⟨q, 0, none⟩)] w fun e w' => e = .returned (.bool true) ∧ w' = w := overKM k
theorem over0S (k : Bq q T (KC 0 0 0 0) w) : Calls Tryd.prog 22 #[.pointer (some ⟨q, 0, none⟩)] w fun e w' => e = .returned (.bool true) ∧ w' = w := overKS k
theorem got0M (k : Bq q T (KC 0 0 0 0) w) : Calls Tryd.prog 20 #[.pointer (some ⟨q, 0, none⟩)] w fun e w' => e = .returned (.int .i64 0) ∧ w' = w := gotKM k
theorem got0S (k : Bq q T (KC 0 0 0 0) w) : Calls Tryd.prog 23 #[.pointer (some ⟨q, 0, none⟩)] w fun e w' => e = .returned (.int .i64 0) ∧ w' = w := gotKS k
end
/-- What the law made itself. -/
structure VT (A : Nat) (w : World) : Prop where
  j : Bq A 57 (KC 0 0 0 0) w
  l : Bq (A + 1) 58 (KC 0 0 0 0) w
  js : Bq (A + 2) 40 [.pointer none, .pointer (some ⟨A, 0, none⟩)] w
  ls : Bq (A + 3) 44 [.pointer none, .pointer (some ⟨A + 1, 0, none⟩)] w
theorem void_long (ao : Option Addr) (cap nn : Nat) (W : World) (hL : Lay W) (hM : LayM W) (hn : 300 < nn) :
    Calls Tryd.prog 4 #[.slice ao nn cap] W fun e W' => e = .returned (.bool true) ∧ Below W.heap.size W W' := by
  have HL := Lib.hid hL
  have HM := Lib.hid hM
  have hn' : (300 : Int) < (nn : Int) := by omega
  clear hL hM
  go_enter Tryd.func4, Tryd.ntmps4
  go_wp2_with fail
  ((with_reducible refine (lives11_any HL.out HM.out).mono ?_); rintro e w4 ⟨rfl, hb⟩)
  go_wp2_with fail
  go_ret
  exact ⟨rfl, hb⟩
set_option maxRecDepth 100000 in
set_option maxHeartbeats 8000000 in
theorem void_good (ao : Option Addr) (cap nn : Nat) (W : World) (hL : Lay W) (hM : LayM W) (hn : nn ≤ 300)
    (hbeg : Calls Tryd.prog 9 #[.slice ao nn cap] W fun e W' => ∃ p m b, e = .returned (.agg #[.pointer (some ⟨p, 0, none⟩), .pointer (some ⟨b, 0, none⟩)]) ∧ Both p m b nn W' ∧ W.heap.size ≤ m ∧ m < p ∧ p < b ∧ Below W.heap.size W W') :
    Calls Tryd.prog 4 #[.slice ao nn cap] W fun e W' => e = .returned (.bool true) ∧ Below W.heap.size W W' := by
  have HL := Lib.hid hL
  have HM := Lib.hid hM
  have hn' : (nn : Int) ≤ 300 := by omega
  clear hL hM
  go_enter Tryd.func4, Tryd.ntmps4
  go_wp2_with fail
  ((with_reducible refine hbeg.mono ?_); rintro e w1 ⟨p, m, b, rfl, ⟨k, D, s, L, hp, _, _, _, _, _⟩, _, _, _, hb1⟩)
  have HP := Lib.hid hp.prog
  have HB := Lib.hid hb1
  clear hp hb1 hbeg
  have hfp := f_pair0 p b w1
  go_wp2_with fail
  ((with_reducible refine (steps_prog p m k D s.st s.ak s.k s.a s.f s.was s.is s.done w1 HP.out).mono ?_); rintro e w9 ⟨rfl, hq⟩)
  subst hq
  have hX : Below w1.heap.size w1 ((((w1.alloc (.cells #[.int .i64 0, .int .u64 0, .int .i64 0, .int .i64 0] 57)).alloc (.cells #[.int .i64 0, .int .u64 0, .int .i64 0, .int .i64 0] 58)).alloc (.cells #[.pointer none, .pointer (some ⟨w1.heap.size, 0, none⟩)] 40)).alloc (.cells #[.pointer none, .pointer (some ⟨w1.heap.size + 1, 0, none⟩)] 44)) := (((((Below.refl _ _).alloc (Nat.le_refl _) _).alloc (by simp) _).alloc (by simp; omega) _).alloc (by simp; omega) _)
  have k0 : Bq w1.heap.size 57 (KC 0 0 0 0) (w1.alloc (.cells #[.int .i64 0, .int .u64 0, .int .i64 0, .int .i64 0] 57)) := Bq.new w1 (KC 0 0 0 0) 57
  have k1 : Bq (w1.heap.size + 1) 58 (KC 0 0 0 0) ((w1.alloc (.cells #[.int .i64 0, .int .u64 0, .int .i64 0, .int .i64 0] 57)).alloc (.cells #[.int .i64 0, .int .u64 0, .int .i64 0, .int .i64 0] 58)) := by
    have := Bq.new (w1.alloc (.cells #[.int .i64 0, .int .u64 0, .int .i64 0, .int .i64 0] 57)) (KC 0 0 0 0) 58
    rw [World.size_alloc] at this
    exact this
  have k2 : Bq (w1.heap.size + 2) 40 [.pointer none, .pointer (some ⟨w1.heap.size, 0, none⟩)] (((w1.alloc (.cells #[.int .i64 0, .int .u64 0, .int .i64 0, .int .i64 0] 57)).alloc (.cells #[.int .i64 0, .int .u64 0, .int .i64 0, .int .i64 0] 58)).alloc (.cells #[.pointer none, .pointer (some ⟨w1.heap.size, 0, none⟩)] 40)) := by
    have := Bq.new ((w1.alloc (.cells #[.int .i64 0, .int .u64 0, .int .i64 0, .int .i64 0] 57)).alloc (.cells #[.int .i64 0, .int .u64 0, .int .i64 0, .int .i64 0] 58)) [.pointer none, .pointer (some ⟨w1.heap.size, 0, none⟩)] 40
    rw [World.size_alloc, World.size_alloc] at this
    exact this
  have k3 : Bq (w1.heap.size + 3) 44 [.pointer none, .pointer (some ⟨w1.heap.size + 1, 0, none⟩)] ((((w1.alloc (.cells #[.int .i64 0, .int .u64 0, .int .i64 0, .int .i64 0] 57)).alloc (.cells #[.int .i64 0, .int .u64 0, .int .i64 0, .int .i64 0] 58)).alloc (.cells #[.pointer none, .pointer (some ⟨w1.heap.size, 0, none⟩)] 40)).alloc (.cells #[.pointer none, .pointer (some ⟨w1.heap.size + 1, 0, none⟩)] 44)) := by
    have := Bq.new (((w1.alloc (.cells #[.int .i64 0, .int .u64 0, .int .i64 0, .int .i64 0] 57)).alloc (.cells #[.int .i64 0, .int .u64 0, .int .i64 0, .int .i64 0] 58)).alloc (.cells #[.pointer none, .pointer (some ⟨w1.heap.size, 0, none⟩)] 40)) [.pointer none, .pointer (some ⟨w1.heap.size + 1, 0, none⟩)] 44
    rw [World.size_alloc, World.size_alloc, World.size_alloc] at this
    exact this
  have al : ∀ (w : World) (o : Obj), Below w.heap.size w (w.alloc o) := fun w o => (Below.refl _ _).alloc (Nat.le_refl _) o
  have HV := Lib.hid (show VT w1.heap.size ((((w1.alloc (.cells #[.int .i64 0, .int .u64 0, .int .i64 0, .int .i64 0] 57)).alloc (.cells #[.int .i64 0, .int .u64 0, .int .i64 0, .int .i64 0] 58)).alloc (.cells #[.pointer none, .pointer (some ⟨w1.heap.size, 0, none⟩)] 40)).alloc (.cells #[.pointer none, .pointer (some ⟨w1.heap.size + 1, 0, none⟩)] 44)) from ⟨((k0.below (al _ _)).below (al _ _)).below (al _ _), (k1.below (al _ _)).below (al _ _), k2.below (al _ _), k3⟩)
  have HX := Lib.hid hX
  have HPX := Lib.hid (HP.out.below hX)
  have HBZ := Lib.hid (HB.out.trans (HX.out.mono HB.out.size))
  clear hX k0 k1 k2 k3 al hfp
  go_wp2_with fail
  clear HX
  revert HV HPX HBZ
  generalize ((((w1.alloc (.cells #[.int .i64 0, .int .u64 0, .int .i64 0, .int .i64 0] 57)).alloc (.cells #[.int .i64 0, .int .u64 0, .int .i64 0, .int .i64 0] 58)).alloc (.cells #[.pointer none, .pointer (some ⟨w1.heap.size, 0, none⟩)] 40)).alloc (.cells #[.pointer none, .pointer (some ⟨w1.heap.size + 1, 0, none⟩)] 44)) = Z
  generalize w1.heap.size = A at *
  intro HV HPX HBZ
  have c0 := HV.out.js.cell 0
  have c1 := HV.out.js.cell 1
  have s0 := HV.out.ls.cell 0
  have s1 := HV.out.ls.cell 1
  simp only [List.getElem?_cons_zero, List.getElem?_cons_succ] at c0 c1 s0 s1
  refine wp_loop_rounds 3 ?_
  rw [rounds_succ]
  go_wp2_with fail
  ((with_reducible refine (stepKM_nil _ _).mono ?_); rintro e Z ⟨rfl, rfl⟩)
  go_wp2_with fail
  ((with_reducible refine (overKM_nil _).mono ?_); rintro e Z ⟨rfl, rfl⟩)
  go_wp2_with fail
  ((with_reducible refine (gotKM_nil _).mono ?_); rintro e Z ⟨rfl, rfl⟩)
  go_wp2_with fail
  ((with_reducible refine (stepKS_nil _ _).mono ?_); rintro e Z ⟨rfl, rfl⟩)
  go_wp2_with fail
  ((with_reducible refine (overKS_nil _).mono ?_); rintro e Z ⟨rfl, rfl⟩)
  go_wp2_with fail
  ((with_reducible refine (gotKS_nil _).mono ?_); rintro e Z ⟨rfl, rfl⟩)
  go_wp2_with fail
  rw [rounds_succ]
  go_wp2_with fail
  ((with_reducible refine (stepKM_over (T := 57) _ HV.out.j).mono ?_); rintro e Z ⟨rfl, rfl⟩)
  go_wp2_with fail
  ((with_reducible refine (over0M HV.out.j).mono ?_); rintro e Z ⟨rfl, rfl⟩)
  go_wp2_with fail
  ((with_reducible refine (got0M HV.out.j).mono ?_); rintro e Z ⟨rfl, rfl⟩)
  go_wp2_with fail
  ((with_reducible refine (stepKS_over (T := 58) _ HV.out.l).mono ?_); rintro e Z ⟨rfl, rfl⟩)
  go_wp2_with fail
  ((with_reducible refine (over0S HV.out.l).mono ?_); rintro e Z ⟨rfl, rfl⟩)
  go_wp2_with fail
  ((with_reducible refine (got0S HV.out.l).mono ?_); rintro e Z ⟨rfl, rfl⟩)
  go_wp2_with fail
  rw [rounds_succ]
  go_wp2_with fail
  ((with_reducible refine (steps_prog p m k D s.st s.ak s.k s.a s.f s.was s.is s.done Z HPX.out).mono ?_); rintro e w9 ⟨rfl, hq⟩)
  subst hq
  have HBW := Lib.hid (show Below W.heap.size W Z from HBZ.out)
  go_wp2_with fail
  ((with_reducible refine (lives11_any (HL.out.below HBW.out) (HM.out.below HBW.out)).mono ?_); rintro e w5 ⟨rfl, hb5⟩)
  go_wp2_with fail
  go_ret
  exact ⟨rfl, HBW.out.trans (hb5.mono HBW.out.size)⟩
end Go.Proofs.YtffkjdmpeeagoaaDoor
