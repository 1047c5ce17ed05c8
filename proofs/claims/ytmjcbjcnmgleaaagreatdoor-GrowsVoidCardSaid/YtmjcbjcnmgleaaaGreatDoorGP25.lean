/-
  The law GrowsVoid, walked: it returns true and only makes memory of its own; condition: the tables as laid.
-/
import Derived.Test.YtmjcbjcnmgleaaaGreatDoorGP22
import Derived.Test.YtmjcbjcnmgleaaaGreatDoorD4
namespace Go.Proofs.YtmjcbjcnmgleaaaGreatDoor
open Go.RowKit Go.Maps

theorem f_pair9 (p b : Nat) (w : World) : (Instr.field 28 (.agg #[.pointer (some ⟨p, 0, none⟩), .pointer (some ⟨b, 0, none⟩)]) 0).run Tryz.prog w = .ok (.pointer (some ⟨p, 0, none⟩)) w := by kernel_rfl
section
variable {nx sg sl ws en nx2 sg2 sl2 ws2 : Int} {pt pt2 : Value} {tl tl2 : List Value} {q r : Nat} {T T2 : TypeId} {m : Value} {w : World}
theorem got0Grow (k : Bq q T (TC 0 pt sg sl ws en tl) w) : Calls Tryz.prog 40 #[.pointer (some ⟨q, 0, none⟩)] w fun e w' => e = .returned (.int .i64 en) ∧ w' = w := gotGrow k
theorem got0Shrink (k : Bq q T (TC 0 pt sg sl ws en tl) w) : Calls Tryz.prog 37 #[.pointer (some ⟨q, 0, none⟩)] w fun e w' => e = .returned (.int .i64 en) ∧ w' = w := gotShrink k
theorem idle_nil (m : Value) (w : World) : Calls Tryz.prog 18 #[m, .pointer none, .pointer none, .int .i64 0] w fun e w' => e = .returned (.bool true) ∧ w' = w := by
  go_enter Tryz.func18, Tryz.ntmps18
  go_wp2_with fail
  ((with_reducible refine (overGrow_nil _).mono ?_); rintro e w' ⟨rfl, rfl⟩)
  go_wp2_with fail
  ((with_reducible refine (stepGrow_nil _ _).mono ?_); rintro e w' ⟨rfl, rfl⟩)
  go_wp2_with fail
  ((with_reducible refine (gotGrow_nil _).mono ?_); rintro e w' ⟨rfl, rfl⟩)
  go_wp2_with fail
  ((with_reducible refine (overShrink_nil _).mono ?_); rintro e w' ⟨rfl, rfl⟩)
  go_wp2_with fail
  ((with_reducible refine (stepShrink_nil _ _).mono ?_); rintro e w' ⟨rfl, rfl⟩)
  go_wp2_with fail
  ((with_reducible refine (gotShrink_nil _).mono ?_); rintro e w' ⟨rfl, rfl⟩)
  go_wp2_with fail
  go_ret
  exact ⟨rfl, rfl⟩
theorem idle_two {e9 : Int} (k : Bq q T (TC 0 pt sg sl ws e9 tl) w) (j : Bq r T2 (TC 0 pt2 sg2 sl2 ws2 e9 tl2) w) : Calls Tryz.prog 18 #[m, .pointer (some ⟨q, 0, none⟩), .pointer (some ⟨r, 0, none⟩), .int .i64 e9] w fun e w' => e = .returned (.bool true) ∧ w' = w := by
  have HK := Lib.hid k
  have HJ := Lib.hid j
  clear k j
  go_enter Tryz.func18, Tryz.ntmps18
  go_wp2_with fail
  ((with_reducible refine (overGrow HK.out).mono ?_); rintro e w' ⟨rfl, rfl⟩)
  go_wp2_with fail
  ((with_reducible refine (stepGrow_over _ HK.out).mono ?_); rintro e w' ⟨rfl, rfl⟩)
  go_wp2_with fail
  ((with_reducible refine (got0Grow HK.out).mono ?_); rintro e w' ⟨rfl, rfl⟩)
  go_wp2_with fail
  ((with_reducible refine (overShrink HJ.out).mono ?_); rintro e w' ⟨rfl, rfl⟩)
  go_wp2_with fail
  ((with_reducible refine (stepShrink_over _ HJ.out).mono ?_); rintro e w' ⟨rfl, rfl⟩)
  go_wp2_with fail
  ((with_reducible refine (got0Shrink HJ.out).mono ?_); rintro e w' ⟨rfl, rfl⟩)
  go_wp2_with fail
  go_ret
  exact ⟨rfl, rfl⟩
end
/-- Both zero operations. -/
theorem void_new (w : World) : Bq w.heap.size 60 (TC 0 .nilIface 0 0 0 0 []) ((w.alloc (.cells #[.int .i64 0, .nilIface, .int .i64 0, .int .i64 0, .int .u64 0, .int .i64 0] 60)).alloc (.cells #[.int .i64 0, .nilIface, .int .i64 0, .int .i64 0, .int .u64 0, .int .i64 0, .int .i64 0, .slice none 0 0] 63)) ∧ Bq (w.heap.size + 1) 63 (TC 0 .nilIface 0 0 0 0 [.int .i64 0, .slice none 0 0]) ((w.alloc (.cells #[.int .i64 0, .nilIface, .int .i64 0, .int .i64 0, .int .u64 0, .int .i64 0] 60)).alloc (.cells #[.int .i64 0, .nilIface, .int .i64 0, .int .i64 0, .int .u64 0, .int .i64 0, .int .i64 0, .slice none 0 0] 63)) ∧ Below w.heap.size w ((w.alloc (.cells #[.int .i64 0, .nilIface, .int .i64 0, .int .i64 0, .int .u64 0, .int .i64 0] 60)).alloc (.cells #[.int .i64 0, .nilIface, .int .i64 0, .int .i64 0, .int .u64 0, .int .i64 0, .int .i64 0, .slice none 0 0] 63)) := by
  have k1 : Bq w.heap.size 60 (TC 0 .nilIface 0 0 0 0 []) (w.alloc (.cells #[.int .i64 0, .nilIface, .int .i64 0, .int .i64 0, .int .u64 0, .int .i64 0] 60)) := Bq.new w (TC 0 .nilIface 0 0 0 0 []) _
  have k2 : Bq _ 63 (TC 0 .nilIface 0 0 0 0 [.int .i64 0, .slice none 0 0]) ((w.alloc (.cells #[.int .i64 0, .nilIface, .int .i64 0, .int .i64 0, .int .u64 0, .int .i64 0] 60)).alloc (.cells #[.int .i64 0, .nilIface, .int .i64 0, .int .i64 0, .int .u64 0, .int .i64 0, .int .i64 0, .slice none 0 0] 63)) := Bq.new _ (TC 0 .nilIface 0 0 0 0 [.int .i64 0, .slice none 0 0]) _
  rw [World.size_alloc] at k2
  exact ⟨k1.al _, k2, bl_al (bl_al (Below.refl _ w) _) _⟩
set_option maxRecDepth 100000 in
set_option maxHeartbeats 8000000 in
theorem void_good (ao : Option Addr) (cap nn : Nat) (n lk : Int) (W : World) (hL : Lay W) (hM : LayM W) (hn : nn ≤ 300) (h0 : 0 ≤ n) (h1 : n < 32)
    (hbeg : Calls Tryz.prog 8 #[.slice ao nn cap] W fun e W' => ∃ p m b, e = .returned (.agg #[.pointer (some ⟨p, 0, none⟩), .pointer (some ⟨b, 0, none⟩)]) ∧ Both p m b nn W' ∧ W.heap.size ≤ m ∧ m < p ∧ p < b ∧ Below W.heap.size W W') :
    Calls Tryz.prog 4 #[.slice ao nn cap, .int .i64 n, .int .i64 lk] W fun e W' => e = .returned (.bool true) ∧ Below W.heap.size W W' := by
  have HL := Lib.hid hL
  have HM := Lib.hid hM
  have hn' : (nn : Int) ≤ 300 := by omega
  have hx0 : ¬ n < 0 := by omega
  have hx1 : ¬ 32 ≤ n := by omega
  clear hL hM
  go_enter Tryz.func4, Tryz.ntmps4
  go_wp2_with fail
  ((with_reducible refine hbeg.mono ?_); rintro e w1 ⟨p, m, b, rfl, ⟨n0, D, s, L, hp, _, _, _, _, _⟩, _, _, _, hb1⟩)
  have HP := Lib.hid hp
  have HB := Lib.hid hb1
  clear hp hb1 hbeg
  have hfp := f_pair9 p b w1
  go_wp2_with fail
  ((with_reducible refine (steps_p HP.out).mono ?_); rintro e w' ⟨rfl, rfl⟩)
  go_wp2_with fail
  obtain ⟨hG, hS, hX⟩ := void_new w1
  have HG := Lib.hid hG
  have HS := Lib.hid hS
  have HX := Lib.hid hX
  clear hG hS hX
  have HLX := Lib.hid ((HL.out.below HB.out).below HX.out)
  have HMX := Lib.hid ((HM.out.below HB.out).below HX.out)
  have HBX := Lib.hid (HB.out.trans (HX.out.mono HB.out.size))
  have HPX := Lib.hid (HP.out.below HX.out).prog
  revert HG HS HX HLX HMX HBX HPX
  generalize (w1.alloc (.cells #[.int .i64 0, .nilIface, .int .i64 0, .int .i64 0, .int .u64 0, .int .i64 0] 60)).alloc (.cells #[.int .i64 0, .nilIface, .int .i64 0, .int .i64 0, .int .u64 0, .int .i64 0, .int .i64 0, .slice none 0 0] 63) = X
  intro HG HS HX HLX HMX HBX HPX
  clear HX HP HB hfp
  generalize w1.heap.size = A at *
  ((with_reducible refine (idle_nil _ _).mono ?_); rintro e w' ⟨rfl, rfl⟩)
  go_wp2_with fail
  ((with_reducible refine (idle_two HG.out HS.out).mono ?_); rintro e w' ⟨rfl, rfl⟩)
  go_wp2_with fail
  ((with_reducible refine (steps_prog p m n0 D s.st s.ak s.k s.a s.f s.was s.is s.done _ HPX.out).mono ?_); rintro e w' ⟨rfl, rfl⟩)
  go_wp2_with fail
  ((with_reducible refine (lives9_any _ HLX.out HMX.out).mono ?_); rintro e w4 ⟨rfl, hb⟩)
  go_wp2_with fail
  go_ret
  exact ⟨rfl, HBX.out.trans (hb.mono HBX.out.size)⟩
set_option maxRecDepth 100000 in
set_option maxHeartbeats 8000000 in
theorem void_low (ao : Option Addr) (cap nn : Nat) (n lk : Int) (W : World) (hL : Lay W) (hM : LayM W) (hn : nn ≤ 300) (h0 : n < 0)
    (hbeg : Calls Tryz.prog 8 #[.slice ao nn cap] W fun e W' => ∃ p m b, e = .returned (.agg #[.pointer (some ⟨p, 0, none⟩), .pointer (some ⟨b, 0, none⟩)]) ∧ Both p m b nn W' ∧ W.heap.size ≤ m ∧ m < p ∧ p < b ∧ Below W.heap.size W W') :
    Calls Tryz.prog 4 #[.slice ao nn cap, .int .i64 n, .int .i64 lk] W fun e W' => e = .returned (.bool true) ∧ Below W.heap.size W W' := by
  have HL := Lib.hid hL
  have HM := Lib.hid hM
  have hn' : (nn : Int) ≤ 300 := by omega
  have HBAD := Lib.hid (show n < 0 ∨ 32 ≤ n from .inl h0)
  clear hL hM
  go_enter Tryz.func4, Tryz.ntmps4
  go_wp2_with fail
  ((with_reducible refine hbeg.mono ?_); rintro e w1 ⟨p, m, b, rfl, ⟨n0, D, s, L, hp, _, _, _, _, _⟩, _, _, _, hb1⟩)
  have HP := Lib.hid hp
  have HB := Lib.hid hb1
  clear hp hb1 hbeg
  have hfp := f_pair9 p b w1
  go_wp2_with fail
  ((with_reducible refine (steps_p HP.out).mono ?_); rintro e w' ⟨rfl, rfl⟩)
  go_wp2_with fail
  obtain ⟨hG, hS, hX⟩ := void_new w1
  have HG := Lib.hid hG
  have HS := Lib.hid hS
  have HX := Lib.hid hX
  clear hG hS hX
  have HLX := Lib.hid ((HL.out.below HB.out).below HX.out)
  have HMX := Lib.hid ((HM.out.below HB.out).below HX.out)
  have HBX := Lib.hid (HB.out.trans (HX.out.mono HB.out.size))
  have HPX := Lib.hid (HP.out.below HX.out).prog
  revert HG HS HX HLX HMX HBX HPX
  generalize (w1.alloc (.cells #[.int .i64 0, .nilIface, .int .i64 0, .int .i64 0, .int .u64 0, .int .i64 0] 60)).alloc (.cells #[.int .i64 0, .nilIface, .int .i64 0, .int .i64 0, .int .u64 0, .int .i64 0, .int .i64 0, .slice none 0 0] 63) = X
  intro HG HS HX HLX HMX HBX HPX
  clear HX HP HB hfp
  generalize w1.heap.size = A at *
  ((with_reducible refine (idle_nil _ _).mono ?_); rintro e w' ⟨rfl, rfl⟩)
  go_wp2_with fail
  ((with_reducible refine (idle_two HG.out HS.out).mono ?_); rintro e w' ⟨rfl, rfl⟩)
  go_wp2_with fail
  ((with_reducible refine (newGrow_bad HBAD.out _).mono ?_); rintro e w2 ⟨q, rfl, hq, kq, hb2⟩)
  have HKQ := Lib.hid kq
  have HLY := Lib.hid (HLX.out.below hb2)
  have HMY := Lib.hid (HMX.out.below hb2)
  have HBY := Lib.hid (HBX.out.trans (hb2.mono HBX.out.size))
  have HPY := Lib.hid (HPX.out.below hb2)
  clear hq kq hb2 HLX HMX HBX HPX
  go_wp2_with fail
  ((with_reducible refine (newShrink_bad HBAD.out lk _).mono ?_); rintro e w3 ⟨r, rfl, hr, kr, hb3⟩)
  have HKR := Lib.hid kr
  have HKQ3 := Lib.hid (HKQ.out.below hb3)
  have HLX := Lib.hid (HLY.out.below hb3)
  have HMX := Lib.hid (HMY.out.below hb3)
  have HBX := Lib.hid (HBY.out.trans (hb3.mono HBY.out.size))
  have HPX := Lib.hid (HPY.out.below hb3)
  clear hr kr hb3 HLY HMY HBY HPY HKQ
  go_wp2_with fail
  ((with_reducible refine (idle_two HKQ3.out HKR.out).mono ?_); rintro e w' ⟨rfl, rfl⟩)
  go_wp2_with fail
  ((with_reducible refine (steps_prog p m n0 D s.st s.ak s.k s.a s.f s.was s.is s.done _ HPX.out).mono ?_); rintro e w' ⟨rfl, rfl⟩)
  go_wp2_with fail
  ((with_reducible refine (lives9_any _ HLX.out HMX.out).mono ?_); rintro e w4 ⟨rfl, hb⟩)
  go_wp2_with fail
  go_ret
  exact ⟨rfl, HBX.out.trans (hb.mono HBX.out.size)⟩
set_option maxRecDepth 100000 in
set_option maxHeartbeats 8000000 in
theorem void_high (ao : Option Addr) (cap nn : Nat) (n lk : Int) (W : World) (hL : Lay W) (hM : LayM W) (hn : nn ≤ 300) (h0 : 32 ≤ n)
    (hbeg : Calls Tryz.prog 8 #[.slice ao nn cap] W fun e W' => ∃ p m b, e = .returned (.agg #[.pointer (some ⟨p, 0, none⟩), .pointer (some ⟨b, 0, none⟩)]) ∧ Both p m b nn W' ∧ W.heap.size ≤ m ∧ m < p ∧ p < b ∧ Below W.heap.size W W') :
    Calls Tryz.prog 4 #[.slice ao nn cap, .int .i64 n, .int .i64 lk] W fun e W' => e = .returned (.bool true) ∧ Below W.heap.size W W' := by
  have HL := Lib.hid hL
  have HM := Lib.hid hM
  have hn' : (nn : Int) ≤ 300 := by omega
  have HBAD := Lib.hid (show n < 0 ∨ 32 ≤ n from .inr h0)
  have hx0 : ¬ n < 0 := by omega
  clear hL hM
  go_enter Tryz.func4, Tryz.ntmps4
  go_wp2_with fail
  ((with_reducible refine hbeg.mono ?_); rintro e w1 ⟨p, m, b, rfl, ⟨n0, D, s, L, hp, _, _, _, _, _⟩, _, _, _, hb1⟩)
  have HP := Lib.hid hp
  have HB := Lib.hid hb1
  clear hp hb1 hbeg
  have hfp := f_pair9 p b w1
  go_wp2_with fail
  ((with_reducible refine (steps_p HP.out).mono ?_); rintro e w' ⟨rfl, rfl⟩)
  go_wp2_with fail
  obtain ⟨hG, hS, hX⟩ := void_new w1
  have HG := Lib.hid hG
  have HS := Lib.hid hS
  have HX := Lib.hid hX
  clear hG hS hX
  have HLX := Lib.hid ((HL.out.below HB.out).below HX.out)
  have HMX := Lib.hid ((HM.out.below HB.out).below HX.out)
  have HBX := Lib.hid (HB.out.trans (HX.out.mono HB.out.size))
  have HPX := Lib.hid (HP.out.below HX.out).prog
  revert HG HS HX HLX HMX HBX HPX
  generalize (w1.alloc (.cells #[.int .i64 0, .nilIface, .int .i64 0, .int .i64 0, .int .u64 0, .int .i64 0] 60)).alloc (.cells #[.int .i64 0, .nilIface, .int .i64 0, .int .i64 0, .int .u64 0, .int .i64 0, .int .i64 0, .slice none 0 0] 63) = X
  intro HG HS HX HLX HMX HBX HPX
  clear HX HP HB hfp
  generalize w1.heap.size = A at *
  ((with_reducible refine (idle_nil _ _).mono ?_); rintro e w' ⟨rfl, rfl⟩)
  go_wp2_with fail
  ((with_reducible refine (idle_two HG.out HS.out).mono ?_); rintro e w' ⟨rfl, rfl⟩)
  go_wp2_with fail
  ((with_reducible refine (newGrow_bad HBAD.out _).mono ?_); rintro e w2 ⟨q, rfl, hq, kq, hb2⟩)
  have HKQ := Lib.hid kq
  have HLY := Lib.hid (HLX.out.below hb2)
  have HMY := Lib.hid (HMX.out.below hb2)
  have HBY := Lib.hid (HBX.out.trans (hb2.mono HBX.out.size))
  have HPY := Lib.hid (HPX.out.below hb2)
  clear hq kq hb2 HLX HMX HBX HPX
  go_wp2_with fail
  ((with_reducible refine (newShrink_bad HBAD.out lk _).mono ?_); rintro e w3 ⟨r, rfl, hr, kr, hb3⟩)
  have HKR := Lib.hid kr
  have HKQ3 := Lib.hid (HKQ.out.below hb3)
  have HLX := Lib.hid (HLY.out.below hb3)
  have HMX := Lib.hid (HMY.out.below hb3)
  have HBX := Lib.hid (HBY.out.trans (hb3.mono HBY.out.size))
  have HPX := Lib.hid (HPY.out.below hb3)
  clear hr kr hb3 HLY HMY HBY HPY HKQ
  go_wp2_with fail
  ((with_reducible refine (idle_two HKQ3.out HKR.out).mono ?_); rintro e w' ⟨rfl, rfl⟩)
  go_wp2_with fail
  ((with_reducible refine (steps_prog p m n0 D s.st s.ak s.k s.a s.f s.was s.is s.done _ HPX.out).mono ?_); rintro e w' ⟨rfl, rfl⟩)
  go_wp2_with fail
  ((with_reducible refine (lives9_any _ HLX.out HMX.out).mono ?_); rintro e w4 ⟨rfl, hb⟩)
  go_wp2_with fail
  go_ret
  exact ⟨rfl, HBX.out.trans (hb.mono HBX.out.size)⟩
theorem void_long (ao : Option Addr) (cap nn : Nat) (n lk : Int) (W : World) (hL : Lay W) (hM : LayM W) (hn : 300 < nn) :
    Calls Tryz.prog 4 #[.slice ao nn cap, .int .i64 n, .int .i64 lk] W fun e W' => e = .returned (.bool true) ∧ Below W.heap.size W W' := by
  have HL := Lib.hid hL
  have HM := Lib.hid hM
  have hn' : (300 : Int) < (nn : Int) := by omega
  clear hL hM
  go_enter Tryz.func4, Tryz.ntmps4
  go_wp2_with fail
  ((with_reducible refine (lives9_any W HL.out HM.out).mono ?_); rintro e w4 ⟨rfl, hb⟩)
  go_wp2_with fail
  go_ret
  exact ⟨rfl, hb⟩
end Go.Proofs.YtmjcbjcnmgleaaaGreatDoor
