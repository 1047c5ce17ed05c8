/-
  The document's memory of layer 2; The keys of the program's map of words, as they come one by ; conditions as each theorem says.
-/
import Derived.Test.YtmjcbjcnmgleaaaGreatDoorXP05
import Derived.Test.YtmjcbjcnmgleaaaGreatDoorXP02
import Derived.RangeFuncNested
import Derived.RangeFuncBound
import Derived.RangeFuncCalls
import Derived.RangeFuncLeaves
import Derived.RangeFuncStops
import Derived.Shelf.Abstract
import Derived.Shelf.RegionOpen
import Derived.OwnWalkIn
import Derived.TacticsInMore
import Derived.LoopNIn
import Derived.LoopIn
import Derived.Sort.MapsRangeIn
namespace Go.Proofs.YtmjcbjcnmgleaaaGreatDoor
open Go.RowKit
set_option maxHeartbeats 1000000 in
theorem cas_done (B b : Nat) (l : List Wd) (v : Value) (st ak k' a' f' was is : Int) (done : Bool) (k a f y x : Int) (w : World) (h : R2 B b l v (rest8 st ak k' a' f' was is done) w) (hn : l.length ≤ 4999) (hBb : B ≤ b) (hBw : B ≤ w.heap.size) (hs0 : 0 ≤ st) (hs1 : st < 4611686018427387904) (hy : (look l k a f == y) = true) (hm : mayB k a f = true) :
    Calls Tryz.prog 70 #[.pointer (some ⟨b, 0, none⟩), .agg #[.int .u8 k, .int .i64 a, .int .i64 f], .int .u64 y, .int .u64 x] w fun e w' => e = .returned (.bool true) ∧ (∃ v', R2 B b (putM l k a f x) v' (rest8 (st + 1) 3 k a f (look l k a f) (look (putM l k a f x) k a f) true) w') ∧ Sp B b v w w' := by
  have hbb : Below w.heap.size w (w.alloc (.cells #[.int .u8 k, .int .i64 a, .int .i64 f] 33)) := (Below.refl _ _).alloc (Nat.le_refl _) _
  have hblk : (w.alloc (.cells #[.int .u8 k, .int .i64 a, .int .i64 f] 33)).heap[w.heap.size]? = some (.cells #[.int .u8 k, .int .i64 a, .int .i64 f] 33 (0, 0)) := by
    show (w.heap.push _)[w.heap.size]? = _
    rw [Array.getElem?_push, if_pos rfl]
  have hs : w.heap.size < (w.alloc (.cells #[.int .u8 k, .int .i64 a, .int .i64 f] 33)).heap.size := by simp
  have hbw : w.heap.size ≠ b := by have := h.size; omega
  have hvw : v.ownBlock ≠ some w.heap.size := fun e => by have := h.own_lt _ e; omega
  have HR := Lib.hid (h.below hbb)
  have HB := Lib.hid hbb
  have HN := Lib.hid (Nat.le_trans (putM_len l k a f x) (by omega : l.length + 1 ≤ 5000))
  clear hbb h
  go_enter Tryz.func70, Tryz.ntmps70
  have e0 := Joins.cell_of_block hblk 0
  have e1 := Joins.cell_of_block hblk 1
  have e2 := Joins.cell_of_block hblk 2
  have HK := Lib.hid hblk
  clear hblk
  simp only [List.getElem?_toArray, List.getElem?_cons_zero, List.getElem?_cons_succ] at e0 e1 e2
  go_wp2_with fail
  revert hs HR HB e0 e1 e2 HK
  generalize w.alloc (.cells #[.int .u8 k, .int .i64 a, .int .i64 f] 33) = w0
  intro hs HR HB HK e0 e1 e2
  refine (word_any B b l v _ k a f _ HR.out (by omega)).mono ?_
  rintro e w1 ⟨rfl, hb1⟩
  have HR1 := Lib.hid (HR.out.below hb1)
  have HB1 := Lib.hid (HB.out.trans (hb1.mono HB.out.size))
  have hk1 := (hb1.block w.heap.size hs).trans HK.out
  have hs1' : w.heap.size < w1.heap.size := Nat.lt_of_lt_of_le hs hb1.size
  have d0 := Joins.cell_of_block hk1 0
  have d1 := Joins.cell_of_block hk1 1
  have d2 := Joins.cell_of_block hk1 2
  have HK1 := Lib.hid hk1
  simp only [List.getElem?_toArray, List.getElem?_cons_zero, List.getElem?_cons_succ] at d0 d1 d2
  clear hb1 e0 e1 e2 hk1
  go_wp2_with fail
  refine (may_any k a f _).mono ?_
  rintro e u1 ⟨rfl, hbm⟩
  have HR1m := Lib.hid (HR1.out.below hbm)
  have HB1m := Lib.hid (HB1.out.trans (hbm.mono HB1.out.size))
  have HK1m := Lib.hid ((hbm.block w.heap.size hs1').trans HK1.out)
  have hs1m : w.heap.size < u1.heap.size := Nat.lt_of_lt_of_le hs1' hbm.size
  have c0 := Joins.cell_of_block HK1m.out 0
  have c1 := Joins.cell_of_block HK1m.out 1
  have c2 := Joins.cell_of_block HK1m.out 2
  simp only [List.getElem?_toArray, List.getElem?_cons_zero, List.getElem?_cons_succ] at c0 c1 c2
  clear hbm d0 d1 d2
  go_wp2_with fail
  refine (put_any B b l v _ k a f x _ HR1m.out (by omega) hBb (Nat.le_trans hBw HB1m.out.size)).mono ?_
  rintro e w2 ⟨rfl, ⟨v2, hR2⟩, hB2, hap⟩
  have HR2 := Lib.hid hR2
  have HB2 := Lib.hid (Sp.put HB1m.out hBw hB2 hap)
  have hk2 := (hap w.heap.size hs1m hbw hvw).trans HK1m.out
  have g0 := Joins.cell_of_block hk2 0
  have g1 := Joins.cell_of_block hk2 1
  have g2 := Joins.cell_of_block hk2 2
  have HK2 := Lib.hid hk2
  have hs2 : w.heap.size < w2.heap.size := by have := hB2.size; omega
  simp only [List.getElem?_toArray, List.getElem?_cons_zero, List.getElem?_cons_succ] at g0 g1 g2
  have r1 : w2.cell? ⟨b, 1, none⟩ = some (.int .i64 st) := HR2.out.cell8 1
  have z1 := HR2.out.free8 1
  clear c0 c1 c2 hR2 hB2 hap hk2
  go_wp2_with fail
  have HR3 := Lib.hid (show R2 B b (putM l k a f x) v2 (rest8 (st + 1) ak k' a' f' was is done) (w2.setCell ⟨b, 1, none⟩ (.int .i64 (st + 1))) from HR2.out.set 0 (.int .i64 (st + 1)))
  have HB3 := Lib.hid (HB2.out.setC hBb 1 (.int .i64 (st + 1)))
  have hk3 : (w2.setCell ⟨b, 1, none⟩ (.int .i64 (st + 1))).heap[w.heap.size]? = some (.cells #[.int .u8 k, .int .i64 a, .int .i64 f] 33 (0, 0)) := (Below.heap_setCell w2 _ _ w.heap.size (by simpa using hbw)).trans HK2.out
  have hs3 : w.heap.size < (w2.setCell ⟨b, 1, none⟩ (.int .i64 (st + 1))).heap.size := by simpa [World.setCell] using hs2
  clear g0 g1 g2 r1 z1 HR HB HK HR1 HB1 HK1 HR2 HB2 HK2 hs2 hs hs1' HR1m HB1m HK1m hs1m
  revert HR3 HB3 hk3 hs3
  generalize w2.setCell ⟨b, 1, none⟩ (.int .i64 (st + 1)) = v3
  intro HR3 HB3 hk3 hs3
  have m0 := Joins.cell_of_block hk3 0
  have m1 := Joins.cell_of_block hk3 1
  have m2 := Joins.cell_of_block hk3 2
  clear hk3
  simp only [List.getElem?_toArray, List.getElem?_cons_zero, List.getElem?_cons_succ] at m0 m1 m2
  have hbw' : b ≠ w.heap.size := Ne.symm hbw
  have n0 : v3.drew.cell? ⟨w.heap.size, 0, none⟩ = some (.int .u8 k) := m0
  have n1 : v3.drew.cell? ⟨w.heap.size, 1, none⟩ = some (.int .i64 a) := m1
  have n2 : v3.drew.cell? ⟨w.heap.size, 2, none⟩ = some (.int .i64 f) := m2
  go_region_held3 (fun w1 => w1.cell? ⟨w.heap.size, 0, none⟩ = some (.int .u8 k) ∧ w1.cell? ⟨w.heap.size, 1, none⟩ = some (.int .i64 a) ∧ w1.cell? ⟨w.heap.size, 2, none⟩ = some (.int .i64 f))
    (first | with_reducible exact ⟨n0, n1, n2⟩ | with_reducible exact ⟨q0, q1, q2⟩ | with_reducible exact ⟨far7 hbw' q0, far7 hbw' q1, far7 hbw' q2⟩)
    (first | (go_at_call 64; refine (word_any B b (putM l k a f x) v2 _ k a f _ (HR3.out.below (Below.refl _ _).drew) HN.out).mono ?_; rintro e w' ⟨rfl, hb⟩; have q0 : w'.cell? ⟨w.heap.size, 0, none⟩ = some (.int .u8 k) := (hb.cell (p := ⟨w.heap.size, 0, none⟩) hs3).trans n0; have q1 : w'.cell? ⟨w.heap.size, 1, none⟩ = some (.int .i64 a) := (hb.cell (p := ⟨w.heap.size, 1, none⟩) hs3).trans n1; have q2 : w'.cell? ⟨w.heap.size, 2, none⟩ = some (.int .i64 f) := (hb.cell (p := ⟨w.heap.size, 2, none⟩) hs3).trans n2; have HR4 := Lib.hid ((HR3.out.below (Below.refl _ _).drew).below hb); have HB4 := Lib.hid (HB3.out.drew.next hb); have y2 := HR4.out.cell8 2; have y3 := HR4.out.cell8 3; have y4 := HR4.out.cell8 4; have y5 := HR4.out.cell8 5; have y6 := HR4.out.cell8 6; have y7 := HR4.out.cell8 7; have y8 := HR4.out.cell8 8; simp only [rest8, List.getElem?_cons_zero, List.getElem?_cons_succ] at y2 y3 y4 y5 y6 y7 y8; have z2 := HR4.out.free8 2; have z3 := HR4.out.free8 3; have z4 := HR4.out.free8 4; have z5 := HR4.out.free8 5; have z6 := HR4.out.free8 6; have z7 := HR4.out.free8 7; have z8 := HR4.out.free8 8; clear hb))
  go_wp2
  go_ret
  exact ⟨rfl, ⟨_, HR4.out.seven 3 k a f (look l k a f) (look (putM l k a f x) k a f) true⟩, HB4.out.seven hBb 3 k a f (look l k a f) (look (putM l k a f x) k a f) true⟩
set_option maxHeartbeats 1000000 in
theorem cas_bars (B b : Nat) (l : List Wd) (v : Value) (st ak k' a' f' was is : Int) (done : Bool) (k a f y x : Int) (w : World) (h : R2 B b l v (rest8 st ak k' a' f' was is done) w) (hn : l.length ≤ 4999) (hBb : B ≤ b) (hBw : B ≤ w.heap.size) (hs0 : 0 ≤ st) (hs1 : st < 4611686018427387904) (hy : (look l k a f == y) = true) (hm : mayB k a f = false) :
    Calls Tryz.prog 70 #[.pointer (some ⟨b, 0, none⟩), .agg #[.int .u8 k, .int .i64 a, .int .i64 f], .int .u64 y, .int .u64 x] w fun e w' => e = .returned (.bool false) ∧ (∃ v', R2 B b l v' (rest8 (st + 1) 3 k a f (look l k a f) (look l k a f) false) w') ∧ Sp B b v w w' := by
  have hbb : Below w.heap.size w (w.alloc (.cells #[.int .u8 k, .int .i64 a, .int .i64 f] 33)) := (Below.refl _ _).alloc (Nat.le_refl _) _
  have hblk : (w.alloc (.cells #[.int .u8 k, .int .i64 a, .int .i64 f] 33)).heap[w.heap.size]? = some (.cells #[.int .u8 k, .int .i64 a, .int .i64 f] 33 (0, 0)) := by
    show (w.heap.push _)[w.heap.size]? = _
    rw [Array.getElem?_push, if_pos rfl]
  have hs : w.heap.size < (w.alloc (.cells #[.int .u8 k, .int .i64 a, .int .i64 f] 33)).heap.size := by simp
  have hbw : w.heap.size ≠ b := by have := h.size; omega
  have hvw : v.ownBlock ≠ some w.heap.size := fun e => by have := h.own_lt _ e; omega
  have HR := Lib.hid (h.below hbb)
  have HB := Lib.hid hbb
  have HN := Lib.hid (show l.length ≤ 5000 by omega)
  clear hbb h
  go_enter Tryz.func70, Tryz.ntmps70
  have e0 := Joins.cell_of_block hblk 0
  have e1 := Joins.cell_of_block hblk 1
  have e2 := Joins.cell_of_block hblk 2
  have HK := Lib.hid hblk
  clear hblk
  simp only [List.getElem?_toArray, List.getElem?_cons_zero, List.getElem?_cons_succ] at e0 e1 e2
  go_wp2_with fail
  revert hs HR HB e0 e1 e2 HK
  generalize w.alloc (.cells #[.int .u8 k, .int .i64 a, .int .i64 f] 33) = w0
  intro hs HR HB HK e0 e1 e2
  refine (word_any B b l v _ k a f _ HR.out (by omega)).mono ?_
  rintro e w1 ⟨rfl, hb1⟩
  have HR1 := Lib.hid (HR.out.below hb1)
  have HB1 := Lib.hid (HB.out.trans (hb1.mono HB.out.size))
  have hk1 := (hb1.block w.heap.size hs).trans HK.out
  have hs1' : w.heap.size < w1.heap.size := Nat.lt_of_lt_of_le hs hb1.size
  have d0 := Joins.cell_of_block hk1 0
  have d1 := Joins.cell_of_block hk1 1
  have d2 := Joins.cell_of_block hk1 2
  have HK1 := Lib.hid hk1
  simp only [List.getElem?_toArray, List.getElem?_cons_zero, List.getElem?_cons_succ] at d0 d1 d2
  clear hb1 e0 e1 e2 hk1
  go_wp2_with fail
  refine (may_any k a f _).mono ?_
  rintro e u1 ⟨rfl, hbm⟩
  have HR1m := Lib.hid (HR1.out.below hbm)
  have HB1m := Lib.hid (HB1.out.trans (hbm.mono HB1.out.size))
  have HK1m := Lib.hid ((hbm.block w.heap.size hs1').trans HK1.out)
  have hs1m : w.heap.size < u1.heap.size := Nat.lt_of_lt_of_le hs1' hbm.size
  have c0 := Joins.cell_of_block HK1m.out 0
  have c1 := Joins.cell_of_block HK1m.out 1
  have c2 := Joins.cell_of_block HK1m.out 2
  simp only [List.getElem?_toArray, List.getElem?_cons_zero, List.getElem?_cons_succ] at c0 c1 c2
  clear hbm d0 d1 d2
  have HR2 := HR1m
  have HB2 := Lib.hid (show Sp B b v w _ from Sp.of_below HB1m.out hBw)
  have HK2 := HK1m
  have hs2 := hs1m
  have g0 : u1.cell? ⟨w.heap.size, 0, none⟩ = some (.int .u8 k) := c0
  have g1 : u1.cell? ⟨w.heap.size, 1, none⟩ = some (.int .i64 a) := c1
  have g2 : u1.cell? ⟨w.heap.size, 2, none⟩ = some (.int .i64 f) := c2
  clear c0 c1 c2
  have r1 : u1.cell? ⟨b, 1, none⟩ = some (.int .i64 st) := HR2.out.cell8 1
  have z1 := HR2.out.free8 1
  go_wp2_with fail
  have HR3 := Lib.hid (show R2 B b l v (rest8 (st + 1) ak k' a' f' was is done) (u1.setCell ⟨b, 1, none⟩ (.int .i64 (st + 1))) from HR2.out.set 0 (.int .i64 (st + 1)))
  have HB3 := Lib.hid (HB2.out.setC hBb 1 (.int .i64 (st + 1)))
  have hk3 : (u1.setCell ⟨b, 1, none⟩ (.int .i64 (st + 1))).heap[w.heap.size]? = some (.cells #[.int .u8 k, .int .i64 a, .int .i64 f] 33 (0, 0)) := (Below.heap_setCell u1 _ _ w.heap.size (by simpa using hbw)).trans HK2.out
  have hs3 : w.heap.size < (u1.setCell ⟨b, 1, none⟩ (.int .i64 (st + 1))).heap.size := by simpa [World.setCell] using hs2
  clear g0 g1 g2 r1 z1 HR HB HK HR1 HB1 HK1 HR2 HB2 HK2 hs2 hs hs1' HR1m HB1m HK1m hs1m
  revert HR3 HB3 hk3 hs3
  generalize u1.setCell ⟨b, 1, none⟩ (.int .i64 (st + 1)) = v3
  intro HR3 HB3 hk3 hs3
  have m0 := Joins.cell_of_block hk3 0
  have m1 := Joins.cell_of_block hk3 1
  have m2 := Joins.cell_of_block hk3 2
  clear hk3
  simp only [List.getElem?_toArray, List.getElem?_cons_zero, List.getElem?_cons_succ] at m0 m1 m2
  have hbw' : b ≠ w.heap.size := Ne.symm hbw
  have n0 : v3.drew.cell? ⟨w.heap.size, 0, none⟩ = some (.int .u8 k) := m0
  have n1 : v3.drew.cell? ⟨w.heap.size, 1, none⟩ = some (.int .i64 a) := m1
  have n2 : v3.drew.cell? ⟨w.heap.size, 2, none⟩ = some (.int .i64 f) := m2
  go_region_held3 (fun w1 => w1.cell? ⟨w.heap.size, 0, none⟩ = some (.int .u8 k) ∧ w1.cell? ⟨w.heap.size, 1, none⟩ = some (.int .i64 a) ∧ w1.cell? ⟨w.heap.size, 2, none⟩ = some (.int .i64 f))
    (first | with_reducible exact ⟨n0, n1, n2⟩ | with_reducible exact ⟨q0, q1, q2⟩ | with_reducible exact ⟨far7 hbw' q0, far7 hbw' q1, far7 hbw' q2⟩)
    (first | (go_at_call 64; refine (word_any B b l v _ k a f _ (HR3.out.below (Below.refl _ _).drew) HN.out).mono ?_; rintro e w' ⟨rfl, hb⟩; have q0 : w'.cell? ⟨w.heap.size, 0, none⟩ = some (.int .u8 k) := (hb.cell (p := ⟨w.heap.size, 0, none⟩) hs3).trans n0; have q1 : w'.cell? ⟨w.heap.size, 1, none⟩ = some (.int .i64 a) := (hb.cell (p := ⟨w.heap.size, 1, none⟩) hs3).trans n1; have q2 : w'.cell? ⟨w.heap.size, 2, none⟩ = some (.int .i64 f) := (hb.cell (p := ⟨w.heap.size, 2, none⟩) hs3).trans n2; have HR4 := Lib.hid ((HR3.out.below (Below.refl _ _).drew).below hb); have HB4 := Lib.hid (HB3.out.drew.next hb); have y2 := HR4.out.cell8 2; have y3 := HR4.out.cell8 3; have y4 := HR4.out.cell8 4; have y5 := HR4.out.cell8 5; have y6 := HR4.out.cell8 6; have y7 := HR4.out.cell8 7; have y8 := HR4.out.cell8 8; simp only [rest8, List.getElem?_cons_zero, List.getElem?_cons_succ] at y2 y3 y4 y5 y6 y7 y8; have z2 := HR4.out.free8 2; have z3 := HR4.out.free8 3; have z4 := HR4.out.free8 4; have z5 := HR4.out.free8 5; have z6 := HR4.out.free8 6; have z7 := HR4.out.free8 7; have z8 := HR4.out.free8 8; clear hb))
  go_wp2
  go_ret
  exact ⟨rfl, ⟨_, HR4.out.seven 3 k a f (look l k a f) (look l k a f) false⟩, HB4.out.seven hBb 3 k a f (look l k a f) (look l k a f) false⟩
set_option maxHeartbeats 1000000 in
theorem cas_other (B b : Nat) (l : List Wd) (v : Value) (st ak k' a' f' was is : Int) (done : Bool) (k a f y x : Int) (w : World) (h : R2 B b l v (rest8 st ak k' a' f' was is done) w) (hn : l.length ≤ 4999) (hBb : B ≤ b) (hBw : B ≤ w.heap.size) (hs0 : 0 ≤ st) (hs1 : st < 4611686018427387904) (hy : (look l k a f == y) = false) :
    Calls Tryz.prog 70 #[.pointer (some ⟨b, 0, none⟩), .agg #[.int .u8 k, .int .i64 a, .int .i64 f], .int .u64 y, .int .u64 x] w fun e w' => e = .returned (.bool false) ∧ (∃ v', R2 B b l v' (rest8 (st + 1) 3 k a f (look l k a f) (look l k a f) false) w') ∧ Sp B b v w w' := by
  have hbb : Below w.heap.size w (w.alloc (.cells #[.int .u8 k, .int .i64 a, .int .i64 f] 33)) := (Below.refl _ _).alloc (Nat.le_refl _) _
  have hblk : (w.alloc (.cells #[.int .u8 k, .int .i64 a, .int .i64 f] 33)).heap[w.heap.size]? = some (.cells #[.int .u8 k, .int .i64 a, .int .i64 f] 33 (0, 0)) := by
    show (w.heap.push _)[w.heap.size]? = _
    rw [Array.getElem?_push, if_pos rfl]
  have hs : w.heap.size < (w.alloc (.cells #[.int .u8 k, .int .i64 a, .int .i64 f] 33)).heap.size := by simp
  have hbw : w.heap.size ≠ b := by have := h.size; omega
  have hvw : v.ownBlock ≠ some w.heap.size := fun e => by have := h.own_lt _ e; omega
  have HR := Lib.hid (h.below hbb)
  have HB := Lib.hid hbb
  have HN := Lib.hid (show l.length ≤ 5000 by omega)
  clear hbb h
  go_enter Tryz.func70, Tryz.ntmps70
  have e0 := Joins.cell_of_block hblk 0
  have e1 := Joins.cell_of_block hblk 1
  have e2 := Joins.cell_of_block hblk 2
  have HK := Lib.hid hblk
  clear hblk
  simp only [List.getElem?_toArray, List.getElem?_cons_zero, List.getElem?_cons_succ] at e0 e1 e2
  go_wp2_with fail
  revert hs HR HB e0 e1 e2 HK
  generalize w.alloc (.cells #[.int .u8 k, .int .i64 a, .int .i64 f] 33) = w0
  intro hs HR HB HK e0 e1 e2
  refine (word_any B b l v _ k a f _ HR.out (by omega)).mono ?_
  rintro e w1 ⟨rfl, hb1⟩
  have HR1 := Lib.hid (HR.out.below hb1)
  have HB1 := Lib.hid (HB.out.trans (hb1.mono HB.out.size))
  have hk1 := (hb1.block w.heap.size hs).trans HK.out
  have hs1' : w.heap.size < w1.heap.size := Nat.lt_of_lt_of_le hs hb1.size
  have d0 := Joins.cell_of_block hk1 0
  have d1 := Joins.cell_of_block hk1 1
  have d2 := Joins.cell_of_block hk1 2
  have HK1 := Lib.hid hk1
  simp only [List.getElem?_toArray, List.getElem?_cons_zero, List.getElem?_cons_succ] at d0 d1 d2
  clear hb1 e0 e1 e2 hk1
  have HR2 := HR1
  have HB2 := Lib.hid (show Sp B b v w _ from Sp.of_below HB1.out hBw)
  have HK2 := HK1
  have hs2 := hs1'
  have g0 : w1.cell? ⟨w.heap.size, 0, none⟩ = some (.int .u8 k) := d0
  have g1 : w1.cell? ⟨w.heap.size, 1, none⟩ = some (.int .i64 a) := d1
  have g2 : w1.cell? ⟨w.heap.size, 2, none⟩ = some (.int .i64 f) := d2
  clear d0 d1 d2
  have r1 : w1.cell? ⟨b, 1, none⟩ = some (.int .i64 st) := HR2.out.cell8 1
  have z1 := HR2.out.free8 1
  go_wp2_with fail
  have HR3 := Lib.hid (show R2 B b l v (rest8 (st + 1) ak k' a' f' was is done) (w1.setCell ⟨b, 1, none⟩ (.int .i64 (st + 1))) from HR2.out.set 0 (.int .i64 (st + 1)))
  have HB3 := Lib.hid (HB2.out.setC hBb 1 (.int .i64 (st + 1)))
  have hk3 : (w1.setCell ⟨b, 1, none⟩ (.int .i64 (st + 1))).heap[w.heap.size]? = some (.cells #[.int .u8 k, .int .i64 a, .int .i64 f] 33 (0, 0)) := (Below.heap_setCell w1 _ _ w.heap.size (by simpa using hbw)).trans HK2.out
  have hs3 : w.heap.size < (w1.setCell ⟨b, 1, none⟩ (.int .i64 (st + 1))).heap.size := by simpa [World.setCell] using hs2
  clear g0 g1 g2 r1 z1 HR HB HK HR1 HB1 HK1 HR2 HB2 HK2 hs2 hs hs1'
  revert HR3 HB3 hk3 hs3
  generalize w1.setCell ⟨b, 1, none⟩ (.int .i64 (st + 1)) = v3
  intro HR3 HB3 hk3 hs3
  have m0 := Joins.cell_of_block hk3 0
  have m1 := Joins.cell_of_block hk3 1
  have m2 := Joins.cell_of_block hk3 2
  clear hk3
  simp only [List.getElem?_toArray, List.getElem?_cons_zero, List.getElem?_cons_succ] at m0 m1 m2
  have hbw' : b ≠ w.heap.size := Ne.symm hbw
  have n0 : v3.drew.cell? ⟨w.heap.size, 0, none⟩ = some (.int .u8 k) := m0
  have n1 : v3.drew.cell? ⟨w.heap.size, 1, none⟩ = some (.int .i64 a) := m1
  have n2 : v3.drew.cell? ⟨w.heap.size, 2, none⟩ = some (.int .i64 f) := m2
  go_region_held3 (fun w1 => w1.cell? ⟨w.heap.size, 0, none⟩ = some (.int .u8 k) ∧ w1.cell? ⟨w.heap.size, 1, none⟩ = some (.int .i64 a) ∧ w1.cell? ⟨w.heap.size, 2, none⟩ = some (.int .i64 f))
    (first | with_reducible exact ⟨n0, n1, n2⟩ | with_reducible exact ⟨q0, q1, q2⟩ | with_reducible exact ⟨far7 hbw' q0, far7 hbw' q1, far7 hbw' q2⟩)
    (first | (go_at_call 64; refine (word_any B b l v _ k a f _ (HR3.out.below (Below.refl _ _).drew) HN.out).mono ?_; rintro e w' ⟨rfl, hb⟩; have q0 : w'.cell? ⟨w.heap.size, 0, none⟩ = some (.int .u8 k) := (hb.cell (p := ⟨w.heap.size, 0, none⟩) hs3).trans n0; have q1 : w'.cell? ⟨w.heap.size, 1, none⟩ = some (.int .i64 a) := (hb.cell (p := ⟨w.heap.size, 1, none⟩) hs3).trans n1; have q2 : w'.cell? ⟨w.heap.size, 2, none⟩ = some (.int .i64 f) := (hb.cell (p := ⟨w.heap.size, 2, none⟩) hs3).trans n2; have HR4 := Lib.hid ((HR3.out.below (Below.refl _ _).drew).below hb); have HB4 := Lib.hid (HB3.out.drew.next hb); have y2 := HR4.out.cell8 2; have y3 := HR4.out.cell8 3; have y4 := HR4.out.cell8 4; have y5 := HR4.out.cell8 5; have y6 := HR4.out.cell8 6; have y7 := HR4.out.cell8 7; have y8 := HR4.out.cell8 8; simp only [rest8, List.getElem?_cons_zero, List.getElem?_cons_succ] at y2 y3 y4 y5 y6 y7 y8; have z2 := HR4.out.free8 2; have z3 := HR4.out.free8 3; have z4 := HR4.out.free8 4; have z5 := HR4.out.free8 5; have z6 := HR4.out.free8 6; have z7 := HR4.out.free8 7; have z8 := HR4.out.free8 8; clear hb))
  go_wp2
  go_ret
  exact ⟨rfl, ⟨_, HR4.out.seven 3 k a f (look l k a f) (look l k a f) false⟩, HB4.out.seven hBb 3 k a f (look l k a f) (look l k a f) false⟩
end Go.Proofs.YtmjcbjcnmgleaaaGreatDoor
namespace Go.Proofs.YtmjcbjcnmgleaaaGreatDoor
open Go.RowKit Go.Maps Go.Shelf
open Go.WideElems (Fit rg rd_key rg_of)
def Came {H : Type} (D : DataW H) (left : Lit → Bool) (ss : List Ad) : Prop := ss.Nodup ∧ ∀ x : Ad, x ∈ ss ↔ (has D x.lit = true ∧ left x.lit = false)
theorem Came.start {H : Type} (D : DataW H) : Came D (has D) [] := ⟨List.nodup_nil, fun x => by simp⟩
theorem Came.step {H : Type} {D : DataW H} {left : Lit → Bool} {ss : List Ad} (h : Came D left ss) {x : Ad} {y : DataW H} (hl : left x.lit = true) (hat : ∀ zd, D.atKey x.lit zd = y) :
    Came D (fun z => left z && !z.sameKey x.lit) (ss ++ [x]) := by
  have hno : x ∉ ss := fun hx => by have := ((h.2 x).1 hx).2; rw [hl] at this; cases this
  refine ⟨?_, fun z => ?_⟩
  · rw [List.nodup_append]
    exact ⟨h.1, by simp, fun a ha b hb => by simp at hb; subst hb; rintro rfl; exact hno ha⟩
  · by_cases e : z = x
    · subst e
      have hs : z.lit.sameKey z.lit = true := WideAt.sameKey_self z.lit_key
      have hh : has D z.lit = true := has_true_of_atKey hat
      simp [hs, hh]
    · have hs : z.lit.sameKey x.lit = false := sameKey_ne fun e' => e (Ad.lit_inj e')
      have := h.2 z
      simp [hs, this, e]
theorem own_keys {H : Type} {w : World} {R : Value → Option (DataW H × List MemPlace)} {b n : Nat} {D : DataW H} (h : w.ownsMap Tryz.prog 33 R b n D) :
    ∃ es, D = .map es ∧ (es.map (·.1)).Nodup ∧ ∀ p ∈ es, ∃ x : Ad, p.1 = x.lit := by
  obtain ⟨es, clock, _, F, _, rfl⟩ := h
  refine ⟨_, rfl, ?_, fun p hp => ?_⟩
  · have := apart_of_rising (Maps.sorted_sorted addr_keyed.one _ (Maps.fit_keys F) (Maps.fit_apart addr_keyed F))
    rw [List.Nodup, List.pairwise_map]
    exact this
  · obtain ⟨v, hv⟩ := Maps.fit_keys F p (mem_sorted.1 hp)
    obtain ⟨x, _, hx⟩ := Ad.of_key hv
    exact ⟨x, hx⟩
theorem own_size {H : Type} {w : World} {R : Value → Option (DataW H × List MemPlace)} {b n : Nat} {D : DataW H} (h : w.ownsMap Tryz.prog 33 R b n D) {ss : List Ad} (hn : ss.Nodup) (hm : ∀ x : Ad, x ∈ ss ↔ has D x.lit = true) : ss.length = Maps.size D := by
  obtain ⟨es, rfl, hes, hk⟩ := own_keys h
  have hp : (ss.map Ad.lit).Perm (es.map (·.1)) := by
    refine (List.perm_ext_iff_of_nodup ?_ hes).2 fun l => ?_
    · rw [List.Nodup, List.pairwise_map]
      exact hn.imp fun hab e => hab (Ad.lit_inj e)
    · constructor
      · intro hl
        obtain ⟨x, hx, rfl⟩ := List.mem_map.1 hl
        obtain ⟨p, hp, hs⟩ := List.any_eq_true.1 ((hm x).1 hx)
        exact List.mem_map.2 ⟨p, hp, WideAt.sameKey_eq hs⟩
      · intro hl
        obtain ⟨p, hp, rfl⟩ := List.mem_map.1 hl
        obtain ⟨x, hx⟩ := hk p hp
        refine List.mem_map.2 ⟨x, (hm x).2 (List.any_eq_true.2 ⟨p, hp, ?_⟩), hx.symm⟩
        rw [hx]
        exact WideAt.sameKey_self x.lit_key
  have := hp.length_eq
  simpa [Maps.size] using this
set_option maxRecDepth 100000 in
set_option maxHeartbeats 2000000 in
theorem keys1_in {H : Type} (F : Fence) (n : Nat) (h10 : F.fn 138) (hro : F.round = none) (hn : 1 ≤ n) (l Bm b nn : Nat) (D0 : DataW H) (J Jx : List Ad → World → Prop)
    (hY : ∀ pre x W, J pre W → pre.length < Maps.size D0 → YieldAt F (n - 1) Tryz.prog l #[x.v] W fun e W' =>
      (e = .returned (.bool true) ∧ J (pre ++ [x]) W' ∧ KeepsWalks W W') ∨ (e = .returned (.bool false) ∧ Jx (pre ++ [x]) W'))
    (W : World) (hJ : AbidesFrom W.heap.size J) (hm : W.cell? ⟨Bm, 0, none⟩ = some (.map (some b))) (hown : W.ownsMap Tryz.prog 33 (plainElem Tryz.prog 34) b nn D0) (h0 : J [] W) :
    CallsIn F n Tryz.prog 138 #[.func (.yield l) #[] #[], .pointer (some ⟨Bm, 0, none⟩)] W fun e W' => (∃ v, e = .returned v) ∧
      ((∃ ss : List Ad, (ss.Nodup ∧ (∀ x : Ad, x ∈ ss ↔ has D0 x.lit = true) ∧ ss.length = Maps.size D0) ∧ J ss W') ∨ (∃ pre : List Ad, True ∧ Jx pre W')) := by
  refine callsIn_of_wp Tryz.func138 rfl h10 ?_ hro
  simp only [Tryz.ntmps138, List.size_toArray, List.length_cons, List.length_nil, Nat.reduceAdd, Nat.reduceSub, Array.replicate_succ, Array.replicate_zero, List.push_toArray, List.append_toArray, List.nil_append, List.cons_append]
  gi_wp2_with (first
    | (gi_at_range; refine wpListIn_range_own _ rfl _ 119 rfl 33 34 addr_keyed Tryz.underlying119 _ b nn _ rfl hown ?_; intro w0 hrg0 hg0 hs0)
    | gi_in)
  go_frame
  gi_loopw [3] (fun _ wr => ∃ (left : Lit → Bool) (cnt : Nat) (ss : List Ad), wr.ranges Tryz.prog 33 (plainElem Tryz.prog 34) b W.heap.size nn D0 left cnt ∧ ss.length + cnt ≤ Maps.size D0 ∧ Came D0 left ss ∧ J ss wr)
    (fun _ wr => wr.rangeLeft b W.heap.size)
  case atStart =>
    exact ⟨_, _, [], hrg0, by simp, Came.start D0, hJ [] W w0 none h0 hg0 (fun r e => by cases e)⟩
  case round =>
    obtain ⟨left, cnt, ss, hrg, hcs, hC, hJs⟩ := hrel
    gi_wp2_with (first
      | (gi_at_next; refine wpListIn_next_ranges _ rfl _ rfl 33 addr_keyed (plainElem Tryz.prog 34) Ad.v (Value.int .u64) (fun key kl hk => by obtain ⟨x, hx, _⟩ := Ad.of_key hk; exact ⟨x, hx⟩) (fun v y hv => by obtain ⟨c, rfl, _⟩ := plainElem_int_inv Tryz.underlying34 hv; exact ⟨c, rfl⟩) b W.heap.size nn _ _ _ rfl hrg ?_ ?_)
      | gi_in)
    · intro hc0 hl0
      gi_wp2
      go_end0
      have hmem : ∀ x : Ad, x ∈ ss ↔ has D0 x.lit = true := fun x => by rw [hC.2 x, hl0]; simp
      exact ⟨⟨_, rfl⟩, .inl ⟨ss, ⟨hC.1, hmem, own_size hown hC.1 hmem⟩, hJs⟩⟩
    · intro x c kl yd yp w2 cnt2 hkey hlk hv hat hrg2 hlt hg2 hs2 hen
      obtain ⟨x', ex, rfl⟩ := Ad.of_key hkey
      obtain rfl : x = x' := Ad.v_inj ex
      have hJ2 : J ss w2 := hJ ss wr w2 (some W.heap.size) hJs hg2 (fun r e => by cases e; exact ⟨Nat.le_refl _, hrg.iter_walk⟩)
      have hJ3 : J ss (w2.alloc (.cells #[.int .u8 x.k, .int .i64 x.a, .int .i64 x.f] 33)) := hJ ss w2 _ none hJ2 (World.grownBy_alloc w2 _ none) (fun r e => by cases e)
      obtain ⟨fn, tmps, assign, body, hy, hR⟩ := hY ss x _ hJ3 (by omega)
      have hrg4 := hrg2.alloc (.cells #[.int .u8 x.k, .int .i64 x.a, .int .i64 x.f] 33)
      clear hs2
      simp only [Ad.v, addrV] at hen hy ⊢
      gi_wp2
      refine hR.mono ?_
      have hC2 := hC.step hlk hat
      rintro e W3 (⟨rfl, hJ4, hk3⟩ | ⟨rfl, hJx3⟩)
      · gi_wp2
        have hrg3 := hrg4.of_walks hk3
        go_roundw
        case rel => exact ⟨_, cnt2, ss ++ [x], hrg3, by simp; omega, hC2, hJ4⟩
        case measure => rw [hrg3.left_eq, hrg.left_eq]; exact hlt
      · gi_wp2
        refine bodyPost_ret (results_none rfl _ _ _) rfl ?_
        exact ⟨⟨_, rfl⟩, .inr ⟨ss ++ [x], trivial, hJx3⟩⟩
theorem keys_stops {H : Type} (F : Fence) (n : Nat) (h10 : F.fn 138) (hro : F.round = none) (hn : 1 ≤ n) (Bm b nn : Nat) (D0 : DataW H) (w : World) (hBm : Bm < w.heap.size)
    (hm : w.cell? ⟨Bm, 0, none⟩ = some (.map (some b))) (hown : w.ownsMap Tryz.prog 33 (plainElem Tryz.prog 34) b nn D0) :
    SeqStops F n Tryz.prog 138 #[.pointer (some ⟨Bm, 0, none⟩)] Ad.v (fun ss => ss.Nodup ∧ (∀ x : Ad, x ∈ ss ↔ has D0 x.lit = true) ∧ ss.length = Maps.size D0) (fun _ => True) (Maps.size D0) w := fun l J Jx W hW hJ _ hY h0 => by
  have hown' : W.ownsMap Tryz.prog 33 (plainElem Tryz.prog 34) b nn D0 := by
    have hbl := hown.lt
    obtain ⟨es, clock, hb, Ft, hs, hD⟩ := hown
    exact ⟨es, clock, (hW.block b hbl).trans hb, Ft, hs, hD⟩
  exact keys1_in F n h10 hro hn l Bm b nn D0 J Jx hY W hJ ((hW.cell (p := ⟨Bm, 0, none⟩) hBm).trans hm) hown' h0
set_option maxHeartbeats 1000000 in
theorem keys_in (F : Fence) (n : Nat) (h7 : F.fn 115) (hro : F.round = none) (mb : Option Nat) (w : World) :
    CallsIn F n Tryz.prog 115 #[.map mb] w fun e w' => e = .returned (.func (.func 138) #[] #[.pointer (some ⟨w.heap.size, 0, none⟩)]) ∧ w' = w.alloc (.cells #[.map mb] 119) := by
  refine callsIn_of_wp Tryz.func115 rfl h7 ?_ hro
  simp only [Tryz.ntmps115, List.size_toArray, List.length_cons, List.length_nil, Nat.reduceAdd, Nat.reduceSub, Array.replicate_succ, Array.replicate_zero, List.push_toArray, List.append_toArray, List.nil_append, List.cons_append]
  gi_wp2
  go_ret
  exact ⟨rfl, rfl⟩
end Go.Proofs.YtmjcbjcnmgleaaaGreatDoor
