/-
  The document's memory of layer 2: what Store leaves; condition: at most 999 words, numbers of their kinds, fewer than 2^62 steps.
-/
import Derived.Test.YtodfjnpnfalioaaDoorR5
namespace Go.Proofs.YtodfjnpnfalioaaDoor
open Go.RowKit

theorem putL_len (l : List Wd) (k a f x : Int) : (putL l k a f x).length ≤ l.length + 1 := by
  induction l with
  | nil => simp [putL]
  | cons y r ih =>
    simp only [putL]
    split
    · simp
    · simp only [List.length_cons]; omega
theorem putM_len (l : List Wd) (k a f x : Int) : (putM l k a f x).length ≤ l.length + 1 := by
  unfold putM
  split
  · exact putL_len l k a f x
  · omega

/-- The last access, stored anew. -/
def seven (w : World) (b : Nat) (ak k a f was is : Int) (done : Bool) : World :=
  ((((((w.setCell ⟨b, 2, none⟩ (.int .u8 ak)).setCell ⟨b, 3, none⟩ (.int .u8 k)).setCell ⟨b, 4, none⟩ (.int .i64 a)).setCell ⟨b, 5, none⟩ (.int .i64 f)).setCell ⟨b, 6, none⟩ (.int .u64 was)).setCell ⟨b, 7, none⟩ (.int .u64 is)).setCell ⟨b, 8, none⟩ (.bool done)
theorem R2.seven {B b : Nat} {l : List Wd} {v : Value} {st ak' k' a' f' was' is' : Int} {done' : Bool} {w : World} (h : R2 B b l v (rest8 st ak' k' a' f' was' is' done') w) (ak k a f was is : Int) (done : Bool) :
    R2 B b l v (rest8 st ak k a f was is done) (seven w b ak k a f was is done) :=
  ((((((h.set 1 (.int .u8 ak)).set 2 (.int .u8 k)).set 3 (.int .i64 a)).set 4 (.int .i64 f)).set 5 (.int .u64 was)).set 6 (.int .u64 is)).set 7 (.bool done)
theorem below_seven {B b : Nat} {u w : World} (h : Below B u w) (hBb : B ≤ b) (ak k a f was is : Int) (done : Bool) : Below B u (seven w b ak k a f was is done) :=
  ((((((h.setCell hBb _).setCell hBb _).setCell hBb _).setCell hBb _).setCell hBb _).setCell hBb _).setCell hBb _
theorem Sp.seven {B b : Nat} {v : Value} {u w : World} (h : Sp B b v u w) (hBb : B ≤ b) (ak k a f was is : Int) (done : Bool) : Sp B b v u (seven w b ak k a f was is done) :=
  ((((((h.setC hBb 2 _).setC hBb 3 _).setC hBb 4 _).setC hBb 5 _).setC hBb 6 _).setC hBb 7 _).setC hBb 8 _
/-- Seven stores into another block. -/
theorem far7 {w : World} {b q o : Nat} {v x2 x3 x4 x5 x6 x7 x8 : Value} (hne : b ≠ q) (h : w.cell? ⟨q, o, none⟩ = some v) :
    (((((((w.setCell ⟨b, 2, none⟩ x2).setCell ⟨b, 3, none⟩ x3).setCell ⟨b, 4, none⟩ x4).setCell ⟨b, 5, none⟩ x5).setCell ⟨b, 6, none⟩ x6).setCell ⟨b, 7, none⟩ x7).setCell ⟨b, 8, none⟩ x8).cell? ⟨q, o, none⟩ = some v := by
  rw [World.cell?_setCell_far _ _ _ _ hne, World.cell?_setCell_far _ _ _ _ hne, World.cell?_setCell_far _ _ _ _ hne, World.cell?_setCell_far _ _ _ _ hne, World.cell?_setCell_far _ _ _ _ hne, World.cell?_setCell_far _ _ _ _ hne, World.cell?_setCell_far _ _ _ _ hne]
  exact h

set_option maxHeartbeats 1000000 in
theorem store_any (B b : Nat) (l : List Wd) (v : Value) (st ak k' a' f' was is : Int) (done : Bool) (k a f x : Int) (w : World) (h : R2 B b l v (rest8 st ak k' a' f' was is done) w) (hn : l.length ≤ 999) (hBb : B ≤ b) (hBw : B ≤ w.heap.size) (hs0 : 0 ≤ st) (hs1 : st < 4611686018427387904) :
    Calls Tryd.prog 41 #[.pointer (some ⟨b, 0, none⟩), .agg #[.int .u8 k, .int .i64 a, .int .i64 f], .int .u64 x] w fun e w' => e = .returned (.tuple #[]) ∧ (∃ v', R2 B b (putM l k a f x) v' (rest8 (st + 1) 2 k a f (look l k a f) (look (putM l k a f x) k a f) false) w') ∧ Sp B b v w w' := by
  have hbb : Below w.heap.size w (w.alloc (.cells #[.int .u8 k, .int .i64 a, .int .i64 f] 55)) := (Below.refl _ _).alloc (Nat.le_refl _) _
  have hblk : (w.alloc (.cells #[.int .u8 k, .int .i64 a, .int .i64 f] 55)).heap[w.heap.size]? = some (.cells #[.int .u8 k, .int .i64 a, .int .i64 f] 55 (0, 0)) := by
    show (w.heap.push _)[w.heap.size]? = _
    rw [Array.getElem?_push, if_pos rfl]
  have hs : w.heap.size < (w.alloc (.cells #[.int .u8 k, .int .i64 a, .int .i64 f] 55)).heap.size := by simp
  have hbw : w.heap.size ≠ b := by have := h.size; omega
  have hvw : v.ownBlock ≠ some w.heap.size := fun e => by have := h.own_lt _ e; omega
  have HR := Lib.hid (h.below hbb)
  have HB := Lib.hid hbb
  have HN := Lib.hid (Nat.le_trans (putM_len l k a f x) (by omega : l.length + 1 ≤ 1000))
  clear hbb h
  go_enter Tryd.func41, Tryd.ntmps41
  have e0 := Joins.cell_of_block hblk 0
  have e1 := Joins.cell_of_block hblk 1
  have e2 := Joins.cell_of_block hblk 2
  have HK := Lib.hid hblk
  clear hblk
  simp only [List.getElem?_toArray, List.getElem?_cons_zero, List.getElem?_cons_succ] at e0 e1 e2
  go_wp2_with fail
  revert hs HR HB e0 e1 e2 HK
  generalize w.alloc (.cells #[.int .u8 k, .int .i64 a, .int .i64 f] 55) = w0
  intro hs HR HB HK e0 e1 e2
  refine (word_any B b l v _ k a f _ HR.out (by omega)).mono ?_
  rintro e w1 ⟨rfl, hb1⟩
  have HR1 := Lib.hid (HR.out.below hb1)
  have HB1 := Lib.hid (HB.out.trans (hb1.mono HB.out.size))
  have hk1 := (hb1.block w.heap.size hs).trans HK.out
  have hs1' : w.heap.size < w1.heap.size := Nat.lt_of_lt_of_le hs hb1.size
  have d0 := Joins.cell_of_block hk1 0
  have d1 := Joins.cell_of_block hk1 1
  have d2 := Joins.cell_of_block hk1 2
  have HK1 := Lib.hid hk1
  simp only [List.getElem?_toArray, List.getElem?_cons_zero, List.getElem?_cons_succ] at d0 d1 d2
  clear hb1 e0 e1 e2 hk1
  go_wp2_with fail
  refine (put_any B b l v _ k a f x _ HR1.out (by omega) hBb (Nat.le_trans hBw HB1.out.size)).mono ?_
  rintro e w2 ⟨rfl, ⟨v2, hR2⟩, hB2, hap⟩
  have HR2 := Lib.hid hR2
  have HB2 := Lib.hid (Sp.put HB1.out hBw hB2 hap)
  have hk2 := (hap w.heap.size hs1' hbw hvw).trans HK1.out
  have g0 := Joins.cell_of_block hk2 0
  have g1 := Joins.cell_of_block hk2 1
  have g2 := Joins.cell_of_block hk2 2
  have HK2 := Lib.hid hk2
  have hs2 : w.heap.size < w2.heap.size := by have := hB2.size; omega
  simp only [List.getElem?_toArray, List.getElem?_cons_zero, List.getElem?_cons_succ] at g0 g1 g2
  have r1 : w2.cell? ⟨b, 1, none⟩ = some (.int .i64 st) := HR2.out.cell8 1
  have z1 := HR2.out.free8 1
  clear d0 d1 d2 hR2 hB2 hap hk2
  go_wp2_with fail
  have HR3 := Lib.hid (show R2 B b (putM l k a f x) v2 (rest8 (st + 1) ak k' a' f' was is done) (w2.setCell ⟨b, 1, none⟩ (.int .i64 (st + 1))) from HR2.out.set 0 (.int .i64 (st + 1)))
  have HB3 := Lib.hid (HB2.out.setC hBb 1 (.int .i64 (st + 1)))
  have hk3 : (w2.setCell ⟨b, 1, none⟩ (.int .i64 (st + 1))).heap[w.heap.size]? = some (.cells #[.int .u8 k, .int .i64 a, .int .i64 f] 55 (0, 0)) := (Below.heap_setCell w2 _ _ w.heap.size (by simpa using hbw)).trans HK2.out
  have hs3 : w.heap.size < (w2.setCell ⟨b, 1, none⟩ (.int .i64 (st + 1))).heap.size := by simpa [World.setCell] using hs2
  clear g0 g1 g2 r1 z1 HR HB HK HR1 HB1 HK1 HR2 HB2 HK2 hs2 hs hs1'
  revert HR3 HB3 hk3 hs3
  generalize w2.setCell ⟨b, 1, none⟩ (.int .i64 (st + 1)) = v3
  intro HR3 HB3 hk3 hs3
  have m0 := Joins.cell_of_block hk3 0
  have m1 := Joins.cell_of_block hk3 1
  have m2 := Joins.cell_of_block hk3 2
  clear hk3
  simp only [List.getElem?_toArray, List.getElem?_cons_zero, List.getElem?_cons_succ] at m0 m1 m2
  have hbw' : b ≠ w.heap.size := Ne.symm hbw
  have n0 : v3.drew.cell? ⟨w.heap.size, 0, none⟩ = some (.int .u8 k) := m0
  have n1 : v3.drew.cell? ⟨w.heap.size, 1, none⟩ = some (.int .i64 a) := m1
  have n2 : v3.drew.cell? ⟨w.heap.size, 2, none⟩ = some (.int .i64 f) := m2
  go_region_held3 (fun w1 => w1.cell? ⟨w.heap.size, 0, none⟩ = some (.int .u8 k) ∧ w1.cell? ⟨w.heap.size, 1, none⟩ = some (.int .i64 a) ∧ w1.cell? ⟨w.heap.size, 2, none⟩ = some (.int .i64 f))
    (first | with_reducible exact ⟨n0, n1, n2⟩ | with_reducible exact ⟨q0, q1, q2⟩ | with_reducible exact ⟨far7 hbw' q0, far7 hbw' q1, far7 hbw' q2⟩)
    (first | (go_at_call 56; refine (word_any B b (putM l k a f x) v2 _ k a f _ (HR3.out.below (Below.refl _ _).drew) HN.out).mono ?_; rintro e w' ⟨rfl, hb⟩; have q0 : w'.cell? ⟨w.heap.size, 0, none⟩ = some (.int .u8 k) := (hb.cell (p := ⟨w.heap.size, 0, none⟩) hs3).trans n0; have q1 : w'.cell? ⟨w.heap.size, 1, none⟩ = some (.int .i64 a) := (hb.cell (p := ⟨w.heap.size, 1, none⟩) hs3).trans n1; have q2 : w'.cell? ⟨w.heap.size, 2, none⟩ = some (.int .i64 f) := (hb.cell (p := ⟨w.heap.size, 2, none⟩) hs3).trans n2; have HR4 := Lib.hid ((HR3.out.below (Below.refl _ _).drew).below hb); have HB4 := Lib.hid (HB3.out.drew.next hb); have y2 := HR4.out.cell8 2; have y3 := HR4.out.cell8 3; have y4 := HR4.out.cell8 4; have y5 := HR4.out.cell8 5; have y6 := HR4.out.cell8 6; have y7 := HR4.out.cell8 7; have y8 := HR4.out.cell8 8; simp only [rest8, List.getElem?_cons_zero, List.getElem?_cons_succ] at y2 y3 y4 y5 y6 y7 y8; have z2 := HR4.out.free8 2; have z3 := HR4.out.free8 3; have z4 := HR4.out.free8 4; have z5 := HR4.out.free8 5; have z6 := HR4.out.free8 6; have z7 := HR4.out.free8 7; have z8 := HR4.out.free8 8; clear hb))
  go_wp2
  go_end0
  exact ⟨rfl, ⟨_, HR4.out.seven 2 k a f (look l k a f) (look (putM l k a f x) k a f) false⟩, HB4.out.seven hBb 2 k a f (look l k a f) (look (putM l k a f x) k a f) false⟩
end Go.Proofs.YtodfjnpnfalioaaDoor
