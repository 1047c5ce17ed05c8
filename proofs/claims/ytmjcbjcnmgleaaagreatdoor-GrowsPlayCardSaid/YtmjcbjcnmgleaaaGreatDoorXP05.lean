/-
  The document's memory of layer 2; The document's memory of layer 2; The document's memory of layer 2; conditions as each theorem says.
-/
import Derived.Test.YtmjcbjcnmgleaaaGreatDoorXP04
namespace Go.Proofs.YtmjcbjcnmgleaaaGreatDoor
open Go.RowKit
set_option maxHeartbeats 2000000 in
theorem put_nil (B b : Nat) (rest : List Value) (k a f x : Int) (w : World) (h : R2 B b [] (.slice none 0 0) rest w) (hBb : B ≤ b) (hBw : B ≤ w.heap.size) (hm : mayB k a f = true) :
    Calls Tryz.prog 65 #[.pointer (some ⟨b, 0, none⟩), .agg #[.int .u8 k, .int .i64 a, .int .i64 f], .int .u64 x] w (PutPost B b [⟨k, a, f, x⟩] (.slice none 0 0) rest w) := by
  have hbb : Below w.heap.size w (w.alloc (.cells #[.int .u8 k, .int .i64 a, .int .i64 f] 33)) := (Below.refl _ _).alloc (Nat.le_refl _) _
  have e0 : (w.alloc (.cells #[.int .u8 k, .int .i64 a, .int .i64 f] 33)).cell? ⟨w.heap.size, 0, none⟩ = some (.int .u8 k) := by simp [go_sem]
  have e1 : (w.alloc (.cells #[.int .u8 k, .int .i64 a, .int .i64 f] 33)).cell? ⟨w.heap.size, 1, none⟩ = some (.int .i64 a) := by simp [go_sem]
  have e2 : (w.alloc (.cells #[.int .u8 k, .int .i64 a, .int .i64 f] 33)).cell? ⟨w.heap.size, 2, none⟩ = some (.int .i64 f) := by simp [go_sem]
  have hs : w.heap.size < (w.alloc (.cells #[.int .u8 k, .int .i64 a, .int .i64 f] 33)).heap.size := by simp
  have HR := Lib.hid (h.below hbb)
  have HB := Lib.hid hbb
  clear hbb h
  go_enter Tryz.func65, Tryz.ntmps65
  go_wp2_with fail
  revert e0 e1 e2 hs HR HB
  generalize w.alloc (.cells #[.int .u8 k, .int .i64 a, .int .i64 f] 33) = w0
  intro e0 e1 e2 hs HR HB
  refine (may_any k a f _).mono ?_
  rintro e w1 ⟨rfl, hb1⟩
  have d0 := (hb1.cell (p := ⟨w.heap.size, 0, none⟩) hs).trans e0
  have d1 := (hb1.cell (p := ⟨w.heap.size, 1, none⟩) hs).trans e1
  have d2 := (hb1.cell (p := ⟨w.heap.size, 2, none⟩) hs).trans e2
  have HR1 := Lib.hid (HR.out.below hb1)
  have HB1 := Lib.hid (HB.out.trans (hb1.mono HB.out.size))
  have hb' := HR1.out.head
  clear hb1 e0 e1 e2
  go_wp2_with fail
  refine wp_loop_rounds 1 ?_
  rw [rounds_succ]
  go_wp2
  have HR2 := Lib.hid (HR1.out)
  have HB2 := Lib.hid (HB1.out)
  have g0 : w1.cell? ⟨w.heap.size, 0, none⟩ = some (.int .u8 k) := d0
  have g1 : w1.cell? ⟨w.heap.size, 1, none⟩ = some (.int .i64 a) := d1
  have g2 : w1.cell? ⟨w.heap.size, 2, none⟩ = some (.int .i64 f) := d2
  have g3 : w1.cell? ⟨b, 0, none⟩ = some (.slice none 0 0) := hb'
  clear d0 d1 d2 hb' HR1 HB1 HR HB
  revert HR2 HB2 g0 g1 g2 g3
  generalize w1 = w2
  intro HR2 HB2 g0 g1 g2 g3
  obtain ⟨i0, q1, q2, q3, q4⟩ := info_parts Tryz_info64
  have HQ := Lib.hid (And.intro q1 (And.intro q2 (And.intro q3 q4)))
  have fb : w2.frozen? ⟨b, 0, none⟩ = false := Joins.unfrozen_of_block HR2.out.blk 0
  clear q1 q2 q3 q4
  have HW := Lib.hid ((HR2.out.below (((Below.refl _ _).alloc (Nat.le_refl _) (.cells #[.int .u8 k, .int .i64 a, .int .i64 f, .int .u64 x] 118)).drew)))
  have HN := Lib.hid (World.news_of_block (w := (w2.alloc (.cells #[.int .u8 k, .int .i64 a, .int .i64 f, .int .u64 x] 118)).drew) (B := w2.heap.size) (cs := #[.int .u8 k, .int .i64 a, .int .i64 f, .int .u64 x]) (t := 118) (fr := (0, 0)) (by show (w2.heap.push _)[w2.heap.size]? = _; rw [Array.getElem?_push, if_pos rfl]))
  have g4 : (w2.alloc (.cells #[.int .u8 k, .int .i64 a, .int .i64 f, .int .u64 x] 118)).cell? ⟨b, 0, none⟩ = some (.slice none 0 0) := (HR2.out.below ((Below.refl _ _).alloc (Nat.le_refl _) (.cells #[.int .u8 k, .int .i64 a, .int .i64 f, .int .u64 x] 118))).head
  have hBs : B ≤ (w2.alloc (.cells #[.int .u8 k, .int .i64 a, .int .i64 f, .int .u64 x] 118)).drew.heap.size := by have := HB2.out.size; simp; omega
  have HS := Lib.hid hBs
  have HT := Lib.hid (HB2.out.trans (((Below.refl w2.heap.size w2).alloc (Nat.le_refl _) (.cells #[.int .u8 k, .int .i64 a, .int .i64 f, .int .u64 x] 118)).drew.mono HB2.out.size))
  have HU := Lib.hid (((HB2.out.mono hBw).alloc (Nat.le_trans hBw HB2.out.size) (.cells #[.int .u8 k, .int .i64 a, .int .i64 f, .int .u64 x] 118)).drew)
  clear hBs
  go_region_law ((refine step_append_lies _ rfl (.tmp 41) (.tmp 45) 98 rfl B 118 i0 (.agg #[.int .u8 0, .int .i64 0, .int .i64 0, .int .u64 0]) 4 32 Tryz.underlying98 HQ.out.1 HQ.out.2.1 HQ.out.2.2.1 HQ.out.2.2.2 rfl (by decide) (.slice none 0 0) 0 [] (by simp [Act.eval]) HW.out.own ⟨w2.heap.size, 0, none⟩ 1 1 [.int .u8 k, .int .i64 a, .int .i64 f, .int .u64 x] (by simp [Act.eval]) rfl HN.out (by simp [Value.oneCell']) (by decide) (by unfold maxLen; omega) (by omega) HS.out _ rfl ?_; intro g' cap' w' hown hgrow hat hlt; obtain ⟨p1, p2, p3, p4, p5⟩ := HW.out.push (l := []) (y := ⟨k, a, f, x⟩) hBb hown hgrow HS.out; have P3 := Lib.hid p3; have P4 := Lib.hid p4; have P5 := Lib.hid p5; clear p3 p4 p5 hown hgrow hat hlt))
  all_goals
    go_end0
    exact ⟨rfl, ⟨_, P3.out⟩, HU.out.trans P4.out, fun q hq hqb hg => (P5.out q (Nat.lt_of_lt_of_le hq HT.out.size) hqb hg).trans (HT.out.block q hq)⟩
def putM (l : List Wd) (k a f x : Int) : List Wd := if mayB k a f = true then putL l k a f x else l
theorem put_any (B b : Nat) (l : List Wd) (v : Value) (rest : List Value) (k a f x : Int) (w : World) (h : R2 B b l v rest w) (hn : l.length ≤ 5000) (hBb : B ≤ b) (hBw : B ≤ w.heap.size) :
    Calls Tryz.prog 65 #[.pointer (some ⟨b, 0, none⟩), .agg #[.int .u8 k, .int .i64 a, .int .i64 f], .int .u64 x] w (PutPost B b (putM l k a f x) v rest w) := by
  by_cases hm : mayB k a f = true
  · have e : putM l k a f x = putL l k a f x := if_pos hm
    rw [e]
    rcases h.own.2 with ⟨hv, h0⟩ | ⟨g, cap, cur, hv, hB, hg, r⟩
    · have e : l = [] := List.length_eq_zero_iff.1 h0
      subst e hv
      exact put_nil B b rest k a f x w h hBb hBw hm
    · subst hv
      exact put_list B b g cap l rest k a f x w h hn hBb hBw hm
  · have e : putM l k a f x = l := if_neg hm
    rw [e]
    exact (put_not b k a f x w (by simpa using hm)).mono fun _ _ hh => ⟨hh.1, ⟨v, h.below hh.2⟩, hh.2.mono hBw, fun q hq _ _ => hh.2.block q hq⟩
theorem R2.own_lt {B b : Nat} {l : List Wd} {v : Value} {rest : List Value} {w : World} (h : R2 B b l v rest w) : ∀ q, v.ownBlock = some q → q < w.heap.size := by
  intro q hq
  rcases h.own.2 with ⟨hv, _⟩ | ⟨g, cap, cur, hv, hB, hg, r⟩
  · subst hv; simp [Value.ownBlock] at hq
  · subst hv
    simp only [Value.ownBlock, Option.some.injEq] at hq
    subst hq
    rcases Nat.lt_or_ge g w.heap.size with hlt | hge
    · exact hlt
    · rw [Array.getElem?_eq_none hge] at hg; cases hg
end Go.Proofs.YtmjcbjcnmgleaaaGreatDoor
namespace Go.Proofs.YtmjcbjcnmgleaaaGreatDoor
open Go.RowKit
def rest8 (st ak k a f was is : Int) (done : Bool) : List Value := [.int .i64 st, .int .u8 ak, .int .u8 k, .int .i64 a, .int .i64 f, .int .u64 was, .int .u64 is, .bool done]
theorem R2.cell8 {B b : Nat} {l : List Wd} {v : Value} {st ak k a f was is : Int} {done : Bool} {w : World} (h : R2 B b l v (rest8 st ak k a f was is done) w) (j : Nat) : w.cell? ⟨b, j, none⟩ = (v :: rest8 st ak k a f was is done)[j]? := by
  rw [Joins.cell_of_block h.blk]
  simp
theorem R2.free8 {B b : Nat} {l : List Wd} {v : Value} {rest : List Value} {w : World} (h : R2 B b l v rest w) (j : Nat) : w.frozen? ⟨b, j, none⟩ = false := Joins.unfrozen_of_block h.blk j
theorem R2.set {B b : Nat} {l : List Wd} {v : Value} {rest : List Value} {w : World} (h : R2 B b l v rest w) (j : Nat) (u : Value) : R2 B b l v (rest.set j u) (w.setCell ⟨b, j + 1, none⟩ u) := by
  refine ⟨?_, ⟨h.own.1, ?_⟩, h.pos⟩
  · rw [Joins.block_setCell h.blk]
    simp
  · rcases h.own.2 with hn | ⟨g, cap, cur, hv, hB, hg, r⟩
    · exact .inl hn
    · have hgb : g ≠ b := by
        rintro rfl
        have := h.blk.symm.trans hg
        simp at this
      exact .inr ⟨g, cap, cur, hv, hB, (Below.heap_setCell w _ _ g (by simpa using hgb)).trans hg, r⟩
def eight (w : World) (b : Nat) (st ak k a f was is : Int) (done : Bool) : World :=
  (((((((w.setCell ⟨b, 1, none⟩ (.int .i64 st)).setCell ⟨b, 2, none⟩ (.int .u8 ak)).setCell ⟨b, 3, none⟩ (.int .u8 k)).setCell ⟨b, 4, none⟩ (.int .i64 a)).setCell ⟨b, 5, none⟩ (.int .i64 f)).setCell ⟨b, 6, none⟩ (.int .u64 was)).setCell ⟨b, 7, none⟩ (.int .u64 is)).setCell ⟨b, 8, none⟩ (.bool done)
theorem R2.eight {B b : Nat} {l : List Wd} {v : Value} {st' ak' k' a' f' was' is' : Int} {done' : Bool} {w : World} (h : R2 B b l v (rest8 st' ak' k' a' f' was' is' done') w) (st ak k a f was is : Int) (done : Bool) :
    R2 B b l v (rest8 st ak k a f was is done) (eight w b st ak k a f was is done) :=
  (((((((h.set 0 (.int .i64 st)).set 1 (.int .u8 ak)).set 2 (.int .u8 k)).set 3 (.int .i64 a)).set 4 (.int .i64 f)).set 5 (.int .u64 was)).set 6 (.int .u64 is)).set 7 (.bool done)
structure Sp (B b : Nat) (v : Value) (X Y : World) : Prop where
  low : Below B X Y
  far : ∀ q, q < X.heap.size → q ≠ b → v.ownBlock ≠ some q → Y.heap[q]? = X.heap[q]?
  le : B ≤ X.heap.size
theorem Sp.of_below {B b : Nat} {v : Value} {X Y : World} (h : Below X.heap.size X Y) (hB : B ≤ X.heap.size) : Sp B b v X Y := ⟨h.mono hB, fun q hq _ _ => h.block q hq, hB⟩
theorem Sp.put {B b : Nat} {v : Value} {X Y Z : World} (h : Below X.heap.size X Y) (hB : B ≤ X.heap.size) (h2 : Below B Y Z) (hap : ∀ q, q < Y.heap.size → q ≠ b → v.ownBlock ≠ some q → Z.heap[q]? = Y.heap[q]?) : Sp B b v X Z :=
  ⟨(h.mono hB).trans h2, fun q hq h1 h3 => (hap q (Nat.lt_of_lt_of_le hq h.size) h1 h3).trans (h.block q hq), hB⟩
theorem Sp.drew {B b : Nat} {v : Value} {X Y : World} (h : Sp B b v X Y) : Sp B b v X Y.drew := ⟨h.low.drew, h.far, h.le⟩
theorem Sp.next {B b : Nat} {v : Value} {X Y Z : World} (h : Sp B b v X Y) (hb : Below Y.heap.size Y Z) : Sp B b v X Z :=
  ⟨h.low.trans (hb.mono (Nat.le_trans h.le h.low.size)), fun q hq h1 h2 => (hb.block q (Nat.lt_of_lt_of_le hq h.low.size)).trans (h.far q hq h1 h2), h.le⟩
theorem Sp.setC {B b : Nat} {v : Value} {X Y : World} (h : Sp B b v X Y) (hBb : B ≤ b) (j : Nat) (u : Value) : Sp B b v X (Y.setCell ⟨b, j, none⟩ u) :=
  ⟨h.low.setCell (p := ⟨b, j, none⟩) hBb u, fun q hq h1 h2 => (Below.heap_setCell Y _ _ q (by simpa using h1)).trans (h.far q hq h1 h2), h.le⟩
theorem Sp.eight {B b : Nat} {v : Value} {u w : World} (h : Sp B b v u w) (hBb : B ≤ b) (st ak k a f was is : Int) (done : Bool) : Sp B b v u (eight w b st ak k a f was is done) :=
  (((((((h.setC hBb 1 _).setC hBb 2 _).setC hBb 3 _).setC hBb 4 _).setC hBb 5 _).setC hBb 6 _).setC hBb 7 _).setC hBb 8 _
set_option maxHeartbeats 2000000 in
theorem load_any (B b : Nat) (l : List Wd) (v : Value) (st ak k' a' f' was is : Int) (done : Bool) (k a f : Int) (w : World) (h : R2 B b l v (rest8 st ak k' a' f' was is done) w) (hn : l.length ≤ 5000) (hBb : B ≤ b) (hBw : B ≤ w.heap.size) (hs0 : 0 ≤ st) (hs1 : st < 4611686018427387904) :
    Calls Tryz.prog 67 #[.pointer (some ⟨b, 0, none⟩), .agg #[.int .u8 k, .int .i64 a, .int .i64 f]] w fun e w' => e = .returned (.int .u64 (look l k a f)) ∧ R2 B b l v (rest8 (st + 1) 1 k a f (look l k a f) (look l k a f) false) w' ∧ Sp B b v w w' := by
  have hbb : Below w.heap.size w (w.alloc (.cells #[.int .u8 k, .int .i64 a, .int .i64 f] 33)) := (Below.refl _ _).alloc (Nat.le_refl _) _
  have e0 : (w.alloc (.cells #[.int .u8 k, .int .i64 a, .int .i64 f] 33)).cell? ⟨w.heap.size, 0, none⟩ = some (.int .u8 k) := by simp [go_sem]
  have e1 : (w.alloc (.cells #[.int .u8 k, .int .i64 a, .int .i64 f] 33)).cell? ⟨w.heap.size, 1, none⟩ = some (.int .i64 a) := by simp [go_sem]
  have e2 : (w.alloc (.cells #[.int .u8 k, .int .i64 a, .int .i64 f] 33)).cell? ⟨w.heap.size, 2, none⟩ = some (.int .i64 f) := by simp [go_sem]
  have hs : w.heap.size < (w.alloc (.cells #[.int .u8 k, .int .i64 a, .int .i64 f] 33)).heap.size := by simp
  have hbw : b ≠ w.heap.size := by have := h.size; omega
  have HR := Lib.hid (h.below hbb)
  have HB := Lib.hid hbb
  clear hbb h
  go_enter Tryz.func67, Tryz.ntmps67
  go_wp2_with fail
  revert e0 e1 e2 hs HR HB
  generalize w.alloc (.cells #[.int .u8 k, .int .i64 a, .int .i64 f] 33) = w0
  intro e0 e1 e2 hs HR HB
  refine (word_any B b l v _ k a f _ HR.out hn).mono ?_
  rintro e w1 ⟨rfl, hb1⟩
  have d0 := (hb1.cell (p := ⟨w.heap.size, 0, none⟩) hs).trans e0
  have d1 := (hb1.cell (p := ⟨w.heap.size, 1, none⟩) hs).trans e1
  have d2 := (hb1.cell (p := ⟨w.heap.size, 2, none⟩) hs).trans e2
  have HR1 := Lib.hid (HR.out.below hb1)
  have HB1 := Lib.hid (HB.out.trans (hb1.mono HB.out.size))
  have r1 : w1.cell? ⟨b, 1, none⟩ = some (.int .i64 st) := HR1.out.cell8 1
  have r2 : w1.cell? ⟨b, 2, none⟩ = some (.int .u8 ak) := HR1.out.cell8 2
  have r3 : w1.cell? ⟨b, 3, none⟩ = some (.int .u8 k') := HR1.out.cell8 3
  have r4 : w1.cell? ⟨b, 4, none⟩ = some (.int .i64 a') := HR1.out.cell8 4
  have r5 : w1.cell? ⟨b, 5, none⟩ = some (.int .i64 f') := HR1.out.cell8 5
  have r6 : w1.cell? ⟨b, 6, none⟩ = some (.int .u64 was) := HR1.out.cell8 6
  have r7 : w1.cell? ⟨b, 7, none⟩ = some (.int .u64 is) := HR1.out.cell8 7
  have r8 : w1.cell? ⟨b, 8, none⟩ = some (.bool done) := HR1.out.cell8 8
  have z1 := HR1.out.free8 1
  have z2 := HR1.out.free8 2
  have z3 := HR1.out.free8 3
  have z4 := HR1.out.free8 4
  have z5 := HR1.out.free8 5
  have z6 := HR1.out.free8 6
  have z7 := HR1.out.free8 7
  have z8 := HR1.out.free8 8
  clear hb1 e0 e1 e2
  go_wp2_with fail
  go_ret
  exact ⟨rfl, HR1.out.eight (st + 1) 1 k a f (look l k a f) (look l k a f) false, (Sp.of_below HB1.out hBw).eight hBb (st + 1) 1 k a f (look l k a f) (look l k a f) false⟩
end Go.Proofs.YtmjcbjcnmgleaaaGreatDoor
namespace Go.Proofs.YtmjcbjcnmgleaaaGreatDoor
open Go.RowKit
theorem putL_len (l : List Wd) (k a f x : Int) : (putL l k a f x).length ≤ l.length + 1 := by
  induction l with
  | nil => simp [putL]
  | cons y r ih =>
    simp only [putL]
    split
    · simp
    · simp only [List.length_cons]; omega
theorem putM_len (l : List Wd) (k a f x : Int) : (putM l k a f x).length ≤ l.length + 1 := by
  unfold putM
  split
  · exact putL_len l k a f x
  · omega
def seven (w : World) (b : Nat) (ak k a f was is : Int) (done : Bool) : World :=
  ((((((w.setCell ⟨b, 2, none⟩ (.int .u8 ak)).setCell ⟨b, 3, none⟩ (.int .u8 k)).setCell ⟨b, 4, none⟩ (.int .i64 a)).setCell ⟨b, 5, none⟩ (.int .i64 f)).setCell ⟨b, 6, none⟩ (.int .u64 was)).setCell ⟨b, 7, none⟩ (.int .u64 is)).setCell ⟨b, 8, none⟩ (.bool done)
theorem R2.seven {B b : Nat} {l : List Wd} {v : Value} {st ak' k' a' f' was' is' : Int} {done' : Bool} {w : World} (h : R2 B b l v (rest8 st ak' k' a' f' was' is' done') w) (ak k a f was is : Int) (done : Bool) :
    R2 B b l v (rest8 st ak k a f was is done) (seven w b ak k a f was is done) :=
  ((((((h.set 1 (.int .u8 ak)).set 2 (.int .u8 k)).set 3 (.int .i64 a)).set 4 (.int .i64 f)).set 5 (.int .u64 was)).set 6 (.int .u64 is)).set 7 (.bool done)
theorem Sp.seven {B b : Nat} {v : Value} {u w : World} (h : Sp B b v u w) (hBb : B ≤ b) (ak k a f was is : Int) (done : Bool) : Sp B b v u (seven w b ak k a f was is done) :=
  ((((((h.setC hBb 2 _).setC hBb 3 _).setC hBb 4 _).setC hBb 5 _).setC hBb 6 _).setC hBb 7 _).setC hBb 8 _
theorem far7 {w : World} {b q o : Nat} {v x2 x3 x4 x5 x6 x7 x8 : Value} (hne : b ≠ q) (h : w.cell? ⟨q, o, none⟩ = some v) :
    (((((((w.setCell ⟨b, 2, none⟩ x2).setCell ⟨b, 3, none⟩ x3).setCell ⟨b, 4, none⟩ x4).setCell ⟨b, 5, none⟩ x5).setCell ⟨b, 6, none⟩ x6).setCell ⟨b, 7, none⟩ x7).setCell ⟨b, 8, none⟩ x8).cell? ⟨q, o, none⟩ = some v := by
  rw [World.cell?_setCell_far _ _ _ _ hne, World.cell?_setCell_far _ _ _ _ hne, World.cell?_setCell_far _ _ _ _ hne, World.cell?_setCell_far _ _ _ _ hne, World.cell?_setCell_far _ _ _ _ hne, World.cell?_setCell_far _ _ _ _ hne, World.cell?_setCell_far _ _ _ _ hne]
  exact h
set_option maxHeartbeats 1000000 in
theorem store_any (B b : Nat) (l : List Wd) (v : Value) (st ak k' a' f' was is : Int) (done : Bool) (k a f x : Int) (w : World) (h : R2 B b l v (rest8 st ak k' a' f' was is done) w) (hn : l.length ≤ 4999) (hBb : B ≤ b) (hBw : B ≤ w.heap.size) (hs0 : 0 ≤ st) (hs1 : st < 4611686018427387904) :
    Calls Tryz.prog 33 #[.pointer (some ⟨b, 0, none⟩), .agg #[.int .u8 k, .int .i64 a, .int .i64 f], .int .u64 x] w fun e w' => e = .returned (.tuple #[]) ∧ (∃ v', R2 B b (putM l k a f x) v' (rest8 (st + 1) 2 k a f (look l k a f) (look (putM l k a f x) k a f) false) w') ∧ Sp B b v w w' := by
  have hbb : Below w.heap.size w (w.alloc (.cells #[.int .u8 k, .int .i64 a, .int .i64 f] 33)) := (Below.refl _ _).alloc (Nat.le_refl _) _
  have hblk : (w.alloc (.cells #[.int .u8 k, .int .i64 a, .int .i64 f] 33)).heap[w.heap.size]? = some (.cells #[.int .u8 k, .int .i64 a, .int .i64 f] 33 (0, 0)) := by
    show (w.heap.push _)[w.heap.size]? = _
    rw [Array.getElem?_push, if_pos rfl]
  have hs : w.heap.size < (w.alloc (.cells #[.int .u8 k, .int .i64 a, .int .i64 f] 33)).heap.size := by simp
  have hbw : w.heap.size ≠ b := by have := h.size; omega
  have hvw : v.ownBlock ≠ some w.heap.size := fun e => by have := h.own_lt _ e; omega
  have HR := Lib.hid (h.below hbb)
  have HB := Lib.hid hbb
  have HN := Lib.hid (Nat.le_trans (putM_len l k a f x) (by omega : l.length + 1 ≤ 5000))
  clear hbb h
  go_enter Tryz.func33, Tryz.ntmps33
  have e0 := Joins.cell_of_block hblk 0
  have e1 := Joins.cell_of_block hblk 1
  have e2 := Joins.cell_of_block hblk 2
  have HK := Lib.hid hblk
  clear hblk
  simp only [List.getElem?_toArray, List.getElem?_cons_zero, List.getElem?_cons_succ] at e0 e1 e2
  go_wp2_with fail
  revert hs HR HB e0 e1 e2 HK
  generalize w.alloc (.cells #[.int .u8 k, .int .i64 a, .int .i64 f] 33) = w0
  intro hs HR HB HK e0 e1 e2
  refine (word_any B b l v _ k a f _ HR.out (by omega)).mono ?_
  rintro e w1 ⟨rfl, hb1⟩
  have HR1 := Lib.hid (HR.out.below hb1)
  have HB1 := Lib.hid (HB.out.trans (hb1.mono HB.out.size))
  have hk1 := (hb1.block w.heap.size hs).trans HK.out
  have hs1' : w.heap.size < w1.heap.size := Nat.lt_of_lt_of_le hs hb1.size
  have d0 := Joins.cell_of_block hk1 0
  have d1 := Joins.cell_of_block hk1 1
  have d2 := Joins.cell_of_block hk1 2
  have HK1 := Lib.hid hk1
  simp only [List.getElem?_toArray, List.getElem?_cons_zero, List.getElem?_cons_succ] at d0 d1 d2
  clear hb1 e0 e1 e2 hk1
  go_wp2_with fail
  refine (put_any B b l v _ k a f x _ HR1.out (by omega) hBb (Nat.le_trans hBw HB1.out.size)).mono ?_
  rintro e w2 ⟨rfl, ⟨v2, hR2⟩, hB2, hap⟩
  have HR2 := Lib.hid hR2
  have HB2 := Lib.hid (Sp.put HB1.out hBw hB2 hap)
  have hk2 := (hap w.heap.size hs1' hbw hvw).trans HK1.out
  have g0 := Joins.cell_of_block hk2 0
  have g1 := Joins.cell_of_block hk2 1
  have g2 := Joins.cell_of_block hk2 2
  have HK2 := Lib.hid hk2
  have hs2 : w.heap.size < w2.heap.size := by have := hB2.size; omega
  simp only [List.getElem?_toArray, List.getElem?_cons_zero, List.getElem?_cons_succ] at g0 g1 g2
  have r1 : w2.cell? ⟨b, 1, none⟩ = some (.int .i64 st) := HR2.out.cell8 1
  have z1 := HR2.out.free8 1
  clear d0 d1 d2 hR2 hB2 hap hk2
  go_wp2_with fail
  have HR3 := Lib.hid (show R2 B b (putM l k a f x) v2 (rest8 (st + 1) ak k' a' f' was is done) (w2.setCell ⟨b, 1, none⟩ (.int .i64 (st + 1))) from HR2.out.set 0 (.int .i64 (st + 1)))
  have HB3 := Lib.hid (HB2.out.setC hBb 1 (.int .i64 (st + 1)))
  have hk3 : (w2.setCell ⟨b, 1, none⟩ (.int .i64 (st + 1))).heap[w.heap.size]? = some (.cells #[.int .u8 k, .int .i64 a, .int .i64 f] 33 (0, 0)) := (Below.heap_setCell w2 _ _ w.heap.size (by simpa using hbw)).trans HK2.out
  have hs3 : w.heap.size < (w2.setCell ⟨b, 1, none⟩ (.int .i64 (st + 1))).heap.size := by simpa [World.setCell] using hs2
  clear g0 g1 g2 r1 z1 HR HB HK HR1 HB1 HK1 HR2 HB2 HK2 hs2 hs hs1'
  revert HR3 HB3 hk3 hs3
  generalize w2.setCell ⟨b, 1, none⟩ (.int .i64 (st + 1)) = v3
  intro HR3 HB3 hk3 hs3
  have m0 := Joins.cell_of_block hk3 0
  have m1 := Joins.cell_of_block hk3 1
  have m2 := Joins.cell_of_block hk3 2
  clear hk3
  simp only [List.getElem?_toArray, List.getElem?_cons_zero, List.getElem?_cons_succ] at m0 m1 m2
  have hbw' : b ≠ w.heap.size := Ne.symm hbw
  have n0 : v3.drew.cell? ⟨w.heap.size, 0, none⟩ = some (.int .u8 k) := m0
  have n1 : v3.drew.cell? ⟨w.heap.size, 1, none⟩ = some (.int .i64 a) := m1
  have n2 : v3.drew.cell? ⟨w.heap.size, 2, none⟩ = some (.int .i64 f) := m2
  go_region_held3 (fun w1 => w1.cell? ⟨w.heap.size, 0, none⟩ = some (.int .u8 k) ∧ w1.cell? ⟨w.heap.size, 1, none⟩ = some (.int .i64 a) ∧ w1.cell? ⟨w.heap.size, 2, none⟩ = some (.int .i64 f))
    (first | with_reducible exact ⟨n0, n1, n2⟩ | with_reducible exact ⟨q0, q1, q2⟩ | with_reducible exact ⟨far7 hbw' q0, far7 hbw' q1, far7 hbw' q2⟩)
    (first | (go_at_call 64; refine (word_any B b (putM l k a f x) v2 _ k a f _ (HR3.out.below (Below.refl _ _).drew) HN.out).mono ?_; rintro e w' ⟨rfl, hb⟩; have q0 : w'.cell? ⟨w.heap.size, 0, none⟩ = some (.int .u8 k) := (hb.cell (p := ⟨w.heap.size, 0, none⟩) hs3).trans n0; have q1 : w'.cell? ⟨w.heap.size, 1, none⟩ = some (.int .i64 a) := (hb.cell (p := ⟨w.heap.size, 1, none⟩) hs3).trans n1; have q2 : w'.cell? ⟨w.heap.size, 2, none⟩ = some (.int .i64 f) := (hb.cell (p := ⟨w.heap.size, 2, none⟩) hs3).trans n2; have HR4 := Lib.hid ((HR3.out.below (Below.refl _ _).drew).below hb); have HB4 := Lib.hid (HB3.out.drew.next hb); have y2 := HR4.out.cell8 2; have y3 := HR4.out.cell8 3; have y4 := HR4.out.cell8 4; have y5 := HR4.out.cell8 5; have y6 := HR4.out.cell8 6; have y7 := HR4.out.cell8 7; have y8 := HR4.out.cell8 8; simp only [rest8, List.getElem?_cons_zero, List.getElem?_cons_succ] at y2 y3 y4 y5 y6 y7 y8; have z2 := HR4.out.free8 2; have z3 := HR4.out.free8 3; have z4 := HR4.out.free8 4; have z5 := HR4.out.free8 5; have z6 := HR4.out.free8 6; have z7 := HR4.out.free8 7; have z8 := HR4.out.free8 8; clear hb))
  go_wp2
  go_end0
  exact ⟨rfl, ⟨_, HR4.out.seven 2 k a f (look l k a f) (look (putM l k a f x) k a f) false⟩, HB4.out.seven hBb 2 k a f (look l k a f) (look (putM l k a f x) k a f) false⟩
end Go.Proofs.YtmjcbjcnmgleaaaGreatDoor
