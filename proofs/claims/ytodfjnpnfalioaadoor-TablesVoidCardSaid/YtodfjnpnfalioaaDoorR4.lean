/-
  The document's memory of layer 2: put into a memory without a list, and whatever put makes of whatever list; condition: at most 1000 words, numbers of their kinds.
-/
import Derived.Test.YtodfjnpnfalioaaDoorR3
namespace Go.Proofs.YtodfjnpnfalioaaDoor
open Go.RowKit

set_option maxHeartbeats 2000000 in
theorem put_nil (B b : Nat) (rest : List Value) (k a f x : Int) (w : World) (h : R2 B b [] (.slice none 0 0) rest w) (hBb : B ≤ b) (hBw : B ≤ w.heap.size) (hm : mayB k a f = true) :
    Calls Tryd.prog 57 #[.pointer (some ⟨b, 0, none⟩), .agg #[.int .u8 k, .int .i64 a, .int .i64 f], .int .u64 x] w (PutPost B b [⟨k, a, f, x⟩] (.slice none 0 0) rest w) := by
  have hbb : Below w.heap.size w (w.alloc (.cells #[.int .u8 k, .int .i64 a, .int .i64 f] 55)) := (Below.refl _ _).alloc (Nat.le_refl _) _
  have e0 : (w.alloc (.cells #[.int .u8 k, .int .i64 a, .int .i64 f] 55)).cell? ⟨w.heap.size, 0, none⟩ = some (.int .u8 k) := by simp [go_sem]
  have e1 : (w.alloc (.cells #[.int .u8 k, .int .i64 a, .int .i64 f] 55)).cell? ⟨w.heap.size, 1, none⟩ = some (.int .i64 a) := by simp [go_sem]
  have e2 : (w.alloc (.cells #[.int .u8 k, .int .i64 a, .int .i64 f] 55)).cell? ⟨w.heap.size, 2, none⟩ = some (.int .i64 f) := by simp [go_sem]
  have hs : w.heap.size < (w.alloc (.cells #[.int .u8 k, .int .i64 a, .int .i64 f] 55)).heap.size := by simp
  have HR := Lib.hid (h.below hbb)
  have HB := Lib.hid hbb
  clear hbb h
  go_enter Tryd.func57, Tryd.ntmps57
  go_wp2_with fail
  revert e0 e1 e2 hs HR HB
  generalize w.alloc (.cells #[.int .u8 k, .int .i64 a, .int .i64 f] 55) = w0
  intro e0 e1 e2 hs HR HB
  refine (may_any k a f _).mono ?_
  rintro e w1 ⟨rfl, hb1⟩
  have d0 := (hb1.cell (p := ⟨w.heap.size, 0, none⟩) hs).trans e0
  have d1 := (hb1.cell (p := ⟨w.heap.size, 1, none⟩) hs).trans e1
  have d2 := (hb1.cell (p := ⟨w.heap.size, 2, none⟩) hs).trans e2
  have HR1 := Lib.hid (HR.out.below hb1)
  have HB1 := Lib.hid (HB.out.trans (hb1.mono HB.out.size))
  have hb' := HR1.out.head
  clear hb1 e0 e1 e2
  go_wp2_with fail
  refine wp_loop_rounds 1 ?_
  rw [rounds_succ]
  go_wp2
  have HR2 := Lib.hid (HR1.out)
  have HB2 := Lib.hid (HB1.out)
  have g0 : w1.cell? ⟨w.heap.size, 0, none⟩ = some (.int .u8 k) := d0
  have g1 : w1.cell? ⟨w.heap.size, 1, none⟩ = some (.int .i64 a) := d1
  have g2 : w1.cell? ⟨w.heap.size, 2, none⟩ = some (.int .i64 f) := d2
  have g3 : w1.cell? ⟨b, 0, none⟩ = some (.slice none 0 0) := hb'
  clear d0 d1 d2 hb' HR1 HB1 HR HB
  revert HR2 HB2 g0 g1 g2 g3
  generalize w1 = w2
  intro HR2 HB2 g0 g1 g2 g3
  obtain ⟨i0, q1, q2, q3, q4⟩ := info_parts Tryd_info64
  have HQ := Lib.hid (And.intro q1 (And.intro q2 (And.intro q3 q4)))
  have fb : w2.frozen? ⟨b, 0, none⟩ = false := Joins.unfrozen_of_block HR2.out.blk 0
  clear q1 q2 q3 q4
  have HW := Lib.hid ((HR2.out.below (((Below.refl _ _).alloc (Nat.le_refl _) (.cells #[.int .u8 k, .int .i64 a, .int .i64 f, .int .u64 x] 116)).drew)))
  have HN := Lib.hid (World.news_of_block (w := (w2.alloc (.cells #[.int .u8 k, .int .i64 a, .int .i64 f, .int .u64 x] 116)).drew) (B := w2.heap.size) (cs := #[.int .u8 k, .int .i64 a, .int .i64 f, .int .u64 x]) (t := 116) (fr := (0, 0)) (by show (w2.heap.push _)[w2.heap.size]? = _; rw [Array.getElem?_push, if_pos rfl]))
  have g4 : (w2.alloc (.cells #[.int .u8 k, .int .i64 a, .int .i64 f, .int .u64 x] 116)).cell? ⟨b, 0, none⟩ = some (.slice none 0 0) := (HR2.out.below ((Below.refl _ _).alloc (Nat.le_refl _) (.cells #[.int .u8 k, .int .i64 a, .int .i64 f, .int .u64 x] 116))).head
  have hBs : B ≤ (w2.alloc (.cells #[.int .u8 k, .int .i64 a, .int .i64 f, .int .u64 x] 116)).drew.heap.size := by have := HB2.out.size; simp; omega
  have HS := Lib.hid hBs
  have HT := Lib.hid (HB2.out.trans (((Below.refl w2.heap.size w2).alloc (Nat.le_refl _) (.cells #[.int .u8 k, .int .i64 a, .int .i64 f, .int .u64 x] 116)).drew.mono HB2.out.size))
  have HU := Lib.hid (((HB2.out.mono hBw).alloc (Nat.le_trans hBw HB2.out.size) (.cells #[.int .u8 k, .int .i64 a, .int .i64 f, .int .u64 x] 116)).drew)
  clear hBs
  go_region_law ((refine step_append_lies _ rfl (.tmp 41) (.tmp 45) 71 rfl B 116 i0 (.agg #[.int .u8 0, .int .i64 0, .int .i64 0, .int .u64 0]) 4 32 Tryd.underlying71 HQ.out.1 HQ.out.2.1 HQ.out.2.2.1 HQ.out.2.2.2 rfl (by decide) (.slice none 0 0) 0 [] (by simp [Act.eval]) HW.out.own ⟨w2.heap.size, 0, none⟩ 1 1 [.int .u8 k, .int .i64 a, .int .i64 f, .int .u64 x] (by simp [Act.eval]) rfl HN.out (by simp [Value.oneCell']) (by decide) (by unfold maxLen; omega) (by omega) HS.out _ rfl ?_; intro g' cap' w' hown hgrow hat hlt; obtain ⟨p1, p2, p3, p4, p5⟩ := HW.out.push (l := []) (y := ⟨k, a, f, x⟩) hBb hown hgrow HS.out; have P3 := Lib.hid p3; have P4 := Lib.hid p4; have P5 := Lib.hid p5; clear p3 p4 p5 hown hgrow hat hlt))
  all_goals
    go_end0
    exact ⟨rfl, ⟨_, P3.out⟩, HU.out.trans P4.out, fun q hq hqb hg => (P5.out q (Nat.lt_of_lt_of_le hq HT.out.size) hqb hg).trans (HT.out.block q hq)⟩

def putM (l : List Wd) (k a f x : Int) : List Wd := if mayB k a f = true then putL l k a f x else l
theorem put_any (B b : Nat) (l : List Wd) (v : Value) (rest : List Value) (k a f x : Int) (w : World) (h : R2 B b l v rest w) (hn : l.length ≤ 1000) (hBb : B ≤ b) (hBw : B ≤ w.heap.size) :
    Calls Tryd.prog 57 #[.pointer (some ⟨b, 0, none⟩), .agg #[.int .u8 k, .int .i64 a, .int .i64 f], .int .u64 x] w (PutPost B b (putM l k a f x) v rest w) := by
  by_cases hm : mayB k a f = true
  · have e : putM l k a f x = putL l k a f x := if_pos hm
    rw [e]
    rcases h.own.2 with ⟨hv, h0⟩ | ⟨g, cap, cur, hv, hB, hg, r⟩
    · have e : l = [] := List.length_eq_zero_iff.1 h0
      subst e hv
      exact put_nil B b rest k a f x w h hBb hBw hm
    · subst hv
      exact put_list B b g cap l rest k a f x w h hn hBb hBw hm
  · have e : putM l k a f x = l := if_neg hm
    rw [e]
    exact (put_not b k a f x w (by simpa using hm)).mono fun _ _ hh => ⟨hh.1, ⟨v, h.below hh.2⟩, hh.2.mono hBw, fun q hq _ _ => hh.2.block q hq⟩
/-- Who owns a row owns it in a block that is there. -/
theorem R2.own_lt {B b : Nat} {l : List Wd} {v : Value} {rest : List Value} {w : World} (h : R2 B b l v rest w) : ∀ q, v.ownBlock = some q → q < w.heap.size := by
  intro q hq
  rcases h.own.2 with ⟨hv, _⟩ | ⟨g, cap, cur, hv, hB, hg, r⟩
  · subst hv; simp [Value.ownBlock] at hq
  · subst hv
    simp only [Value.ownBlock, Option.some.injEq] at hq
    subst hq
    rcases Nat.lt_or_ge g w.heap.size with hlt | hge
    · exact hlt
    · rw [Array.getElem?_eq_none hge] at hg; cases hg
end Go.Proofs.YtodfjnpnfalioaaDoor
