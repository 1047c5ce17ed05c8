/-
  The document's memory of layer 2 as it lies: its list of words, owned; what the call of put makes of it; condition: fewer than 1000 words, numbers of their kinds.
-/
import Derived.Test.YtodfjnpnfalioaaDoorR2
import Derived.Deep.AppendLies
import Derived.Deep.RegionLaw
import Derived.Deep.RegionHeldLaw
import Derived.Deep.RegionHeld3
import Derived.Lib.SmallJoins
namespace Go.Proofs.YtodfjnpnfalioaaDoor
open Go.RowKit

def Wd.cells (x : Wd) : List Value := [.int .u8 x.k, .int .i64 x.a, .int .i64 x.f, .int .u64 x.v]
def flat (l : List Wd) : List Value := l.flatMap Wd.cells
theorem flat_len (l : List Wd) : (flat l).length = l.length * 4 := by
  induction l with
  | nil => rfl
  | cons x r ih => simp only [flat, List.flatMap_cons, List.length_append, List.length_cons] at *; simp only [Wd.cells, List.length_cons, List.length_nil]; omega
theorem flat_at (l : List Wd) : ∀ i j : Nat, i < l.length → j < 4 → (flat l)[i * 4 + j]? = (l.getD i wd0).cells[j]? := by
  induction l with
  | nil => intro i j hi; simp at hi
  | cons x r ih =>
    intro i j hi hj
    have hc : x.cells.length = 4 := rfl
    show (x.cells ++ flat r)[i * 4 + j]? = _
    cases i with
    | zero => rw [List.getElem?_append_left (by omega)]; simp
    | succ i =>
      rw [List.getElem?_append_right (by omega), hc, show (i + 1) * 4 + j - 4 = i * 4 + j by omega, ih i j (by simpa using hi) hj]
      simp
theorem own_cells {w : World} {B g cap : Nat} {l : List Wd} (h : w.ownsRow B 116 4 (.slice (some ⟨g, 0, none⟩) l.length cap) l.length (flat l)) : WdCells w g l := fun i hi => by
  have k : ∀ j, j < 4 → w.cell? ⟨g, i * 4 + j, none⟩ = (l.getD i wd0).cells[j]? := fun j hj => (h.cellAt (i * 4 + j) (by omega)).trans (flat_at l i j hi hj)
  exact ⟨k 0 (by decide), k 1 (by decide), k 2 (by decide), k 3 (by decide)⟩

/-- The document's memory: its struct in block b, the words' slice v first, owned from B on; rest: the count of steps and the last access. -/
structure R2 (B b : Nat) (l : List Wd) (v : Value) (rest : List Value) (w : World) : Prop where
  blk : w.heap[b]? = some (.cells (v :: rest).toArray 76 (0, 0))
  own : w.ownsRow B 116 4 v l.length (flat l)
  pos : 0 < B
theorem R2.size {B b : Nat} {l : List Wd} {v : Value} {rest : List Value} {w : World} (h : R2 B b l v rest w) : b < w.heap.size := by
  rcases Nat.lt_or_ge b w.heap.size with hlt | hge
  · exact hlt
  · have := h.blk; rw [Array.getElem?_eq_none hge] at this; cases this
theorem R2.below {B b : Nat} {l : List Wd} {v : Value} {rest : List Value} {w w' : World} (h : R2 B b l v rest w) (hb : Below w.heap.size w w') : R2 B b l v rest w' := by
  refine ⟨(hb.block b h.size).trans h.blk, ⟨h.own.1, ?_⟩, h.pos⟩
  rcases h.own.2 with hn | ⟨g, cap, cur, hv, hB, hg, r⟩
  · exact .inl hn
  · refine .inr ⟨g, cap, cur, hv, hB, ?_, r⟩
    have hlt : g < w.heap.size := by
      rcases Nat.lt_or_ge g w.heap.size with hlt | hge
      · exact hlt
      · rw [Array.getElem?_eq_none hge] at hg; cases hg
    exact (hb.block g hlt).trans hg
theorem R2.head {B b : Nat} {l : List Wd} {v : Value} {rest : List Value} {w : World} (h : R2 B b l v rest w) : w.cell? ⟨b, 0, none⟩ = some v := by
  rw [Joins.cell_of_block h.blk]
  rfl

theorem word_any (B b : Nat) (l : List Wd) (v : Value) (rest : List Value) (k a f : Int) (w : World) (h : R2 B b l v rest w) (hn : l.length ≤ 1000) :
    Calls Tryd.prog 56 #[.pointer (some ⟨b, 0, none⟩), .agg #[.int .u8 k, .int .i64 a, .int .i64 f]] w fun e w' => e = .returned (.int .u64 (look l k a f)) ∧ Below w.heap.size w w' := by
  rcases h.own.2 with ⟨hv, h0⟩ | ⟨g, cap, cur, hv, hB, hg, r⟩
  · have e : l = [] := List.length_eq_zero_iff.1 h0
    rw [e]
    exact word_nil b k a f w (by rw [h.head, hv])
  · have ho := h.own
    rw [hv] at ho
    exact word_list b g cap l k a f w hn (by rw [h.head, hv]) (own_cells ho)

/-- What put makes of the list. -/
def putL : List Wd → Int → Int → Int → Int → List Wd
  | [], k, a, f, x => [⟨k, a, f, x⟩]
  | y :: r, k, a, f, x => if y.is k a f = true then ⟨y.k, y.a, y.f, x⟩ :: r else y :: putL r k a f x
theorem putL_hit (l : List Wd) (k a f x : Int) : ∀ i : Nat, i < l.length → (∀ j, j < i → (l.getD j wd0).is k a f = false) → (l.getD i wd0).is k a f = true →
    flat (putL l k a f x) = (flat l).set (i * 4 + 3) (.int .u64 x) ∧ (putL l k a f x).length = l.length := by
  induction l with
  | nil => intro i hi; simp at hi
  | cons y r ih =>
    intro i hi hb ht
    have hc : y.cells.length = 4 := rfl
    cases i with
    | zero =>
      simp at ht
      simp [putL, ht, flat, Wd.cells]
    | succ i =>
      have h0 := hb 0 (by omega)
      simp at h0
      obtain ⟨e1, e2⟩ := ih i (by simpa using hi) (fun j hj => by simpa using hb (j + 1) (by omega)) (by simpa using ht)
      simp only [putL, h0]
      refine ⟨?_, by simp [e2]⟩
      show y.cells ++ flat (putL r k a f x) = (y.cells ++ flat r).set ((i + 1) * 4 + 3) (.int .u64 x)
      rw [List.set_append_right _ _ (by omega), hc, e1, show (i + 1) * 4 + 3 - 4 = i * 4 + 3 by omega]
theorem putL_miss (l : List Wd) (k a f x : Int) (h : ∀ j, j < l.length → (l.getD j wd0).is k a f = false) : putL l k a f x = l ++ [⟨k, a, f, x⟩] := by
  induction l with
  | nil => rfl
  | cons y r ih =>
    have h0 := h 0 (by simp)
    simp at h0
    simp only [putL, h0]
    rw [ih fun j hj => by simpa using h (j + 1) (by simpa using hj)]
    rfl

set_option maxHeartbeats 1000000 in
theorem put_not (b : Nat) (k a f x : Int) (w : World) (hm : mayB k a f = false) :
    Calls Tryd.prog 57 #[.pointer (some ⟨b, 0, none⟩), .agg #[.int .u8 k, .int .i64 a, .int .i64 f], .int .u64 x] w fun e w' => e = .returned (.tuple #[]) ∧ Below w.heap.size w w' := by
  have hbb : Below w.heap.size w (w.alloc (.cells #[.int .u8 k, .int .i64 a, .int .i64 f] 55)) := (Below.refl _ _).alloc (Nat.le_refl _) _
  have HB := Lib.hid hbb
  clear hbb
  go_enter Tryd.func57, Tryd.ntmps57
  go_wp2_with fail
  refine (may_any k a f _).mono ?_
  rintro e w1 ⟨rfl, hb1⟩
  have HB1 := Lib.hid (HB.out.trans (hb1.mono HB.out.size))
  clear hb1
  go_wp2_with fail
  exact bodyPost_ret (results_none rfl _ _ _) rfl ⟨rfl, HB1.out⟩

theorem R2.drewN {B b : Nat} {l : List Wd} {v : Value} {rest : List Value} {w : World} (h : R2 B b l v rest w) (n : Nat) : R2 B b l v rest (w.drewN n) := ⟨h.blk, h.own, h.pos⟩
theorem Tryd_info64 : (Tryd.prog.info? 116).map (fun i => (i.zero, i.size, i.bytes)) = some (some (.agg #[.int .u8 0, .int .i64 0, .int .i64 0, .int .u64 0]), 4, 32) := by kernel_rfl
/-- What a call of put leaves: the list l' in the same struct, and below B nothing has turned. -/
def PutPost (B b : Nat) (l' : List Wd) (v : Value) (rest : List Value) (w : World) (e : Ending) (w' : World) : Prop :=
  e = .returned (.tuple #[]) ∧ (∃ v', R2 B b l' v' rest w') ∧ Below B w w' ∧ ∀ q, q < w.heap.size → q ≠ b → v.ownBlock ≠ some q → w'.heap[q]? = w.heap[q]?
theorem R2.hit {B b g cap : Nat} {l : List Wd} {rest : List Value} {w : World} {k a f x : Int} {i : Nat} (h : R2 B b l (.slice (some ⟨g, 0, none⟩) l.length cap) rest w) (hi : i < l.length) (hno : ∀ j, j < i → (l.getD j wd0).is k a f = false) (hit : (l.getD i wd0).is k a f = true) :
    R2 B b (putL l k a f x) (.slice (some ⟨g, 0, none⟩) l.length cap) rest (w.setCell ⟨g, i * 4 + 3, none⟩ (.int .u64 x)) ∧ Below B w (w.setCell ⟨g, i * 4 + 3, none⟩ (.int .u64 x)) ∧
      ∀ q, q ≠ g → (w.setCell ⟨g, i * 4 + 3, none⟩ (.int .u64 x)).heap[q]? = w.heap[q]? := by
  obtain ⟨e1, e2⟩ := putL_hit l k a f x i hi hno hit
  obtain ⟨s1, s2⟩ := h.own.stored (i * 4 + 3) (.int .u64 x)
  rcases h.own.2 with ⟨hv, _⟩ | ⟨g', cap', cur, hv, hB, hg, r⟩
  · cases hv
  · cases hv
    have hne : b ≠ g := by
      rintro rfl
      have := h.blk.symm.trans hg
      simp at this
    refine ⟨⟨(Below.heap_setCell w _ _ b (by simpa using hne)).trans h.blk, ?_, h.pos⟩, (Below.refl _ _).setCell hB _, fun q hq => Below.heap_setCell w _ _ q (by simpa using hq)⟩
    rw [e1, e2]
    exact s1

theorem flat_push (l : List Wd) (y : Wd) : flat (l ++ [y]) = flat l ++ y.cells := by simp [flat]
/-- Behind an append to the list, and the store of the new slice. -/
theorem R2.push {B b g' cap' : Nat} {l : List Wd} {v : Value} {rest : List Value} {u w' : World} {y : Wd} (h : R2 B b l v rest u) (hBb : B ≤ b)
    (hown : w'.ownsRow B 116 4 (.slice (some ⟨g', 0, none⟩) (l.length + 1) cap') (l.length + 1) (flat l ++ y.cells)) (hgrow : u.grownBy w' v.ownBlock) (hBu : B ≤ u.heap.size) :
    w'.cell? ⟨b, 0, none⟩ = some v ∧ w'.frozen? ⟨b, 0, none⟩ = false ∧ R2 B b (l ++ [y]) (.slice (some ⟨g', 0, none⟩) (l.length + 1) cap') rest (w'.setCell ⟨b, 0, none⟩ (.slice (some ⟨g', 0, none⟩) (l.length + 1) cap')) ∧
      Below B u (w'.setCell ⟨b, 0, none⟩ (.slice (some ⟨g', 0, none⟩) (l.length + 1) cap')) ∧
      ∀ q, q < u.heap.size → q ≠ b → v.ownBlock ≠ some q → (w'.setCell ⟨b, 0, none⟩ (.slice (some ⟨g', 0, none⟩) (l.length + 1) cap')).heap[q]? = u.heap[q]? := by
  have hne : v.ownBlock ≠ some b ∧ ∀ k, v.ownBlock = some k → B ≤ k := by
    rcases h.own.2 with ⟨hv, _⟩ | ⟨g, cap, cur, hv, hB, hg, r⟩
    · subst hv
      exact ⟨by simp [Value.ownBlock], fun k hk => by simp [Value.ownBlock] at hk⟩
    · subst hv
      refine ⟨fun e => ?_, fun k hk => ?_⟩
      · simp only [Value.ownBlock, Option.some.injEq] at e
        subst e
        have := h.blk.symm.trans hg
        simp at this
      · simp only [Value.ownBlock, Option.some.injEq] at hk
        omega
  have hb : w'.heap[b]? = some (.cells (v :: rest).toArray 76 (0, 0)) := (hgrow.block b h.size (fun e => hne.1 e.symm)).trans h.blk
  refine ⟨by rw [Joins.cell_of_block hb]; rfl, Joins.unfrozen_of_block hb 0, ⟨?_, ?_, h.pos⟩, ?_, fun q hq hqb hv => (Below.heap_setCell w' _ _ q (by simpa using hqb)).trans (hgrow.block q hq (fun e => hv e.symm))⟩
  · rw [Joins.block_setCell hb]
    simp
  · refine ⟨by rw [flat_push, hown.1]; simp, ?_⟩
    rw [flat_push, show (l ++ [y]).length = l.length + 1 by simp]
    rcases hown.2 with ⟨hv, _⟩ | ⟨g, cap, cur, hv, hB, hg, r⟩
    · cases hv
    · cases hv
      have hgb : g' ≠ b := by
        rintro rfl
        have := hb.symm.trans hg
        simp at this
      exact .inr ⟨g', cap', cur, rfl, hB, (Below.heap_setCell w' _ _ g' (by simpa using hgb)).trans hg, r⟩
  · exact (((Below.refl B u).grown hgrow hBu (fun k hk => hne.2 k hk))).setCell hBb _

set_option maxHeartbeats 2000000 in
theorem put_list (B b g cap : Nat) (l : List Wd) (rest : List Value) (k a f x : Int) (w : World) (h : R2 B b l (.slice (some ⟨g, 0, none⟩) l.length cap) rest w) (hn : l.length ≤ 1000) (hBb : B ≤ b) (hBw : B ≤ w.heap.size) (hm : mayB k a f = true) :
    Calls Tryd.prog 57 #[.pointer (some ⟨b, 0, none⟩), .agg #[.int .u8 k, .int .i64 a, .int .i64 f], .int .u64 x] w (PutPost B b (putL l k a f x) (.slice (some ⟨g, 0, none⟩) l.length cap) rest w) := by
  have hbb : Below w.heap.size w (w.alloc (.cells #[.int .u8 k, .int .i64 a, .int .i64 f] 55)) := (Below.refl _ _).alloc (Nat.le_refl _) _
  have e0 : (w.alloc (.cells #[.int .u8 k, .int .i64 a, .int .i64 f] 55)).cell? ⟨w.heap.size, 0, none⟩ = some (.int .u8 k) := by simp [go_sem]
  have e1 : (w.alloc (.cells #[.int .u8 k, .int .i64 a, .int .i64 f] 55)).cell? ⟨w.heap.size, 1, none⟩ = some (.int .i64 a) := by simp [go_sem]
  have e2 : (w.alloc (.cells #[.int .u8 k, .int .i64 a, .int .i64 f] 55)).cell? ⟨w.heap.size, 2, none⟩ = some (.int .i64 f) := by simp [go_sem]
  have hs : w.heap.size < (w.alloc (.cells #[.int .u8 k, .int .i64 a, .int .i64 f] 55)).heap.size := by simp
  have HR := Lib.hid (h.below hbb)
  have HB := Lib.hid hbb
  clear hbb h
  go_enter Tryd.func57, Tryd.ntmps57
  go_wp2_with fail
  revert e0 e1 e2 hs HR HB
  generalize w.alloc (.cells #[.int .u8 k, .int .i64 a, .int .i64 f] 55) = w0
  intro e0 e1 e2 hs HR HB
  refine (may_any k a f _).mono ?_
  rintro e w1 ⟨rfl, hb1⟩
  have d0 := (hb1.cell (p := ⟨w.heap.size, 0, none⟩) hs).trans e0
  have d1 := (hb1.cell (p := ⟨w.heap.size, 1, none⟩) hs).trans e1
  have d2 := (hb1.cell (p := ⟨w.heap.size, 2, none⟩) hs).trans e2
  have HR1 := Lib.hid (HR.out.below hb1)
  have HB1 := Lib.hid (HB.out.trans (hb1.mono HB.out.size))
  have hb' := HR1.out.head
  have HC := Lib.hid (own_cells HR1.out.own)
  have HF := Lib.hid (fun j => HR1.out.own.frozenAt j)
  clear hb1 e0 e1 e2
  go_wp2_with fail
  go_loopw [6] (fun j wr => ∃ i d : Nat, i ≤ l.length ∧ j = .int .i64 (i : Int) ∧ (∀ c, c < i → (l.getD c wd0).is k a f = false) ∧ wr = w1.drewN d) (fun j _ => l.length - (intOf j).toNat)
  case atStart => exact ⟨0, 0, Nat.zero_le _, rfl, fun c hc => absurd hc (Nat.not_lt_zero _), rfl⟩
  case round =>
    obtain ⟨i, d, hi, rfl, hno, rfl⟩ := hrel
    have HNO := Lib.hid hno
    clear hno
    by_cases hlt : i < l.length
    · obtain ⟨c0, c1, c2, c3⟩ := HC.out i hlt
      have hlt' : (i : Int) < (l.length : Int) := by omega
      have hge : (0 : Int) ≤ (i : Int) := by omega
      generalize hx : l.getD i wd0 = y at c0 c1 c2 c3
      have HX := Lib.hid hx
      clear hx
      by_cases hk : y.k = k
      · by_cases ha : y.a = a
        · by_cases hf : y.f = f
          · have k1 : (y.k == k) = true := by simpa using hk
            have k2 : (y.a == a) = true := by simpa using ha
            have k3 : (y.f == f) = true := by simpa using hf
            have HV := Lib.hid (fun n => (HR1.out.drewN n).hit (x := x) hlt HNO.out (by rw [HX.out]; simp [Wd.is, k1, k2, k3]))
            have fz := HF.out (i * 4 + 3)
            clear hk ha hf
            go_wp2
            go_quiet (fail)
            go_wp2
            exact bodyPost_ret (results_none rfl _ _ _) rfl ⟨rfl, ⟨_, (HV.out _).1⟩, (below_drewNM' (HB1.out.mono hBw) _).trans (HV.out _).2.1, fun q hq _ hg => ((HV.out _).2.2 q (fun e => hg (by rw [e]; rfl))).trans (HB1.out.block q hq)⟩
          · have k1 : (y.k == k) = true := by simpa using hk
            have k2 : (y.a == a) = true := by simpa using ha
            have k3 : (y.f == f) = false := by simpa using hf
            clear hk ha hf
            have HM := Lib.hid (show y.is k a f = false by simp [Wd.is, k1, k2, k3])
            go_wp2
            go_quiet (fail)
            go_wp2
            go_roundw
            case rel =>
              exact ⟨i + 1, d + nq, by omega, by go_num, fun c hc => by
                by_cases he : c = i
                · subst he; rw [HX.out]; exact HM.out
                · exact HNO.out c (by omega), rfl⟩
            case measure => simp [intOf]; omega
        · have k1 : (y.k == k) = true := by simpa using hk
          have k2 : (y.a == a) = false := by simpa using ha
          clear hk ha
          have HM := Lib.hid (show y.is k a f = false by simp [Wd.is, k1, k2])
          go_wp2
          go_quiet (fail)
          go_wp2
          go_roundw
          case rel =>
            exact ⟨i + 1, d + nq, by omega, by go_num, fun c hc => by
              by_cases he : c = i
              · subst he; rw [HX.out]; exact HM.out
              · exact HNO.out c (by omega), rfl⟩
          case measure => simp [intOf]; omega
      · have k1 : (y.k == k) = false := by simpa using hk
        clear hk
        have HM := Lib.hid (show y.is k a f = false by simp [Wd.is, k1])
        go_wp2
        go_quiet (fail)
        go_wp2
        go_roundw
        case rel =>
          exact ⟨i + 1, d + nq, by omega, by go_num, fun c hc => by
            by_cases he : c = i
            · subst he; rw [HX.out]; exact HM.out
            · exact HNO.out c (by omega), rfl⟩
        case measure => simp [intOf]; omega
    · have he : i = l.length := by omega
      have HM := Lib.hid (putL_miss l k a f x (fun j hj => HNO.out j (by omega)))
      have hge : (l.length : Int) ≤ (i : Int) := by omega
      clear he
      go_wp2
      have HR2 := Lib.hid (HR1.out.drewN d)
      have HB2 := Lib.hid (below_drewNM' HB1.out d)
      have g0 : (w1.drewN d).cell? ⟨w.heap.size, 0, none⟩ = some (.int .u8 k) := d0
      have g1 : (w1.drewN d).cell? ⟨w.heap.size, 1, none⟩ = some (.int .i64 a) := d1
      have g2 : (w1.drewN d).cell? ⟨w.heap.size, 2, none⟩ = some (.int .i64 f) := d2
      have g3 : (w1.drewN d).cell? ⟨b, 0, none⟩ = some (.slice (some ⟨g, 0, none⟩) l.length cap) := hb'
      clear d0 d1 d2 hb' HC HF HR1 HB1 HR HB
      revert HR2 HB2 g0 g1 g2 g3
      generalize w1.drewN d = w2
      intro HR2 HB2 g0 g1 g2 g3
      obtain ⟨i0, q1, q2, q3, q4⟩ := info_parts Tryd_info64
      have HQ := Lib.hid (And.intro q1 (And.intro q2 (And.intro q3 q4)))
      have fb : w2.frozen? ⟨b, 0, none⟩ = false := Joins.unfrozen_of_block HR2.out.blk 0
      clear q1 q2 q3 q4
      have HW := Lib.hid ((HR2.out.below (((Below.refl _ _).alloc (Nat.le_refl _) (.cells #[.int .u8 k, .int .i64 a, .int .i64 f, .int .u64 x] 116)).drew)))
      have HN := Lib.hid (World.news_of_block (w := (w2.alloc (.cells #[.int .u8 k, .int .i64 a, .int .i64 f, .int .u64 x] 116)).drew) (B := w2.heap.size) (cs := #[.int .u8 k, .int .i64 a, .int .i64 f, .int .u64 x]) (t := 116) (fr := (0, 0)) (by show (w2.heap.push _)[w2.heap.size]? = _; rw [Array.getElem?_push, if_pos rfl]))
      have g4 : (w2.alloc (.cells #[.int .u8 k, .int .i64 a, .int .i64 f, .int .u64 x] 116)).cell? ⟨b, 0, none⟩ = some (.slice (some ⟨g, 0, none⟩) l.length cap) := (HR2.out.below ((Below.refl _ _).alloc (Nat.le_refl _) (.cells #[.int .u8 k, .int .i64 a, .int .i64 f, .int .u64 x] 116))).head
      have hBs : B ≤ (w2.alloc (.cells #[.int .u8 k, .int .i64 a, .int .i64 f, .int .u64 x] 116)).drew.heap.size := by have := HB2.out.size; simp; omega
      have HS := Lib.hid hBs
      have HT := Lib.hid (HB2.out.trans (((Below.refl w2.heap.size w2).alloc (Nat.le_refl _) (.cells #[.int .u8 k, .int .i64 a, .int .i64 f, .int .u64 x] 116)).drew.mono HB2.out.size))
      have HU := Lib.hid (((HB2.out.mono hBw).alloc (Nat.le_trans hBw HB2.out.size) (.cells #[.int .u8 k, .int .i64 a, .int .i64 f, .int .u64 x] 116)).drew)
      clear hBs
      go_region_law ((refine step_append_lies _ rfl (.tmp 41) (.tmp 45) 71 rfl B 116 i0 (.agg #[.int .u8 0, .int .i64 0, .int .i64 0, .int .u64 0]) 4 32 Tryd.underlying71 HQ.out.1 HQ.out.2.1 HQ.out.2.2.1 HQ.out.2.2.2 rfl (by decide) (.slice (some ⟨g, 0, none⟩) l.length cap) l.length (flat l) (by simp [Act.eval]) HW.out.own ⟨w2.heap.size, 0, none⟩ 1 1 [.int .u8 k, .int .i64 a, .int .i64 f, .int .u64 x] (by simp [Act.eval]) rfl HN.out (by simp [Value.oneCell']) (by decide) (by unfold maxLen; omega) (by omega) HS.out _ rfl ?_; intro g' cap' w' hown hgrow hat hlt; obtain ⟨p1, p2, p3, p4, p5⟩ := HW.out.push (y := ⟨k, a, f, x⟩) hBb hown hgrow HS.out; have P3 := Lib.hid p3; have P4 := Lib.hid p4; have P5 := Lib.hid p5; clear p3 p4 p5 hown hgrow hat hlt))
      all_goals
        go_end0
        exact ⟨rfl, ⟨_, by rw [HM.out]; exact P3.out⟩, HU.out.trans P4.out, fun q hq hqb hg => (P5.out q (Nat.lt_of_lt_of_le hq HT.out.size) hqb hg).trans (HT.out.block q hq)⟩
end Go.Proofs.YtodfjnpnfalioaaDoor
