/-
  The document's memory of layer 2 as it lies: its list of words, owned; what the call of put makes of it; condition: fewer than 1000 words, numbers of their kinds.
  The document's memory of layer 2: put into a memory without a list, and whatever put makes of whatever list; condition: at most 1000 words, numbers of their kinds.
  The document's memory of layer 2: what Load and Store answer and leave; condition: at most 999 words, numbers of their kinds, fewer than 2^62 steps.
  The document's memory of layer 2: what Store leaves; condition: at most 999 words, numbers of their kinds, fewer than 2^62 steps.
  The document's memory of layer 2: what CAS answers and leaves; condition: at most 999 words, numbers of their kinds, fewer than 2^62 steps.
-/
import Derived.Test.YtapcgikamldchaaDoorR1
import Derived.Deep.AppendLies
import Derived.Deep.RegionLaw
import Derived.Deep.RegionHeldLaw
import Derived.Deep.RegionHeld3
import Derived.Lib.SmallJoins
namespace Go.Proofs.YtapcgikamldchaaDoor
open Go.RowKit

def Wd.cells (x : Wd) : List Value := [.int .u8 x.k, .int .i64 x.a, .int .i64 x.f, .int .u64 x.v]
def flat (l : List Wd) : List Value := l.flatMap Wd.cells
theorem flat_len (l : List Wd) : (flat l).length = l.length * 4 := by
  induction l with
  | nil => rfl
  | cons x r ih => simp only [flat, List.flatMap_cons, List.length_append, List.length_cons] at *; simp only [Wd.cells, List.length_cons, List.length_nil]; omega
theorem flat_at (l : List Wd) : ∀ i j : Nat, i < l.length → j < 4 → (flat l)[i * 4 + j]? = (l.getD i wd0).cells[j]? := by
  induction l with
  | nil => intro i j hi; simp at hi
  | cons x r ih =>
    intro i j hi hj
    have hc : x.cells.length = 4 := rfl
    show (x.cells ++ flat r)[i * 4 + j]? = _
    cases i with
    | zero => rw [List.getElem?_append_left (by omega)]; simp
    | succ i =>
      rw [List.getElem?_append_right (by omega), hc, show (i + 1) * 4 + j - 4 = i * 4 + j by omega, ih i j (by simpa using hi) hj]
      simp
theorem own_cells {w : World} {B g cap : Nat} {l : List Wd} (h : w.ownsRow B 106 4 (.slice (some ⟨g, 0, none⟩) l.length cap) l.length (flat l)) : WdCells w g l := fun i hi => by
  have k : ∀ j, j < 4 → w.cell? ⟨g, i * 4 + j, none⟩ = (l.getD i wd0).cells[j]? := fun j hj => (h.cellAt (i * 4 + j) (by omega)).trans (flat_at l i j hi hj)
  exact ⟨k 0 (by decide), k 1 (by decide), k 2 (by decide), k 3 (by decide)⟩

/-- The document's memory: its struct in block b, the words' slice v first, owned from B on; rest: the count of steps and the last access. -/
structure R2 (B b : Nat) (l : List Wd) (v : Value) (rest : List Value) (w : World) : Prop where
  blk : w.heap[b]? = some (.cells (v :: rest).toArray 80 (0, 0))
  own : w.ownsRow B 106 4 v l.length (flat l)
  pos : 0 < B
theorem R2.size {B b : Nat} {l : List Wd} {v : Value} {rest : List Value} {w : World} (h : R2 B b l v rest w) : b < w.heap.size := by
  rcases Nat.lt_or_ge b w.heap.size with hlt | hge
  · exact hlt
  · have := h.blk; rw [Array.getElem?_eq_none hge] at this; cases this
theorem R2.below {B b : Nat} {l : List Wd} {v : Value} {rest : List Value} {w w' : World} (h : R2 B b l v rest w) (hb : Below w.heap.size w w') : R2 B b l v rest w' := by
  refine ⟨(hb.block b h.size).trans h.blk, ⟨h.own.1, ?_⟩, h.pos⟩
  rcases h.own.2 with hn | ⟨g, cap, cur, hv, hB, hg, r⟩
  · exact .inl hn
  · refine .inr ⟨g, cap, cur, hv, hB, ?_, r⟩
    have hlt : g < w.heap.size := by
      rcases Nat.lt_or_ge g w.heap.size with hlt | hge
      · exact hlt
      · rw [Array.getElem?_eq_none hge] at hg; cases hg
    exact (hb.block g hlt).trans hg
theorem R2.head {B b : Nat} {l : List Wd} {v : Value} {rest : List Value} {w : World} (h : R2 B b l v rest w) : w.cell? ⟨b, 0, none⟩ = some v := by
  rw [Joins.cell_of_block h.blk]
  rfl

theorem word_any (B b : Nat) (l : List Wd) (v : Value) (rest : List Value) (k a f : Int) (w : World) (h : R2 B b l v rest w) (hn : l.length ≤ 1000) :
    Calls Tryd.prog 40 #[.pointer (some ⟨b, 0, none⟩), .agg #[.int .u8 k, .int .i64 a, .int .i64 f]] w fun e w' => e = .returned (.int .u64 (look l k a f)) ∧ Below w.heap.size w w' := by
  rcases h.own.2 with ⟨hv, h0⟩ | ⟨g, cap, cur, hv, hB, hg, r⟩
  · have e : l = [] := List.length_eq_zero_iff.1 h0
    rw [e]
    exact word_nil b k a f w (by rw [h.head, hv])
  · have ho := h.own
    rw [hv] at ho
    exact word_list b g cap l k a f w hn (by rw [h.head, hv]) (own_cells ho)

/-- What put makes of the list. -/
def putL : List Wd → Int → Int → Int → Int → List Wd
  | [], k, a, f, x => [⟨k, a, f, x⟩]
  | y :: r, k, a, f, x => if y.is k a f = true then ⟨y.k, y.a, y.f, x⟩ :: r else y :: putL r k a f x
theorem putL_hit (l : List Wd) (k a f x : Int) : ∀ i : Nat, i < l.length → (∀ j, j < i → (l.getD j wd0).is k a f = false) → (l.getD i wd0).is k a f = true →
    flat (putL l k a f x) = (flat l).set (i * 4 + 3) (.int .u64 x) ∧ (putL l k a f x).length = l.length := by
  induction l with
  | nil => intro i hi; simp at hi
  | cons y r ih =>
    intro i hi hb ht
    have hc : y.cells.length = 4 := rfl
    cases i with
    | zero =>
      simp at ht
      simp [putL, ht, flat, Wd.cells]
    | succ i =>
      have h0 := hb 0 (by omega)
      simp at h0
      obtain ⟨e1, e2⟩ := ih i (by simpa using hi) (fun j hj => by simpa using hb (j + 1) (by omega)) (by simpa using ht)
      simp only [putL, h0]
      refine ⟨?_, by simp [e2]⟩
      show y.cells ++ flat (putL r k a f x) = (y.cells ++ flat r).set ((i + 1) * 4 + 3) (.int .u64 x)
      rw [List.set_append_right _ _ (by omega), hc, e1, show (i + 1) * 4 + 3 - 4 = i * 4 + 3 by omega]
theorem putL_miss (l : List Wd) (k a f x : Int) (h : ∀ j, j < l.length → (l.getD j wd0).is k a f = false) : putL l k a f x = l ++ [⟨k, a, f, x⟩] := by
  induction l with
  | nil => rfl
  | cons y r ih =>
    have h0 := h 0 (by simp)
    simp at h0
    simp only [putL, h0]
    rw [ih fun j hj => by simpa using h (j + 1) (by simpa using hj)]
    rfl

set_option maxHeartbeats 1000000 in
theorem put_not (b : Nat) (k a f x : Int) (w : World) (hm : mayB k a f = false) :
    Calls Tryd.prog 41 #[.pointer (some ⟨b, 0, none⟩), .agg #[.int .u8 k, .int .i64 a, .int .i64 f], .int .u64 x] w fun e w' => e = .returned (.tuple #[]) ∧ Below w.heap.size w w' := by
  have hbb : Below w.heap.size w (w.alloc (.cells #[.int .u8 k, .int .i64 a, .int .i64 f] 42)) := (Below.refl _ _).alloc (Nat.le_refl _) _
  have HB := Lib.hid hbb
  clear hbb
  go_enter Tryd.func41, Tryd.ntmps41
  go_wp2_with fail
  refine (may_any k a f _).mono ?_
  rintro e w1 ⟨rfl, hb1⟩
  have HB1 := Lib.hid (HB.out.trans (hb1.mono HB.out.size))
  clear hb1
  go_wp2_with fail
  exact bodyPost_ret (results_none rfl _ _ _) rfl ⟨rfl, HB1.out⟩

theorem R2.drewN {B b : Nat} {l : List Wd} {v : Value} {rest : List Value} {w : World} (h : R2 B b l v rest w) (n : Nat) : R2 B b l v rest (w.drewN n) := ⟨h.blk, h.own, h.pos⟩
theorem Tryd_info64 : (Tryd.prog.info? 106).map (fun i => (i.zero, i.size, i.bytes)) = some (some (.agg #[.int .u8 0, .int .i64 0, .int .i64 0, .int .u64 0]), 4, 32) := by kernel_rfl
/-- What a call of put leaves: the list l' in the same struct, and below B nothing has turned. -/
def PutPost (B b : Nat) (l' : List Wd) (v : Value) (rest : List Value) (w : World) (e : Ending) (w' : World) : Prop :=
  e = .returned (.tuple #[]) ∧ (∃ v', R2 B b l' v' rest w') ∧ Below B w w' ∧ ∀ q, q < w.heap.size → q ≠ b → v.ownBlock ≠ some q → w'.heap[q]? = w.heap[q]?
theorem R2.hit {B b g cap : Nat} {l : List Wd} {rest : List Value} {w : World} {k a f x : Int} {i : Nat} (h : R2 B b l (.slice (some ⟨g, 0, none⟩) l.length cap) rest w) (hi : i < l.length) (hno : ∀ j, j < i → (l.getD j wd0).is k a f = false) (hit : (l.getD i wd0).is k a f = true) :
    R2 B b (putL l k a f x) (.slice (some ⟨g, 0, none⟩) l.length cap) rest (w.setCell ⟨g, i * 4 + 3, none⟩ (.int .u64 x)) ∧ Below B w (w.setCell ⟨g, i * 4 + 3, none⟩ (.int .u64 x)) ∧
      ∀ q, q ≠ g → (w.setCell ⟨g, i * 4 + 3, none⟩ (.int .u64 x)).heap[q]? = w.heap[q]? := by
  obtain ⟨e1, e2⟩ := putL_hit l k a f x i hi hno hit
  obtain ⟨s1, s2⟩ := h.own.stored (i * 4 + 3) (.int .u64 x)
  rcases h.own.2 with ⟨hv, _⟩ | ⟨g', cap', cur, hv, hB, hg, r⟩
  · cases hv
  · cases hv
    have hne : b ≠ g := by
      rintro rfl
      have := h.blk.symm.trans hg
      simp at this
    refine ⟨⟨(Below.heap_setCell w _ _ b (by simpa using hne)).trans h.blk, ?_, h.pos⟩, (Below.refl _ _).setCell hB _, fun q hq => Below.heap_setCell w _ _ q (by simpa using hq)⟩
    rw [e1, e2]
    exact s1

theorem flat_push (l : List Wd) (y : Wd) : flat (l ++ [y]) = flat l ++ y.cells := by simp [flat]
/-- Behind an append to the list, and the store of the new slice. -/
theorem R2.push {B b g' cap' : Nat} {l : List Wd} {v : Value} {rest : List Value} {u w' : World} {y : Wd} (h : R2 B b l v rest u) (hBb : B ≤ b)
    (hown : w'.ownsRow B 106 4 (.slice (some ⟨g', 0, none⟩) (l.length + 1) cap') (l.length + 1) (flat l ++ y.cells)) (hgrow : u.grownBy w' v.ownBlock) (hBu : B ≤ u.heap.size) :
    w'.cell? ⟨b, 0, none⟩ = some v ∧ w'.frozen? ⟨b, 0, none⟩ = false ∧ R2 B b (l ++ [y]) (.slice (some ⟨g', 0, none⟩) (l.length + 1) cap') rest (w'.setCell ⟨b, 0, none⟩ (.slice (some ⟨g', 0, none⟩) (l.length + 1) cap')) ∧
      Below B u (w'.setCell ⟨b, 0, none⟩ (.slice (some ⟨g', 0, none⟩) (l.length + 1) cap')) ∧
      ∀ q, q < u.heap.size → q ≠ b → v.ownBlock ≠ some q → (w'.setCell ⟨b, 0, none⟩ (.slice (some ⟨g', 0, none⟩) (l.length + 1) cap')).heap[q]? = u.heap[q]? := by
  have hne : v.ownBlock ≠ some b ∧ ∀ k, v.ownBlock = some k → B ≤ k := by
    rcases h.own.2 with ⟨hv, _⟩ | ⟨g, cap, cur, hv, hB, hg, r⟩
    · subst hv
      exact ⟨by simp [Value.ownBlock], fun k hk => by simp [Value.ownBlock] at hk⟩
    · subst hv
      refine ⟨fun e => ?_, fun k hk => ?_⟩
      · simp only [Value.ownBlock, Option.some.injEq] at e
        subst e
        have := h.blk.symm.trans hg
        simp at this
      · simp only [Value.ownBlock, Option.some.injEq] at hk
        omega
  have hb : w'.heap[b]? = some (.cells (v :: rest).toArray 80 (0, 0)) := (hgrow.block b h.size (fun e => hne.1 e.symm)).trans h.blk
  refine ⟨by rw [Joins.cell_of_block hb]; rfl, Joins.unfrozen_of_block hb 0, ⟨?_, ?_, h.pos⟩, ?_, fun q hq hqb hv => (Below.heap_setCell w' _ _ q (by simpa using hqb)).trans (hgrow.block q hq (fun e => hv e.symm))⟩
  · rw [Joins.block_setCell hb]
    simp
  · refine ⟨by rw [flat_push, hown.1]; simp, ?_⟩
    rw [flat_push, show (l ++ [y]).length = l.length + 1 by simp]
    rcases hown.2 with ⟨hv, _⟩ | ⟨g, cap, cur, hv, hB, hg, r⟩
    · cases hv
    · cases hv
      have hgb : g' ≠ b := by
        rintro rfl
        have := hb.symm.trans hg
        simp at this
      exact .inr ⟨g', cap', cur, rfl, hB, (Below.heap_setCell w' _ _ g' (by simpa using hgb)).trans hg, r⟩
  · exact (((Below.refl B u).grown hgrow hBu (fun k hk => hne.2 k hk))).setCell hBb _

set_option maxHeartbeats 2000000 in
theorem put_list (B b g cap : Nat) (l : List Wd) (rest : List Value) (k a f x : Int) (w : World) (h : R2 B b l (.slice (some ⟨g, 0, none⟩) l.length cap) rest w) (hn : l.length ≤ 1000) (hBb : B ≤ b) (hBw : B ≤ w.heap.size) (hm : mayB k a f = true) :
    Calls Tryd.prog 41 #[.pointer (some ⟨b, 0, none⟩), .agg #[.int .u8 k, .int .i64 a, .int .i64 f], .int .u64 x] w (PutPost B b (putL l k a f x) (.slice (some ⟨g, 0, none⟩) l.length cap) rest w) := by
  have hbb : Below w.heap.size w (w.alloc (.cells #[.int .u8 k, .int .i64 a, .int .i64 f] 42)) := (Below.refl _ _).alloc (Nat.le_refl _) _
  have e0 : (w.alloc (.cells #[.int .u8 k, .int .i64 a, .int .i64 f] 42)).cell? ⟨w.heap.size, 0, none⟩ = some (.int .u8 k) := by simp [go_sem]
  have e1 : (w.alloc (.cells #[.int .u8 k, .int .i64 a, .int .i64 f] 42)).cell? ⟨w.heap.size, 1, none⟩ = some (.int .i64 a) := by simp [go_sem]
  have e2 : (w.alloc (.cells #[.int .u8 k, .int .i64 a, .int .i64 f] 42)).cell? ⟨w.heap.size, 2, none⟩ = some (.int .i64 f) := by simp [go_sem]
  have hs : w.heap.size < (w.alloc (.cells #[.int .u8 k, .int .i64 a, .int .i64 f] 42)).heap.size := by simp
  have HR := Lib.hid (h.below hbb)
  have HB := Lib.hid hbb
  clear hbb h
  go_enter Tryd.func41, Tryd.ntmps41
  go_wp2_with fail
  revert e0 e1 e2 hs HR HB
  generalize w.alloc (.cells #[.int .u8 k, .int .i64 a, .int .i64 f] 42) = w0
  intro e0 e1 e2 hs HR HB
  refine (may_any k a f _).mono ?_
  rintro e w1 ⟨rfl, hb1⟩
  have d0 := (hb1.cell (p := ⟨w.heap.size, 0, none⟩) hs).trans e0
  have d1 := (hb1.cell (p := ⟨w.heap.size, 1, none⟩) hs).trans e1
  have d2 := (hb1.cell (p := ⟨w.heap.size, 2, none⟩) hs).trans e2
  have HR1 := Lib.hid (HR.out.below hb1)
  have HB1 := Lib.hid (HB.out.trans (hb1.mono HB.out.size))
  have hb' := HR1.out.head
  have HC := Lib.hid (own_cells HR1.out.own)
  have HF := Lib.hid (fun j => HR1.out.own.frozenAt j)
  clear hb1 e0 e1 e2
  go_wp2_with fail
  go_loopw [6] (fun j wr => ∃ i d : Nat, i ≤ l.length ∧ j = .int .i64 (i : Int) ∧ (∀ c, c < i → (l.getD c wd0).is k a f = false) ∧ wr = w1.drewN d) (fun j _ => l.length - (intOf j).toNat)
  case atStart => exact ⟨0, 0, Nat.zero_le _, rfl, fun c hc => absurd hc (Nat.not_lt_zero _), rfl⟩
  case round =>
    obtain ⟨i, d, hi, rfl, hno, rfl⟩ := hrel
    have HNO := Lib.hid hno
    clear hno
    by_cases hlt : i < l.length
    · obtain ⟨c0, c1, c2, c3⟩ := HC.out i hlt
      have hlt' : (i : Int) < (l.length : Int) := by omega
      have hge : (0 : Int) ≤ (i : Int) := by omega
      generalize hx : l.getD i wd0 = y at c0 c1 c2 c3
      have HX := Lib.hid hx
      clear hx
      by_cases hk : y.k = k
      · by_cases ha : y.a = a
        · by_cases hf : y.f = f
          · have k1 : (y.k == k) = true := by simpa using hk
            have k2 : (y.a == a) = true := by simpa using ha
            have k3 : (y.f == f) = true := by simpa using hf
            have HV := Lib.hid (fun n => (HR1.out.drewN n).hit (x := x) hlt HNO.out (by rw [HX.out]; simp [Wd.is, k1, k2, k3]))
            have fz := HF.out (i * 4 + 3)
            clear hk ha hf
            go_wp2
            go_quiet (fail)
            go_wp2
            exact bodyPost_ret (results_none rfl _ _ _) rfl ⟨rfl, ⟨_, (HV.out _).1⟩, (below_drewNM' (HB1.out.mono hBw) _).trans (HV.out _).2.1, fun q hq _ hg => ((HV.out _).2.2 q (fun e => hg (by rw [e]; rfl))).trans (HB1.out.block q hq)⟩
          · have k1 : (y.k == k) = true := by simpa using hk
            have k2 : (y.a == a) = true := by simpa using ha
            have k3 : (y.f == f) = false := by simpa using hf
            clear hk ha hf
            have HM := Lib.hid (show y.is k a f = false by simp [Wd.is, k1, k2, k3])
            go_wp2
            go_quiet (fail)
            go_wp2
            go_roundw
            case rel =>
              exact ⟨i + 1, d + nq, by omega, by go_num, fun c hc => by
                by_cases he : c = i
                · subst he; rw [HX.out]; exact HM.out
                · exact HNO.out c (by omega), rfl⟩
            case measure => simp [intOf]; omega
        · have k1 : (y.k == k) = true := by simpa using hk
          have k2 : (y.a == a) = false := by simpa using ha
          clear hk ha
          have HM := Lib.hid (show y.is k a f = false by simp [Wd.is, k1, k2])
          go_wp2
          go_quiet (fail)
          go_wp2
          go_roundw
          case rel =>
            exact ⟨i + 1, d + nq, by omega, by go_num, fun c hc => by
              by_cases he : c = i
              · subst he; rw [HX.out]; exact HM.out
              · exact HNO.out c (by omega), rfl⟩
          case measure => simp [intOf]; omega
      · have k1 : (y.k == k) = false := by simpa using hk
        clear hk
        have HM := Lib.hid (show y.is k a f = false by simp [Wd.is, k1])
        go_wp2
        go_quiet (fail)
        go_wp2
        go_roundw
        case rel =>
          exact ⟨i + 1, d + nq, by omega, by go_num, fun c hc => by
            by_cases he : c = i
            · subst he; rw [HX.out]; exact HM.out
            · exact HNO.out c (by omega), rfl⟩
        case measure => simp [intOf]; omega
    · have he : i = l.length := by omega
      have HM := Lib.hid (putL_miss l k a f x (fun j hj => HNO.out j (by omega)))
      have hge : (l.length : Int) ≤ (i : Int) := by omega
      clear he
      go_wp2
      have HR2 := Lib.hid (HR1.out.drewN d)
      have HB2 := Lib.hid (below_drewNM' HB1.out d)
      have g0 : (w1.drewN d).cell? ⟨w.heap.size, 0, none⟩ = some (.int .u8 k) := d0
      have g1 : (w1.drewN d).cell? ⟨w.heap.size, 1, none⟩ = some (.int .i64 a) := d1
      have g2 : (w1.drewN d).cell? ⟨w.heap.size, 2, none⟩ = some (.int .i64 f) := d2
      have g3 : (w1.drewN d).cell? ⟨b, 0, none⟩ = some (.slice (some ⟨g, 0, none⟩) l.length cap) := hb'
      clear d0 d1 d2 hb' HC HF HR1 HB1 HR HB
      revert HR2 HB2 g0 g1 g2 g3
      generalize w1.drewN d = w2
      intro HR2 HB2 g0 g1 g2 g3
      obtain ⟨i0, q1, q2, q3, q4⟩ := info_parts Tryd_info64
      have HQ := Lib.hid (And.intro q1 (And.intro q2 (And.intro q3 q4)))
      have fb : w2.frozen? ⟨b, 0, none⟩ = false := Joins.unfrozen_of_block HR2.out.blk 0
      clear q1 q2 q3 q4
      have HW := Lib.hid ((HR2.out.below (((Below.refl _ _).alloc (Nat.le_refl _) (.cells #[.int .u8 k, .int .i64 a, .int .i64 f, .int .u64 x] 106)).drew)))
      have HN := Lib.hid (World.news_of_block (w := (w2.alloc (.cells #[.int .u8 k, .int .i64 a, .int .i64 f, .int .u64 x] 106)).drew) (B := w2.heap.size) (cs := #[.int .u8 k, .int .i64 a, .int .i64 f, .int .u64 x]) (t := 106) (fr := (0, 0)) (by show (w2.heap.push _)[w2.heap.size]? = _; rw [Array.getElem?_push, if_pos rfl]))
      have g4 : (w2.alloc (.cells #[.int .u8 k, .int .i64 a, .int .i64 f, .int .u64 x] 106)).cell? ⟨b, 0, none⟩ = some (.slice (some ⟨g, 0, none⟩) l.length cap) := (HR2.out.below ((Below.refl _ _).alloc (Nat.le_refl _) (.cells #[.int .u8 k, .int .i64 a, .int .i64 f, .int .u64 x] 106))).head
      have hBs : B ≤ (w2.alloc (.cells #[.int .u8 k, .int .i64 a, .int .i64 f, .int .u64 x] 106)).drew.heap.size := by have := HB2.out.size; simp; omega
      have HS := Lib.hid hBs
      have HT := Lib.hid (HB2.out.trans (((Below.refl w2.heap.size w2).alloc (Nat.le_refl _) (.cells #[.int .u8 k, .int .i64 a, .int .i64 f, .int .u64 x] 106)).drew.mono HB2.out.size))
      have HU := Lib.hid (((HB2.out.mono hBw).alloc (Nat.le_trans hBw HB2.out.size) (.cells #[.int .u8 k, .int .i64 a, .int .i64 f, .int .u64 x] 106)).drew)
      clear hBs
      go_region_law ((refine step_append_lies _ rfl (.tmp 41) (.tmp 45) 75 rfl B 106 i0 (.agg #[.int .u8 0, .int .i64 0, .int .i64 0, .int .u64 0]) 4 32 Tryd.underlying75 HQ.out.1 HQ.out.2.1 HQ.out.2.2.1 HQ.out.2.2.2 rfl (by decide) (.slice (some ⟨g, 0, none⟩) l.length cap) l.length (flat l) (by simp [Act.eval]) HW.out.own ⟨w2.heap.size, 0, none⟩ 1 1 [.int .u8 k, .int .i64 a, .int .i64 f, .int .u64 x] (by simp [Act.eval]) rfl HN.out (by simp [Value.oneCell']) (by decide) (by unfold maxLen; omega) (by omega) HS.out _ rfl ?_; intro g' cap' w' hown hgrow hat hlt; obtain ⟨p1, p2, p3, p4, p5⟩ := HW.out.push (y := ⟨k, a, f, x⟩) hBb hown hgrow HS.out; have P3 := Lib.hid p3; have P4 := Lib.hid p4; have P5 := Lib.hid p5; clear p3 p4 p5 hown hgrow hat hlt))
      all_goals
        go_end0
        exact ⟨rfl, ⟨_, by rw [HM.out]; exact P3.out⟩, HU.out.trans P4.out, fun q hq hqb hg => (P5.out q (Nat.lt_of_lt_of_le hq HT.out.size) hqb hg).trans (HT.out.block q hq)⟩
end Go.Proofs.YtapcgikamldchaaDoor
namespace Go.Proofs.YtapcgikamldchaaDoor
open Go.RowKit

set_option maxHeartbeats 2000000 in
theorem put_nil (B b : Nat) (rest : List Value) (k a f x : Int) (w : World) (h : R2 B b [] (.slice none 0 0) rest w) (hBb : B ≤ b) (hBw : B ≤ w.heap.size) (hm : mayB k a f = true) :
    Calls Tryd.prog 41 #[.pointer (some ⟨b, 0, none⟩), .agg #[.int .u8 k, .int .i64 a, .int .i64 f], .int .u64 x] w (PutPost B b [⟨k, a, f, x⟩] (.slice none 0 0) rest w) := by
  have hbb : Below w.heap.size w (w.alloc (.cells #[.int .u8 k, .int .i64 a, .int .i64 f] 42)) := (Below.refl _ _).alloc (Nat.le_refl _) _
  have e0 : (w.alloc (.cells #[.int .u8 k, .int .i64 a, .int .i64 f] 42)).cell? ⟨w.heap.size, 0, none⟩ = some (.int .u8 k) := by simp [go_sem]
  have e1 : (w.alloc (.cells #[.int .u8 k, .int .i64 a, .int .i64 f] 42)).cell? ⟨w.heap.size, 1, none⟩ = some (.int .i64 a) := by simp [go_sem]
  have e2 : (w.alloc (.cells #[.int .u8 k, .int .i64 a, .int .i64 f] 42)).cell? ⟨w.heap.size, 2, none⟩ = some (.int .i64 f) := by simp [go_sem]
  have hs : w.heap.size < (w.alloc (.cells #[.int .u8 k, .int .i64 a, .int .i64 f] 42)).heap.size := by simp
  have HR := Lib.hid (h.below hbb)
  have HB := Lib.hid hbb
  clear hbb h
  go_enter Tryd.func41, Tryd.ntmps41
  go_wp2_with fail
  revert e0 e1 e2 hs HR HB
  generalize w.alloc (.cells #[.int .u8 k, .int .i64 a, .int .i64 f] 42) = w0
  intro e0 e1 e2 hs HR HB
  refine (may_any k a f _).mono ?_
  rintro e w1 ⟨rfl, hb1⟩
  have d0 := (hb1.cell (p := ⟨w.heap.size, 0, none⟩) hs).trans e0
  have d1 := (hb1.cell (p := ⟨w.heap.size, 1, none⟩) hs).trans e1
  have d2 := (hb1.cell (p := ⟨w.heap.size, 2, none⟩) hs).trans e2
  have HR1 := Lib.hid (HR.out.below hb1)
  have HB1 := Lib.hid (HB.out.trans (hb1.mono HB.out.size))
  have hb' := HR1.out.head
  clear hb1 e0 e1 e2
  go_wp2_with fail
  refine wp_loop_rounds 1 ?_
  rw [rounds_succ]
  go_wp2
  have HR2 := Lib.hid (HR1.out)
  have HB2 := Lib.hid (HB1.out)
  have g0 : w1.cell? ⟨w.heap.size, 0, none⟩ = some (.int .u8 k) := d0
  have g1 : w1.cell? ⟨w.heap.size, 1, none⟩ = some (.int .i64 a) := d1
  have g2 : w1.cell? ⟨w.heap.size, 2, none⟩ = some (.int .i64 f) := d2
  have g3 : w1.cell? ⟨b, 0, none⟩ = some (.slice none 0 0) := hb'
  clear d0 d1 d2 hb' HR1 HB1 HR HB
  revert HR2 HB2 g0 g1 g2 g3
  generalize w1 = w2
  intro HR2 HB2 g0 g1 g2 g3
  obtain ⟨i0, q1, q2, q3, q4⟩ := info_parts Tryd_info64
  have HQ := Lib.hid (And.intro q1 (And.intro q2 (And.intro q3 q4)))
  have fb : w2.frozen? ⟨b, 0, none⟩ = false := Joins.unfrozen_of_block HR2.out.blk 0
  clear q1 q2 q3 q4
  have HW := Lib.hid ((HR2.out.below (((Below.refl _ _).alloc (Nat.le_refl _) (.cells #[.int .u8 k, .int .i64 a, .int .i64 f, .int .u64 x] 106)).drew)))
  have HN := Lib.hid (World.news_of_block (w := (w2.alloc (.cells #[.int .u8 k, .int .i64 a, .int .i64 f, .int .u64 x] 106)).drew) (B := w2.heap.size) (cs := #[.int .u8 k, .int .i64 a, .int .i64 f, .int .u64 x]) (t := 106) (fr := (0, 0)) (by show (w2.heap.push _)[w2.heap.size]? = _; rw [Array.getElem?_push, if_pos rfl]))
  have g4 : (w2.alloc (.cells #[.int .u8 k, .int .i64 a, .int .i64 f, .int .u64 x] 106)).cell? ⟨b, 0, none⟩ = some (.slice none 0 0) := (HR2.out.below ((Below.refl _ _).alloc (Nat.le_refl _) (.cells #[.int .u8 k, .int .i64 a, .int .i64 f, .int .u64 x] 106))).head
  have hBs : B ≤ (w2.alloc (.cells #[.int .u8 k, .int .i64 a, .int .i64 f, .int .u64 x] 106)).drew.heap.size := by have := HB2.out.size; simp; omega
  have HS := Lib.hid hBs
  have HT := Lib.hid (HB2.out.trans (((Below.refl w2.heap.size w2).alloc (Nat.le_refl _) (.cells #[.int .u8 k, .int .i64 a, .int .i64 f, .int .u64 x] 106)).drew.mono HB2.out.size))
  have HU := Lib.hid (((HB2.out.mono hBw).alloc (Nat.le_trans hBw HB2.out.size) (.cells #[.int .u8 k, .int .i64 a, .int .i64 f, .int .u64 x] 106)).drew)
  clear hBs
  go_region_law ((refine step_append_lies _ rfl (.tmp 41) (.tmp 45) 75 rfl B 106 i0 (.agg #[.int .u8 0, .int .i64 0, .int .i64 0, .int .u64 0]) 4 32 Tryd.underlying75 HQ.out.1 HQ.out.2.1 HQ.out.2.2.1 HQ.out.2.2.2 rfl (by decide) (.slice none 0 0) 0 [] (by simp [Act.eval]) HW.out.own ⟨w2.heap.size, 0, none⟩ 1 1 [.int .u8 k, .int .i64 a, .int .i64 f, .int .u64 x] (by simp [Act.eval]) rfl HN.out (by simp [Value.oneCell']) (by decide) (by unfold maxLen; omega) (by omega) HS.out _ rfl ?_; intro g' cap' w' hown hgrow hat hlt; obtain ⟨p1, p2, p3, p4, p5⟩ := HW.out.push (l := []) (y := ⟨k, a, f, x⟩) hBb hown hgrow HS.out; have P3 := Lib.hid p3; have P4 := Lib.hid p4; have P5 := Lib.hid p5; clear p3 p4 p5 hown hgrow hat hlt))
  all_goals
    go_end0
    exact ⟨rfl, ⟨_, P3.out⟩, HU.out.trans P4.out, fun q hq hqb hg => (P5.out q (Nat.lt_of_lt_of_le hq HT.out.size) hqb hg).trans (HT.out.block q hq)⟩

def putM (l : List Wd) (k a f x : Int) : List Wd := if mayB k a f = true then putL l k a f x else l
theorem put_any (B b : Nat) (l : List Wd) (v : Value) (rest : List Value) (k a f x : Int) (w : World) (h : R2 B b l v rest w) (hn : l.length ≤ 1000) (hBb : B ≤ b) (hBw : B ≤ w.heap.size) :
    Calls Tryd.prog 41 #[.pointer (some ⟨b, 0, none⟩), .agg #[.int .u8 k, .int .i64 a, .int .i64 f], .int .u64 x] w (PutPost B b (putM l k a f x) v rest w) := by
  by_cases hm : mayB k a f = true
  · have e : putM l k a f x = putL l k a f x := if_pos hm
    rw [e]
    rcases h.own.2 with ⟨hv, h0⟩ | ⟨g, cap, cur, hv, hB, hg, r⟩
    · have e : l = [] := List.length_eq_zero_iff.1 h0
      subst e hv
      exact put_nil B b rest k a f x w h hBb hBw hm
    · subst hv
      exact put_list B b g cap l rest k a f x w h hn hBb hBw hm
  · have e : putM l k a f x = l := if_neg hm
    rw [e]
    exact (put_not b k a f x w (by simpa using hm)).mono fun _ _ hh => ⟨hh.1, ⟨v, h.below hh.2⟩, hh.2.mono hBw, fun q hq _ _ => hh.2.block q hq⟩
/-- Who owns a row owns it in a block that is there. -/
theorem R2.own_lt {B b : Nat} {l : List Wd} {v : Value} {rest : List Value} {w : World} (h : R2 B b l v rest w) : ∀ q, v.ownBlock = some q → q < w.heap.size := by
  intro q hq
  rcases h.own.2 with ⟨hv, _⟩ | ⟨g, cap, cur, hv, hB, hg, r⟩
  · subst hv; simp [Value.ownBlock] at hq
  · subst hv
    simp only [Value.ownBlock, Option.some.injEq] at hq
    subst hq
    rcases Nat.lt_or_ge g w.heap.size with hlt | hge
    · exact hlt
    · rw [Array.getElem?_eq_none hge] at hg; cases hg
end Go.Proofs.YtapcgikamldchaaDoor
namespace Go.Proofs.YtapcgikamldchaaDoor
open Go.RowKit

/-- The count of steps and the last access, as they lie behind the list. -/
def rest8 (st ak k a f was is : Int) (done : Bool) : List Value := [.int .i64 st, .int .u8 ak, .int .u8 k, .int .i64 a, .int .i64 f, .int .u64 was, .int .u64 is, .bool done]
theorem R2.cell8 {B b : Nat} {l : List Wd} {v : Value} {st ak k a f was is : Int} {done : Bool} {w : World} (h : R2 B b l v (rest8 st ak k a f was is done) w) (j : Nat) : w.cell? ⟨b, j, none⟩ = (v :: rest8 st ak k a f was is done)[j]? := by
  rw [Joins.cell_of_block h.blk]
  simp
theorem R2.free8 {B b : Nat} {l : List Wd} {v : Value} {rest : List Value} {w : World} (h : R2 B b l v rest w) (j : Nat) : w.frozen? ⟨b, j, none⟩ = false := Joins.unfrozen_of_block h.blk j

/-- A store behind the list's slice, into the struct. -/
theorem R2.set {B b : Nat} {l : List Wd} {v : Value} {rest : List Value} {w : World} (h : R2 B b l v rest w) (j : Nat) (u : Value) : R2 B b l v (rest.set j u) (w.setCell ⟨b, j + 1, none⟩ u) := by
  refine ⟨?_, ⟨h.own.1, ?_⟩, h.pos⟩
  · rw [Joins.block_setCell h.blk]
    simp
  · rcases h.own.2 with hn | ⟨g, cap, cur, hv, hB, hg, r⟩
    · exact .inl hn
    · have hgb : g ≠ b := by
        rintro rfl
        have := h.blk.symm.trans hg
        simp at this
      exact .inr ⟨g, cap, cur, hv, hB, (Below.heap_setCell w _ _ g (by simpa using hgb)).trans hg, r⟩
/-- The count and the last access, stored anew. -/
def eight (w : World) (b : Nat) (st ak k a f was is : Int) (done : Bool) : World :=
  (((((((w.setCell ⟨b, 1, none⟩ (.int .i64 st)).setCell ⟨b, 2, none⟩ (.int .u8 ak)).setCell ⟨b, 3, none⟩ (.int .u8 k)).setCell ⟨b, 4, none⟩ (.int .i64 a)).setCell ⟨b, 5, none⟩ (.int .i64 f)).setCell ⟨b, 6, none⟩ (.int .u64 was)).setCell ⟨b, 7, none⟩ (.int .u64 is)).setCell ⟨b, 8, none⟩ (.bool done)
theorem R2.eight {B b : Nat} {l : List Wd} {v : Value} {st' ak' k' a' f' was' is' : Int} {done' : Bool} {w : World} (h : R2 B b l v (rest8 st' ak' k' a' f' was' is' done') w) (st ak k a f was is : Int) (done : Bool) :
    R2 B b l v (rest8 st ak k a f was is done) (eight w b st ak k a f was is done) :=
  (((((((h.set 0 (.int .i64 st)).set 1 (.int .u8 ak)).set 2 (.int .u8 k)).set 3 (.int .i64 a)).set 4 (.int .i64 f)).set 5 (.int .u64 was)).set 6 (.int .u64 is)).set 7 (.bool done)
theorem below_eight {B b : Nat} {u w : World} (h : Below B u w) (hBb : B ≤ b) (st ak k a f was is : Int) (done : Bool) : Below B u (eight w b st ak k a f was is done) :=
  (((((((h.setCell hBb _).setCell hBb _).setCell hBb _).setCell hBb _).setCell hBb _).setCell hBb _).setCell hBb _).setCell hBb _

/-- What a call on the document's memory leaves alone: all but its struct, the row of its list, and what it makes. -/
structure Sp (B b : Nat) (v : Value) (X Y : World) : Prop where
  low : Below B X Y
  far : ∀ q, q < X.heap.size → q ≠ b → v.ownBlock ≠ some q → Y.heap[q]? = X.heap[q]?
  le : B ≤ X.heap.size
theorem Sp.of_below {B b : Nat} {v : Value} {X Y : World} (h : Below X.heap.size X Y) (hB : B ≤ X.heap.size) : Sp B b v X Y := ⟨h.mono hB, fun q hq _ _ => h.block q hq, hB⟩
theorem Sp.put {B b : Nat} {v : Value} {X Y Z : World} (h : Below X.heap.size X Y) (hB : B ≤ X.heap.size) (h2 : Below B Y Z) (hap : ∀ q, q < Y.heap.size → q ≠ b → v.ownBlock ≠ some q → Z.heap[q]? = Y.heap[q]?) : Sp B b v X Z :=
  ⟨(h.mono hB).trans h2, fun q hq h1 h3 => (hap q (Nat.lt_of_lt_of_le hq h.size) h1 h3).trans (h.block q hq), hB⟩
theorem Sp.drew {B b : Nat} {v : Value} {X Y : World} (h : Sp B b v X Y) : Sp B b v X Y.drew := ⟨h.low.drew, h.far, h.le⟩
theorem Sp.next {B b : Nat} {v : Value} {X Y Z : World} (h : Sp B b v X Y) (hb : Below Y.heap.size Y Z) : Sp B b v X Z :=
  ⟨h.low.trans (hb.mono (Nat.le_trans h.le h.low.size)), fun q hq h1 h2 => (hb.block q (Nat.lt_of_lt_of_le hq h.low.size)).trans (h.far q hq h1 h2), h.le⟩
theorem Sp.setC {B b : Nat} {v : Value} {X Y : World} (h : Sp B b v X Y) (hBb : B ≤ b) (j : Nat) (u : Value) : Sp B b v X (Y.setCell ⟨b, j, none⟩ u) :=
  ⟨h.low.setCell (p := ⟨b, j, none⟩) hBb u, fun q hq h1 h2 => (Below.heap_setCell Y _ _ q (by simpa using h1)).trans (h.far q hq h1 h2), h.le⟩
theorem Sp.eight {B b : Nat} {v : Value} {u w : World} (h : Sp B b v u w) (hBb : B ≤ b) (st ak k a f was is : Int) (done : Bool) : Sp B b v u (eight w b st ak k a f was is done) :=
  (((((((h.setC hBb 1 _).setC hBb 2 _).setC hBb 3 _).setC hBb 4 _).setC hBb 5 _).setC hBb 6 _).setC hBb 7 _).setC hBb 8 _

set_option maxHeartbeats 2000000 in
theorem load_any (B b : Nat) (l : List Wd) (v : Value) (st ak k' a' f' was is : Int) (done : Bool) (k a f : Int) (w : World) (h : R2 B b l v (rest8 st ak k' a' f' was is done) w) (hn : l.length ≤ 1000) (hBb : B ≤ b) (hBw : B ≤ w.heap.size) (hs0 : 0 ≤ st) (hs1 : st < 4611686018427387904) :
    Calls Tryd.prog 30 #[.pointer (some ⟨b, 0, none⟩), .agg #[.int .u8 k, .int .i64 a, .int .i64 f]] w fun e w' => e = .returned (.int .u64 (look l k a f)) ∧ R2 B b l v (rest8 (st + 1) 1 k a f (look l k a f) (look l k a f) false) w' ∧ Sp B b v w w' := by
  have hbb : Below w.heap.size w (w.alloc (.cells #[.int .u8 k, .int .i64 a, .int .i64 f] 42)) := (Below.refl _ _).alloc (Nat.le_refl _) _
  have e0 : (w.alloc (.cells #[.int .u8 k, .int .i64 a, .int .i64 f] 42)).cell? ⟨w.heap.size, 0, none⟩ = some (.int .u8 k) := by simp [go_sem]
  have e1 : (w.alloc (.cells #[.int .u8 k, .int .i64 a, .int .i64 f] 42)).cell? ⟨w.heap.size, 1, none⟩ = some (.int .i64 a) := by simp [go_sem]
  have e2 : (w.alloc (.cells #[.int .u8 k, .int .i64 a, .int .i64 f] 42)).cell? ⟨w.heap.size, 2, none⟩ = some (.int .i64 f) := by simp [go_sem]
  have hs : w.heap.size < (w.alloc (.cells #[.int .u8 k, .int .i64 a, .int .i64 f] 42)).heap.size := by simp
  have hbw : b ≠ w.heap.size := by have := h.size; omega
  have HR := Lib.hid (h.below hbb)
  have HB := Lib.hid hbb
  clear hbb h
  go_enter Tryd.func30, Tryd.ntmps30
  go_wp2_with fail
  revert e0 e1 e2 hs HR HB
  generalize w.alloc (.cells #[.int .u8 k, .int .i64 a, .int .i64 f] 42) = w0
  intro e0 e1 e2 hs HR HB
  refine (word_any B b l v _ k a f _ HR.out hn).mono ?_
  rintro e w1 ⟨rfl, hb1⟩
  have d0 := (hb1.cell (p := ⟨w.heap.size, 0, none⟩) hs).trans e0
  have d1 := (hb1.cell (p := ⟨w.heap.size, 1, none⟩) hs).trans e1
  have d2 := (hb1.cell (p := ⟨w.heap.size, 2, none⟩) hs).trans e2
  have HR1 := Lib.hid (HR.out.below hb1)
  have HB1 := Lib.hid (HB.out.trans (hb1.mono HB.out.size))
  have r1 : w1.cell? ⟨b, 1, none⟩ = some (.int .i64 st) := HR1.out.cell8 1
  have r2 : w1.cell? ⟨b, 2, none⟩ = some (.int .u8 ak) := HR1.out.cell8 2
  have r3 : w1.cell? ⟨b, 3, none⟩ = some (.int .u8 k') := HR1.out.cell8 3
  have r4 : w1.cell? ⟨b, 4, none⟩ = some (.int .i64 a') := HR1.out.cell8 4
  have r5 : w1.cell? ⟨b, 5, none⟩ = some (.int .i64 f') := HR1.out.cell8 5
  have r6 : w1.cell? ⟨b, 6, none⟩ = some (.int .u64 was) := HR1.out.cell8 6
  have r7 : w1.cell? ⟨b, 7, none⟩ = some (.int .u64 is) := HR1.out.cell8 7
  have r8 : w1.cell? ⟨b, 8, none⟩ = some (.bool done) := HR1.out.cell8 8
  have z1 := HR1.out.free8 1
  have z2 := HR1.out.free8 2
  have z3 := HR1.out.free8 3
  have z4 := HR1.out.free8 4
  have z5 := HR1.out.free8 5
  have z6 := HR1.out.free8 6
  have z7 := HR1.out.free8 7
  have z8 := HR1.out.free8 8
  clear hb1 e0 e1 e2
  go_wp2_with fail
  go_ret
  exact ⟨rfl, HR1.out.eight (st + 1) 1 k a f (look l k a f) (look l k a f) false, (Sp.of_below HB1.out hBw).eight hBb (st + 1) 1 k a f (look l k a f) (look l k a f) false⟩
end Go.Proofs.YtapcgikamldchaaDoor
namespace Go.Proofs.YtapcgikamldchaaDoor
open Go.RowKit

theorem putL_len (l : List Wd) (k a f x : Int) : (putL l k a f x).length ≤ l.length + 1 := by
  induction l with
  | nil => simp [putL]
  | cons y r ih =>
    simp only [putL]
    split
    · simp
    · simp only [List.length_cons]; omega
theorem putM_len (l : List Wd) (k a f x : Int) : (putM l k a f x).length ≤ l.length + 1 := by
  unfold putM
  split
  · exact putL_len l k a f x
  · omega

/-- The last access, stored anew. -/
def seven (w : World) (b : Nat) (ak k a f was is : Int) (done : Bool) : World :=
  ((((((w.setCell ⟨b, 2, none⟩ (.int .u8 ak)).setCell ⟨b, 3, none⟩ (.int .u8 k)).setCell ⟨b, 4, none⟩ (.int .i64 a)).setCell ⟨b, 5, none⟩ (.int .i64 f)).setCell ⟨b, 6, none⟩ (.int .u64 was)).setCell ⟨b, 7, none⟩ (.int .u64 is)).setCell ⟨b, 8, none⟩ (.bool done)
theorem R2.seven {B b : Nat} {l : List Wd} {v : Value} {st ak' k' a' f' was' is' : Int} {done' : Bool} {w : World} (h : R2 B b l v (rest8 st ak' k' a' f' was' is' done') w) (ak k a f was is : Int) (done : Bool) :
    R2 B b l v (rest8 st ak k a f was is done) (seven w b ak k a f was is done) :=
  ((((((h.set 1 (.int .u8 ak)).set 2 (.int .u8 k)).set 3 (.int .i64 a)).set 4 (.int .i64 f)).set 5 (.int .u64 was)).set 6 (.int .u64 is)).set 7 (.bool done)
theorem below_seven {B b : Nat} {u w : World} (h : Below B u w) (hBb : B ≤ b) (ak k a f was is : Int) (done : Bool) : Below B u (seven w b ak k a f was is done) :=
  ((((((h.setCell hBb _).setCell hBb _).setCell hBb _).setCell hBb _).setCell hBb _).setCell hBb _).setCell hBb _
theorem Sp.seven {B b : Nat} {v : Value} {u w : World} (h : Sp B b v u w) (hBb : B ≤ b) (ak k a f was is : Int) (done : Bool) : Sp B b v u (seven w b ak k a f was is done) :=
  ((((((h.setC hBb 2 _).setC hBb 3 _).setC hBb 4 _).setC hBb 5 _).setC hBb 6 _).setC hBb 7 _).setC hBb 8 _
/-- Seven stores into another block. -/
theorem far7 {w : World} {b q o : Nat} {v x2 x3 x4 x5 x6 x7 x8 : Value} (hne : b ≠ q) (h : w.cell? ⟨q, o, none⟩ = some v) :
    (((((((w.setCell ⟨b, 2, none⟩ x2).setCell ⟨b, 3, none⟩ x3).setCell ⟨b, 4, none⟩ x4).setCell ⟨b, 5, none⟩ x5).setCell ⟨b, 6, none⟩ x6).setCell ⟨b, 7, none⟩ x7).setCell ⟨b, 8, none⟩ x8).cell? ⟨q, o, none⟩ = some v := by
  rw [World.cell?_setCell_far _ _ _ _ hne, World.cell?_setCell_far _ _ _ _ hne, World.cell?_setCell_far _ _ _ _ hne, World.cell?_setCell_far _ _ _ _ hne, World.cell?_setCell_far _ _ _ _ hne, World.cell?_setCell_far _ _ _ _ hne, World.cell?_setCell_far _ _ _ _ hne]
  exact h

set_option maxHeartbeats 1000000 in
theorem store_any (B b : Nat) (l : List Wd) (v : Value) (st ak k' a' f' was is : Int) (done : Bool) (k a f x : Int) (w : World) (h : R2 B b l v (rest8 st ak k' a' f' was is done) w) (hn : l.length ≤ 999) (hBb : B ≤ b) (hBw : B ≤ w.heap.size) (hs0 : 0 ≤ st) (hs1 : st < 4611686018427387904) :
    Calls Tryd.prog 28 #[.pointer (some ⟨b, 0, none⟩), .agg #[.int .u8 k, .int .i64 a, .int .i64 f], .int .u64 x] w fun e w' => e = .returned (.tuple #[]) ∧ (∃ v', R2 B b (putM l k a f x) v' (rest8 (st + 1) 2 k a f (look l k a f) (look (putM l k a f x) k a f) false) w') ∧ Sp B b v w w' := by
  have hbb : Below w.heap.size w (w.alloc (.cells #[.int .u8 k, .int .i64 a, .int .i64 f] 42)) := (Below.refl _ _).alloc (Nat.le_refl _) _
  have hblk : (w.alloc (.cells #[.int .u8 k, .int .i64 a, .int .i64 f] 42)).heap[w.heap.size]? = some (.cells #[.int .u8 k, .int .i64 a, .int .i64 f] 42 (0, 0)) := by
    show (w.heap.push _)[w.heap.size]? = _
    rw [Array.getElem?_push, if_pos rfl]
  have hs : w.heap.size < (w.alloc (.cells #[.int .u8 k, .int .i64 a, .int .i64 f] 42)).heap.size := by simp
  have hbw : w.heap.size ≠ b := by have := h.size; omega
  have hvw : v.ownBlock ≠ some w.heap.size := fun e => by have := h.own_lt _ e; omega
  have HR := Lib.hid (h.below hbb)
  have HB := Lib.hid hbb
  have HN := Lib.hid (Nat.le_trans (putM_len l k a f x) (by omega : l.length + 1 ≤ 1000))
  clear hbb h
  go_enter Tryd.func28, Tryd.ntmps28
  have e0 := Joins.cell_of_block hblk 0
  have e1 := Joins.cell_of_block hblk 1
  have e2 := Joins.cell_of_block hblk 2
  have HK := Lib.hid hblk
  clear hblk
  simp only [List.getElem?_toArray, List.getElem?_cons_zero, List.getElem?_cons_succ] at e0 e1 e2
  go_wp2_with fail
  revert hs HR HB e0 e1 e2 HK
  generalize w.alloc (.cells #[.int .u8 k, .int .i64 a, .int .i64 f] 42) = w0
  intro hs HR HB HK e0 e1 e2
  refine (word_any B b l v _ k a f _ HR.out (by omega)).mono ?_
  rintro e w1 ⟨rfl, hb1⟩
  have HR1 := Lib.hid (HR.out.below hb1)
  have HB1 := Lib.hid (HB.out.trans (hb1.mono HB.out.size))
  have hk1 := (hb1.block w.heap.size hs).trans HK.out
  have hs1' : w.heap.size < w1.heap.size := Nat.lt_of_lt_of_le hs hb1.size
  have d0 := Joins.cell_of_block hk1 0
  have d1 := Joins.cell_of_block hk1 1
  have d2 := Joins.cell_of_block hk1 2
  have HK1 := Lib.hid hk1
  simp only [List.getElem?_toArray, List.getElem?_cons_zero, List.getElem?_cons_succ] at d0 d1 d2
  clear hb1 e0 e1 e2 hk1
  go_wp2_with fail
  refine (put_any B b l v _ k a f x _ HR1.out (by omega) hBb (Nat.le_trans hBw HB1.out.size)).mono ?_
  rintro e w2 ⟨rfl, ⟨v2, hR2⟩, hB2, hap⟩
  have HR2 := Lib.hid hR2
  have HB2 := Lib.hid (Sp.put HB1.out hBw hB2 hap)
  have hk2 := (hap w.heap.size hs1' hbw hvw).trans HK1.out
  have g0 := Joins.cell_of_block hk2 0
  have g1 := Joins.cell_of_block hk2 1
  have g2 := Joins.cell_of_block hk2 2
  have HK2 := Lib.hid hk2
  have hs2 : w.heap.size < w2.heap.size := by have := hB2.size; omega
  simp only [List.getElem?_toArray, List.getElem?_cons_zero, List.getElem?_cons_succ] at g0 g1 g2
  have r1 : w2.cell? ⟨b, 1, none⟩ = some (.int .i64 st) := HR2.out.cell8 1
  have z1 := HR2.out.free8 1
  clear d0 d1 d2 hR2 hB2 hap hk2
  go_wp2_with fail
  have HR3 := Lib.hid (show R2 B b (putM l k a f x) v2 (rest8 (st + 1) ak k' a' f' was is done) (w2.setCell ⟨b, 1, none⟩ (.int .i64 (st + 1))) from HR2.out.set 0 (.int .i64 (st + 1)))
  have HB3 := Lib.hid (HB2.out.setC hBb 1 (.int .i64 (st + 1)))
  have hk3 : (w2.setCell ⟨b, 1, none⟩ (.int .i64 (st + 1))).heap[w.heap.size]? = some (.cells #[.int .u8 k, .int .i64 a, .int .i64 f] 42 (0, 0)) := (Below.heap_setCell w2 _ _ w.heap.size (by simpa using hbw)).trans HK2.out
  have hs3 : w.heap.size < (w2.setCell ⟨b, 1, none⟩ (.int .i64 (st + 1))).heap.size := by simpa [World.setCell] using hs2
  clear g0 g1 g2 r1 z1 HR HB HK HR1 HB1 HK1 HR2 HB2 HK2 hs2 hs hs1'
  revert HR3 HB3 hk3 hs3
  generalize w2.setCell ⟨b, 1, none⟩ (.int .i64 (st + 1)) = v3
  intro HR3 HB3 hk3 hs3
  have m0 := Joins.cell_of_block hk3 0
  have m1 := Joins.cell_of_block hk3 1
  have m2 := Joins.cell_of_block hk3 2
  clear hk3
  simp only [List.getElem?_toArray, List.getElem?_cons_zero, List.getElem?_cons_succ] at m0 m1 m2
  have hbw' : b ≠ w.heap.size := Ne.symm hbw
  have n0 : v3.drew.cell? ⟨w.heap.size, 0, none⟩ = some (.int .u8 k) := m0
  have n1 : v3.drew.cell? ⟨w.heap.size, 1, none⟩ = some (.int .i64 a) := m1
  have n2 : v3.drew.cell? ⟨w.heap.size, 2, none⟩ = some (.int .i64 f) := m2
  go_region_held3 (fun w1 => w1.cell? ⟨w.heap.size, 0, none⟩ = some (.int .u8 k) ∧ w1.cell? ⟨w.heap.size, 1, none⟩ = some (.int .i64 a) ∧ w1.cell? ⟨w.heap.size, 2, none⟩ = some (.int .i64 f))
    (first | with_reducible exact ⟨n0, n1, n2⟩ | with_reducible exact ⟨q0, q1, q2⟩ | with_reducible exact ⟨far7 hbw' q0, far7 hbw' q1, far7 hbw' q2⟩)
    (first | (go_at_call 40; refine (word_any B b (putM l k a f x) v2 _ k a f _ (HR3.out.below (Below.refl _ _).drew) HN.out).mono ?_; rintro e w' ⟨rfl, hb⟩; have q0 : w'.cell? ⟨w.heap.size, 0, none⟩ = some (.int .u8 k) := (hb.cell (p := ⟨w.heap.size, 0, none⟩) hs3).trans n0; have q1 : w'.cell? ⟨w.heap.size, 1, none⟩ = some (.int .i64 a) := (hb.cell (p := ⟨w.heap.size, 1, none⟩) hs3).trans n1; have q2 : w'.cell? ⟨w.heap.size, 2, none⟩ = some (.int .i64 f) := (hb.cell (p := ⟨w.heap.size, 2, none⟩) hs3).trans n2; have HR4 := Lib.hid ((HR3.out.below (Below.refl _ _).drew).below hb); have HB4 := Lib.hid (HB3.out.drew.next hb); have y2 := HR4.out.cell8 2; have y3 := HR4.out.cell8 3; have y4 := HR4.out.cell8 4; have y5 := HR4.out.cell8 5; have y6 := HR4.out.cell8 6; have y7 := HR4.out.cell8 7; have y8 := HR4.out.cell8 8; simp only [rest8, List.getElem?_cons_zero, List.getElem?_cons_succ] at y2 y3 y4 y5 y6 y7 y8; have z2 := HR4.out.free8 2; have z3 := HR4.out.free8 3; have z4 := HR4.out.free8 4; have z5 := HR4.out.free8 5; have z6 := HR4.out.free8 6; have z7 := HR4.out.free8 7; have z8 := HR4.out.free8 8; clear hb))
  go_wp2
  go_end0
  exact ⟨rfl, ⟨_, HR4.out.seven 2 k a f (look l k a f) (look (putM l k a f x) k a f) false⟩, HB4.out.seven hBb 2 k a f (look l k a f) (look (putM l k a f x) k a f) false⟩
end Go.Proofs.YtapcgikamldchaaDoor
namespace Go.Proofs.YtapcgikamldchaaDoor
open Go.RowKit

end Go.Proofs.YtapcgikamldchaaDoor
