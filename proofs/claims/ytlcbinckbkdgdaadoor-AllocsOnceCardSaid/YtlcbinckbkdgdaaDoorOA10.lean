/-
  What holds between two acts, with a ref of the law's own; condition: all lies as it says.
  The acts done, each thread goes on alone: a step, what is left, and the look at the whole; condition: all lies as it says.
-/
import Derived.Test.YtlcbinckbkdgdaaDoorOA8
import Derived.Test.YtlcbinckbkdgdaaDoorOD3
namespace Go.Proofs.YtlcbinckbkdgdaaDoor
open Go.RowKit Go.Maps

section
variable {W w w' : World} {p b G H n c c' k r9 : Nat} {cs9 : List Value} {mo : Int} {lst lst' : Int → Int} {Q Q' : (Nat → TA) → List Int → MA → Prop}
def RunR (W : World) (p b G H : Nat) (n c : Nat) (mo : Int) (lst lst' : Int → Int) (Q : (Nat → TA) → List Int → MA → Prop) (r9 : Nat) (cs9 : List Value) (w : World) : Prop := ∃ th S R T Mp ob, TR W.heap.size p b G H ob c r9 cs9 th Mp W w ∧ (ob.size = 8 * n ∧ ∀ j : Nat, j < 8 * n → ob[j]? = some (.int .i64 (lst j))) ∧ InvA (8 * n) mo th S R T lst' Mp ∧ T ≤ (c : Int) ∧ (th 5) = ⟨[], .no⟩ ∧ Q th S Mp
theorem RunR.forget (h : RunR W p b G H n c mo lst lst' Q r9 cs9 w) : RunG W p b G H n c mo lst lst' Q w := by
  obtain ⟨th, S, R, T, Mp, ob, ⟨ly, M, h1, h2, h3, h4, _⟩, h5⟩ := h
  exact ⟨th, S, R, T, Mp, ob, ⟨ly, M, h1, h2, h3, h4⟩, h5⟩
theorem RunG.alloc (h : RunG W p b G H n c mo lst lst' Q w) (cs : List Value) : RunR W p b G H n c mo lst lst' Q w.heap.size cs (w.alloc (.cells cs.toArray 34)) := by
  obtain ⟨th, S, R, T, Mp, ob, ⟨ly, M, h1, h2, h3, h4⟩, h5⟩ := h
  have hbe : Below w.heap.size w (w.alloc (.cells cs.toArray 34)) := (Below.refl _ _).alloc (Nat.le_refl _) _
  exact ⟨th, S, R, T, Mp, ob, ⟨ly, M, h1, h2, h3.below hbe, h4.below (Nat.le_refl _) hbe, Bq.new _ _ _, h4.size, h3.fresh (Nat.le_refl _)⟩, h5⟩
theorem RunR.below (h : RunR W p b G H n c mo lst lst' Q r9 cs9 w) (hb : Below w.heap.size w w') : RunR W p b G H n c mo lst lst' Q r9 cs9 w' := by
  obtain ⟨th, S, R, T, Mp, ob, ⟨ly, M, h1, h2, h3, h4, h5, h6, h7⟩, h8⟩ := h
  exact ⟨th, S, R, T, Mp, ob, ⟨ly, M, h1, h2, h3.below hb, h4.below (Nat.le_refl _) hb, h5.below hb, h6, h7⟩, h8⟩
theorem RunR.fill {c0 c1 c2 d0 d1 d2 : Value} (h : RunR W p b G H n c mo lst lst' Q r9 [c0, c1, c2] w) (hB : 1 < W.heap.size) : RunR W p b G H n c mo lst lst' Q r9 [d0, d1, d2] (fill3 r9 d0 d1 d2 w) := by
  obtain ⟨th, S, R, T, Mp, ob, ⟨ly, M, h1, h2, h3, h4, h5, h6, h7⟩, h8⟩ := h
  exact ⟨th, S, R, T, Mp, ob, ⟨ly, M, h1, h2, h3.fill hB h6 h5 h7, h4.fill h6 h5, h5.fill3, h6, h7⟩, h8⟩
theorem RunR.bq (h : RunR W p b G H n c mo lst lst' Q r9 cs9 w) : Bq r9 34 cs9 w := by
  obtain ⟨th, S, R, T, Mp, ob, ⟨ly, M, h1, h2, h3, h4, h5, h6, h7⟩, h8⟩ := h
  exact h5
theorem RunR.low (h : RunR W p b G H n c mo lst lst' Q r9 cs9 w) : Below W.heap.size W w := by
  obtain ⟨th, S, R, T, Mp, ob, ⟨ly, M, h1, h2, h3, h4, _⟩, _⟩ := h
  exact h4.low
theorem RunG.low (h : RunG W p b G H n c mo lst lst' Q w) : Below W.heap.size W w := by
  obtain ⟨th, S, R, T, Mp, ob, ⟨ly, M, h1, h2, h3, h4⟩, _⟩ := h
  exact h4.low
theorem RunR.mono (h : RunR W p b G H n c mo lst lst' Q r9 cs9 w) (hc : c ≤ c') : RunR W p b G H n c' mo lst lst' Q r9 cs9 w := by
  obtain ⟨th, S, R, T, Mp, ob, ⟨ly, M, h1, h2, h3⟩, h4, h5, h6, h7⟩ := h
  exact ⟨th, S, R, T, Mp, ob, ⟨ly, M, h1, by omega, h3⟩, h4, h5, by omega, h7⟩
/-- The row of what comes next is brought up to date. -/
theorem RunR.put {s g : Int} (h : RunR W p b G H n c mo lst (lstG lst [(s, g)]) Q r9 cs9 w) (h1 : 1 < H) (hH : W.heap.size ≤ H) {z : Nat} (hz : s = (z : Int)) (hzn : z < 8 * n) : RunR W p b G H n c mo (lstG lst [(s, g)]) (lstG lst [(s, g)]) Q r9 cs9 (w.setCell ⟨H, z, none⟩ (.int .i64 (g + 1))) := by
  obtain ⟨th, S, R, T, Mp, ob, ⟨ly, M, hM, hst, TWh, low, k5, k6, k7⟩, ⟨ho1, ho2⟩, I, hT, h5, hQ⟩ := h
  refine ⟨th, S, R, T, Mp, _, ⟨ly, M, hM, hst, TWh.int h1 low.bq z (.int .i64 (g + 1)), ⟨low.low.setCell (p := ⟨H, z, none⟩) hH _, setCell_blk low.keep z (.int .i64 (g + 1))⟩, k5.setO (k5.ne low.bq (by decide)) _ _, k6, k7⟩, ⟨by simpa using ho1, fun j hj => ?_⟩, I, hT, h5, hQ⟩
  rw [Array.getElem?_setIfInBounds]
  by_cases e : z = j
  · subst e
    rw [if_pos rfl, if_pos (by omega)]
    simp [lstG, hz]
  · rw [if_neg e, ho2 j hj]
    have : ¬ ((j : Int) = (z : Int)) := by omega
    simp [lstG, hz, this]
theorem RunR.step (h : RunR W p b G H n c mo lst lst Q r9 cs9 w) (bb : Bool) (hB : 1 < W.heap.size) (hn : n ≤ 3) (hmo : 0 ≤ mo ∧ mo < 4294967296) (hk : k < 5) (off : Nat) (ho : off = 3 * k) (hc : c < 800000) :
    Calls Tryd.prog 22 #[.pointer (some ⟨G, off, none⟩), .pointer (some ⟨p, 0, none⟩), .bool bb, .int .u32 mo] w fun e w' => ∃ (s g : Int) (gain : List (Int × Int)), e = .returned (.tuple #[.agg #[.int .i64 s, .int .u32 g, .bool false], .bool (!gain.isEmpty)]) ∧ (∀ z r, gain = z :: r → s = z.1 ∧ g = z.2) ∧ gain.length ≤ 1 ∧ (∀ x ∈ gain, (0 ≤ x.1 ∧ x.1 < (8 * n : Nat)) ∧ lst x.1 ≤ x.2 ∧ 0 ≤ x.2 ∧ x.2 ≤ mo) ∧ RunR W p b G H n (c + 1) mo lst (lstG lst gain) (fun _ _ _ => True) r9 cs9 w' := by
  obtain ⟨th, S, R, T, Mp, ob, h1, hob, h2, h3, h4, h5⟩ := h
  have hop := (h2.begin (show k < 6 by omega) bb).1.ops k (by omega)
  rw [updA_same] at hop
  refine (step_anyR bb mo hB (Nat.le_refl _) hk off ho (by omega) h1 hmo (fun x hx => ?_) ?_ (fun o e1 e2 e3 => ?_)).mono ?_
  · have := h2.owned (show k < 6 by omega) (z := x.1) (by unfold ownA; exact List.mem_append_left _ (List.mem_map.2 ⟨x, hx, rfl⟩))
    omega
  · have h6 := beginA_held (mo := mo) (th k) bb
    have h7 := h2.held_len (show k < 6 by omega)
    omega
  · rw [e1] at hop
    obtain ⟨_, hop⟩ := hop
    rcases hop with ⟨_, _, ho⟩ | ⟨_, hop⟩
    · rcases ho with ho | ⟨_, ho, _⟩ | ⟨ho, _⟩
      · omega
      · exact ho
      · omega
    · exfalso
      rcases hop with ⟨h, _⟩ | ⟨h, _⟩ | ⟨h, _⟩ <;> omega
  · rintro e w' ⟨s, g, rfl, h6, h7⟩
    obtain ⟨S', R', T', i1, i2, i3, i4, i5, i6, i7⟩ := h2.step (by omega) (by omega) hmo.2 (show k < 6 by omega) bb
    refine ⟨s, g, gotTA th k bb mo Mp, rfl, h6, i6, fun x hx => by exact_mod_cast i7 x hx, _, S', R', T', _, ob, h7, hob, i1, by push_cast; omega, ?_, trivial⟩
    show updA th k _ 5 = _
    rw [updA_ne _ _ (by omega)]
    exact h4
theorem RunG.weak (h : RunG W p b G H n c mo lst lst' Q w) : RunG W p b G H n c mo lst lst' (fun _ _ _ => True) w := by
  obtain ⟨th, S, R, T, Mp, ob, h1, h2, h3, h4, h5, _⟩ := h
  exact ⟨th, S, R, T, Mp, ob, h1, h2, h3, h4, h5, trivial⟩
/-- What the law looks at behind a step: the ref's block, and what it may be. -/
def Gain (W : World) (p b G H n c : Nat) (mo : Int) (lst : Int → Int) (r9 : Nat) (s g : Int) (gain : List (Int × Int)) (w : World) : Prop :=
  (∀ z r, gain = z :: r → s = z.1 ∧ g = z.2) ∧ gain.length ≤ 1 ∧ (∀ x ∈ gain, (0 ≤ x.1 ∧ x.1 < (8 * n : Nat)) ∧ lst x.1 ≤ x.2 ∧ 0 ≤ x.2 ∧ x.2 ≤ mo) ∧ RunR W p b G H n c mo lst (lstG lst gain) (fun _ _ _ => True) r9 [.int .i64 s, .int .u32 g, .bool false] w
theorem low_cell {a : Addr} {v : Value} (h : Below W.heap.size W w) (hy : W.cell? a = some v) (ha : a.block < W.heap.size) : w.cell? a = some v := (h.cell ha).trans hy
end
end Go.Proofs.YtlcbinckbkdgdaaDoor
namespace Go.Proofs.YtlcbinckbkdgdaaDoor
open Go.RowKit Go.Maps

/-- The first i threads have nothing under way. -/
def QA2 (i : Nat) (th : Nat → TA) (_ : List Int) (_ : MA) : Prop := ∀ j, j < i → (th j).op = .no
/-- .. and the next one is over in 1020 steps, k of which are done. -/
def QA3 (i k : Nat) (th : Nat → TA) (S : List Int) (M : MA) : Prop := (∀ j, j < i → (th j).op = .no) ∧ ((th i).op = .no ∨ remA M S.length (th i).op + k ≤ 1020)
theorem beginA_id {t : TA} {b : Bool} {mo : Int} (h : t.op ≠ .no) : beginA t b mo = t := by
  unfold beginA
  cases hop : t.op with
  | no => exact absurd hop h
  | al o => rfl
  | fr o => rfl
theorem remA_pos {M : MA} {l : Nat} {o : AO} (h : o ≠ .no) : 1 ≤ remA M l o := by
  cases o with
  | no => exact absurd rfl h
  | al o =>
    simp only [remA]
    have hp : ∀ x, 1 ≤ remF M.ms (.pop x) := fun x => by simp only [remF]; (repeat' split) <;> omega
    have := hp o.pop
    (repeat' split) <;> omega
  | fr o =>
    simp only [remA]
    have hp : ∀ x, 1 ≤ remF M.ms (.push x) := fun x => by simp only [remF]; (repeat' split) <;> omega
    have := hp o.psh
    (repeat' split) <;> omega
theorem qa3_step {i k : Nat} {th : Nat → TA} {S S' : List Int} {mo : Int} {M : MA} (h : QA3 i k th S M ∧ (th i).op ≠ .no) (h2 : ((stepTA th i false mo M).1 i).op = .no ∨ remA (stepTA th i false mo M).2 S'.length ((stepTA th i false mo M).1 i).op + 1 ≤ remA M S.length (beginA (th i) false mo).op) : QA3 i (k + 1) (stepTA th i false mo M).1 S' (stepTA th i false mo M).2 := by
  obtain ⟨⟨h3, h4⟩, h5⟩ := h
  refine ⟨fun j hj => ?_, h2.imp id fun h2 => ?_⟩
  · show (updA th i _ j).op = .no
    rw [updA_ne _ _ (by omega)]
    exact h3 j hj
  · rw [beginA_id h5] at h2
    rcases h4 with h6 | h6
    · exact absurd h6 h5
    · omega
section
variable {W w w' : World} {p b G H n c c' k : Nat} {mo : Int} {lst lst' : Int → Int} {Q Q' : (Nat → TA) → List Int → MA → Prop}
theorem RunG.mono (h : RunG W p b G H n c mo lst lst' Q w) (hc : c ≤ c') (hq : ∀ th S R T Mp, InvA (8 * n) mo th S R T lst' Mp → Q th S Mp → Q' th S Mp) : RunG W p b G H n c' mo lst lst' Q' w := by
  obtain ⟨th, S, R, T, Mp, ob, ⟨ly, M, h1, h1', h1''⟩, ho, h2, h3, h4, h5⟩ := h
  exact ⟨th, S, R, T, Mp, ob, ⟨ly, M, h1, by omega, h1''⟩, ho, h2, by omega, h4, hq _ _ _ _ _ h2 h5⟩
theorem RunG.step (h : RunG W p b G H n c mo lst lst' Q w) (bb : Bool) (hB : 1 < W.heap.size) (hn : n ≤ 3) (hmo : 0 ≤ mo ∧ mo < 4294967296) (hk : k < 5) (off : Nat) (ho : off = 3 * k) (hc : c < 800000)
    (hq : ∀ th S R T Mp S' R' T', InvA (8 * n) mo th S R T lst' Mp → Q th S Mp → InvA (8 * n) mo (stepTA th k bb mo Mp).1 S' R' T' (lstG lst' (gotTA th k bb mo Mp)) (stepTA th k bb mo Mp).2 → ((stepTA th k bb mo Mp).1 k).op = .no ∨ remA (stepTA th k bb mo Mp).2 S'.length ((stepTA th k bb mo Mp).1 k).op + 1 ≤ remA Mp S.length (beginA (th k) bb mo).op → (stepTA th k bb mo Mp).2.sst = Mp.sst → Q' (stepTA th k bb mo Mp).1 S' (stepTA th k bb mo Mp).2) :
    Calls Tryd.prog 22 #[.pointer (some ⟨G, off, none⟩), .pointer (some ⟨p, 0, none⟩), .bool bb, .int .u32 mo] w fun e w' => ∃ (s g : Int) (gain : List (Int × Int)), e = .returned (.tuple #[.agg #[.int .i64 s, .int .u32 g, .bool false], .bool (!gain.isEmpty)]) ∧ (∀ z r, gain = z :: r → s = z.1 ∧ g = z.2) ∧ gain.length ≤ 1 ∧ (∀ x ∈ gain, (0 ≤ x.1 ∧ x.1 < (8 * n : Nat)) ∧ lst' x.1 ≤ x.2 ∧ 0 ≤ x.2 ∧ x.2 ≤ mo) ∧ RunG W p b G H n (c + 1) mo lst (lstG lst' gain) Q' w' := by
  obtain ⟨th, S, R, T, Mp, ob, h1, hob, h2, h3, h4, h5⟩ := h
  have hop := (h2.begin (show k < 6 by omega) bb).1.ops k (by omega)
  rw [updA_same] at hop
  refine (step_any bb mo hB (Nat.le_refl _) hk off ho (by omega) h1 hmo (fun x hx => ?_) ?_ (fun o e1 e2 e3 => ?_)).mono ?_
  · have := h2.owned (show k < 6 by omega) (z := x.1) (by unfold ownA; exact List.mem_append_left _ (List.mem_map.2 ⟨x, hx, rfl⟩))
    omega
  · have h6 := beginA_held (mo := mo) (th k) bb
    have h7 := h2.held_len (show k < 6 by omega)
    omega
  · rw [e1] at hop
    obtain ⟨_, hop⟩ := hop
    rcases hop with ⟨_, _, ho⟩ | ⟨_, hop⟩
    · rcases ho with ho | ⟨_, ho, _⟩ | ⟨ho, _⟩
      · omega
      · exact ho
      · omega
    · exfalso
      rcases hop with ⟨h, _⟩ | ⟨h, _⟩ | ⟨h, _⟩ <;> omega
  · rintro e w' ⟨s, g, rfl, h6, h7⟩
    obtain ⟨S', R', T', i1, i2, i3, i4, i5, i6, i7⟩ := h2.step (by omega) (by omega) hmo.2 (show k < 6 by omega) bb
    refine ⟨s, g, gotTA th k bb mo Mp, rfl, h6, i6, fun x hx => by exact_mod_cast i7 x hx, _, S', R', T', _, ob, h7, hob, i1, by push_cast; omega, ?_, hq _ _ _ _ _ _ _ _ h2 h5 i1 i4 i5⟩
    show updA th k _ 5 = _
    rw [updA_ne _ _ (by omega)]
    exact h4
theorem RunG.ptr (h : RunG W p b G H n c mo lst lst' Q w) {i : Nat} (hi : i < 5) : ∃ va vf, w.cell? ⟨G, i * 3 + 1, none⟩ = some va ∧ w.cell? ⟨G, i * 3 + 2, none⟩ = some vf ∧ ((RunG W p b G H n c mo lst lst' (fun th S M => Q th S M ∧ (th i).op = .no) w ∧ va = .pointer none ∧ vf = .pointer none) ∨ RunG W p b G H n c mo lst lst' (fun th S M => Q th S M ∧ (th i).op ≠ .no) w ∧ ((∃ q, va = .pointer (some ⟨q, 0, none⟩) ∧ vf = .pointer none) ∨ ∃ q, va = .pointer none ∧ vf = .pointer (some ⟨q, 0, none⟩))) := by
  obtain ⟨th, S, R, T, Mp, ob, ⟨ly, M, hM, hst, TWh, low⟩, hob, I, hT, h5, hQ⟩ := h
  have hc := (TWh.tl hi).cells
  have mk : ∀ (P : (Nat → TA) → Prop), P th → RunG W p b G H n c mo lst lst' (fun th' S' M' => Q th' S' M' ∧ P th') w := fun P hp => ⟨th, S, R, T, Mp, ob, ⟨ly, M, hM, hst, TWh, low⟩, hob, I, hT, h5, hQ, hp⟩
  have ho := TWh.op i hi
  refine ⟨(ly i).a, (ly i).f, by rw [Nat.mul_comm]; exact hc.2.1, by rw [Nat.mul_comm]; exact hc.2.2.1, ?_⟩
  cases hop : (th i).op with
  | no =>
    rw [hop] at ho
    exact .inl ⟨mk (fun th => (th i).op = .no) hop, ho.2.1, ho.2.2⟩
  | al o =>
    rw [hop] at ho
    obtain ⟨ox, q, r, r1, _, _, _, _, _, e1, e2⟩ := ho
    exact .inr ⟨mk (fun th => (th i).op ≠ .no) (by show (th i).op ≠ .no; rw [hop]; exact AO.noConfusion), .inl ⟨q, e1, e2⟩⟩
  | fr o =>
    rw [hop] at ho
    obtain ⟨ox, q, r, r1, _, _, _, _, _, e1, e2⟩ := ho
    exact .inr ⟨mk (fun th => (th i).op ≠ .no) (by show (th i).op ≠ .no; rw [hop]; exact AO.noConfusion), .inr ⟨q, e1, e2⟩⟩
theorem RunG.whole (h : RunG W p b G H n c mo lst lst' (QA2 5) w) (hB : 1 < W.heap.size) (hn : n ≤ 3) (hmo : mo < 4294967296) (hc : c < 800000) :
    Calls Tryd.prog 24 #[.slice (some ⟨G, 0, none⟩) 5 5, .pointer (some ⟨p, 0, none⟩), .int .i64 (n : Int)] w fun e w' => e = .returned (.bool true) ∧ Below W.heap.size W w' ∧ Lay w' ∧ LayM w' := by
  obtain ⟨th, S, R, T, Mp, ob, ⟨ly, M, hM, hst, TWh, low⟩, hob, I, hT, h5, hQ⟩ := h
  subst hM
  have hno : ∀ k, k < 6 → (th k).op = .no := fun k hk => by
    by_cases e : k = 5
    · rw [e, h5]
    · exact hQ k (by omega)
  refine (whole_any TWh hB (by omega) I.stk (I.whq h5 hn hmo hno)).mono ?_
  rintro e w' ⟨rfl, ⟨M', e1, e2, F⟩, o⟩
  exact ⟨rfl, (low.onl (Nat.le_refl _) (TWh.tl (k := 0) (by decide)) o (by simp)).low, F.lay, F.laym⟩
end
end Go.Proofs.YtlcbinckbkdgdaaDoor
