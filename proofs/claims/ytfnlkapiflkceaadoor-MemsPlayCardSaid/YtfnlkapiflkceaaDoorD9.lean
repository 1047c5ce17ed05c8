/-
  The law MemsPlay: walked whole: it returns true and only makes memory of its own; condition: the table of rooms reads as the program lays it, the acts lie as they say.
-/
import Derived.Test.YtfnlkapiflkceaaDoorD8
import Derived.Outline
namespace Go.Proofs.YtfnlkapiflkceaaDoor
open Go.RowKit Go.Maps

/-- An act. -/
structure Ac where
  kd : Int
  x : Ad
  was : Int
  is : Int
  own : Bool
  hk : 0 ≤ kd ∧ kd ≤ 255
  hw : (Lit.int .u64 was).wf = true
  hi : (Lit.int .u64 is).wf = true
def ActCells (W : World) (g off : Nat) (c : Nat → Ac) (n : Nat) : Prop := ∀ i, i < n →
  W.cell? ⟨g, off + i * 7, none⟩ = some (.int .u8 (c i).kd) ∧ W.cell? ⟨g, off + i * 7 + 1, none⟩ = some (.int .u8 (c i).x.k) ∧ W.cell? ⟨g, off + i * 7 + 2, none⟩ = some (.int .i64 (c i).x.a) ∧ W.cell? ⟨g, off + i * 7 + 3, none⟩ = some (.int .i64 (c i).x.f) ∧
  W.cell? ⟨g, off + i * 7 + 4, none⟩ = some (.int .u64 (c i).was) ∧ W.cell? ⟨g, off + i * 7 + 5, none⟩ = some (.int .u64 (c i).is) ∧ W.cell? ⟨g, off + i * 7 + 6, none⟩ = some (.bool (c i).own)
theorem ActCells.below {W W' : World} {g off : Nat} {c : Nat → Ac} {n : Nat} (h : ActCells W g off c n) (hb : Below W.heap.size W W') : ActCells W' g off c n := fun i hi => by
  have k : ∀ {q j : Nat} {v : Value}, W.cell? ⟨q, j, none⟩ = some v → W'.cell? ⟨q, j, none⟩ = some v := fun {q j v} hc => (hb.cell (p := ⟨q, j, none⟩) (World.block_lt_of_cell? W _ hc)).trans hc
  obtain ⟨h0, h1, h2, h3, h4, h5, h6⟩ := h i hi
  exact ⟨k h0, k h1, k h2, k h3, k h4, k h5, k h6⟩
/-- Between two rounds. -/
structure St (W : World) (p m b q : Nat) (i : Nat) (wr : World) : Prop where
  mem : ∃ (n : Nat) (D : DataW Unit) (s : Acc8) (L : List (Ad × Int)), Pr p m b n D s L s wr ∧ Rel D L ∧ L.length ≤ i ∧ n ≤ i ∧ 0 ≤ s.st ∧ s.st ≤ i
  lay : Lay wr
  low : Below W.heap.size W wr
  box : wr.heap[q]? = some (.cells #[.pointer (some ⟨p, 0, none⟩), .pointer (some ⟨b, 0, none⟩)] 27 (0, 0))

/-- What a round reads, while the world goes on. -/
def PlayS (W : World) (q X p b : Nat) (kd : Int) (x : Ad) (was is : Int) (own : Bool) (w : World) : Prop :=
  (w.cell? ⟨X, 0, none⟩ = some (.int .u8 kd) ∧ w.cell? ⟨X, 1, none⟩ = some (.int .u8 x.k) ∧ w.cell? ⟨X, 2, none⟩ = some (.int .i64 x.a) ∧ w.cell? ⟨X, 3, none⟩ = some (.int .i64 x.f) ∧ w.cell? ⟨X, 4, none⟩ = some (.int .u64 was) ∧ w.cell? ⟨X, 5, none⟩ = some (.int .u64 is) ∧ w.cell? ⟨X, 6, none⟩ = some (.bool own) ∧ w.cell? ⟨q, 0, none⟩ = some (.pointer (some ⟨p, 0, none⟩)) ∧ w.cell? ⟨q, 1, none⟩ = some (.pointer (some ⟨b, 0, none⟩))) ∧ Hid (w.heap[q]? = some (.cells #[.pointer (some ⟨p, 0, none⟩), .pointer (some ⟨b, 0, none⟩)] 27 (0, 0)) ∧ w.heap[X]? = some (.cells #[.int .u8 kd, .int .u8 x.k, .int .i64 x.a, .int .i64 x.f, .int .u64 was, .int .u64 is, .bool own] 34 (0, 0)) ∧ Lay w ∧ Below W.heap.size W w)
section
variable {W : World} {q X p m b : Nat} {kd : Int} {x : Ad} {was is : Int} {own : Bool} {w w' : World}
theorem PlayS.mk (h1 : w.heap[q]? = some (.cells #[.pointer (some ⟨p, 0, none⟩), .pointer (some ⟨b, 0, none⟩)] 27 (0, 0))) (h2 : w.heap[X]? = some (.cells #[.int .u8 kd, .int .u8 x.k, .int .i64 x.a, .int .i64 x.f, .int .u64 was, .int .u64 is, .bool own] 34 (0, 0))) (h3 : Lay w) (h4 : Below W.heap.size W w) : PlayS W q X p b kd x was is own w :=
  ⟨⟨Joins.cell_of_block h2 0, Joins.cell_of_block h2 1, Joins.cell_of_block h2 2, Joins.cell_of_block h2 3, Joins.cell_of_block h2 4, Joins.cell_of_block h2 5, Joins.cell_of_block h2 6, Joins.cell_of_block h1 0, Joins.cell_of_block h1 1⟩, Lib.hid ⟨h1, h2, h3, h4⟩⟩
theorem PlayS.fr (h : PlayS W q X p b kd x was is own w) (hf : Fr p m b w w') (hm : 0 < m) (hWm : W.heap.size ≤ m) (hq : q ≠ p ∧ q ≠ b) (hX : X ≠ p ∧ X ≠ b) : PlayS W q X p b kd x was is own w' :=
  .mk (hf.cell h.2.out.1 (by decide) hq.1 hq.2) (hf.cell h.2.out.2.1 (by decide) hX.1 hX.2) (hf.lay hm h.2.out.2.2.1) (h.2.out.2.2.2.trans (hf.low.mono hWm))
theorem PlayS.below (h : PlayS W q X p b kd x was is own w) (hb : Below w.heap.size w w') : PlayS W q X p b kd x was is own w' :=
  have k : ∀ {j : Nat} {o : Obj}, w.heap[j]? = some o → w'.heap[j]? = some o := fun {j _} hc => (hb.block j (Array.getElem?_eq_some_iff.1 hc).1).trans hc
  .mk (k h.2.out.1) (k h.2.out.2.1) (h.2.out.2.2.1.below hb) (h.2.out.2.2.2.trans (hb.mono h.2.out.2.2.2.size))
theorem PlayS.lay (h : PlayS W q X p b kd x was is own w) : Lay w := h.2.out.2.2.1
theorem PlayS.low (h : PlayS W q X p b kd x was is own w) : Below W.heap.size W w := h.2.out.2.2.2
theorem PlayS.set (h : PlayS W q X p b kd x was is own w) (hq : X ≠ q) (h0 : X ≠ 0) (hWX : W.heap.size ≤ X) (u : Int) : PlayS W q X p b kd x u is own (w.setCell ⟨X, 4, none⟩ (.int .u64 u)) := by
  refine .mk ((Below.heap_setCell w _ _ q (by simpa using Ne.symm hq)).trans h.2.out.1) ?_ (h.2.out.2.2.1.same (by simp [World.setCell]) (Below.heap_setCell w _ _ 0 (by simpa using Ne.symm h0))) (h.2.out.2.2.2.setCell (p := ⟨X, 4, none⟩) hWX _)
  rw [Joins.block_setCell h.2.out.2.1]
  rfl
theorem Pr.box {n : Nat} {D : DataW Unit} {s r : Acc8} {L : List (Ad × Int)} {cs : Array Value} (h : Pr p m b n D s L r w) (hX : w.heap[X]? = some (.cells cs 34 (0, 0))) (hp : X ≠ p) (hb : X ≠ b) (j : Nat) (u : Value) : Pr p m b n D s L r (w.setCell ⟨X, j, none⟩ u) := by
  have far : ∀ z, z ≠ X → (w.setCell ⟨X, j, none⟩ u).heap[z]? = w.heap[z]? := fun z hz => Below.heap_setCell w _ _ z (by simpa using hz)
  obtain ⟨es, c, hm⟩ := h.prog.map_at
  obtain ⟨v, hr⟩ := h.ref
  refine ⟨h.prog.keep (far p (Ne.symm hp)) (far m fun e => ?_), ⟨v, (far b (Ne.symm hb)).trans hr.blk, ⟨hr.own.1, ?_⟩, hr.pos⟩, h.mp, h.pb⟩
  · subst e; rw [hX] at hm; cases hm
  · rcases hr.own.2 with hn | ⟨g, cap, cur, hv, hB, hg, rest⟩
    · exact .inl hn
    · refine .inr ⟨g, cap, cur, hv, hB, (far g fun e => ?_).trans hg, rest⟩
      subst e
      rw [hX] at hg
      injection hg with hg
      injection hg with _ h3
      exact absurd h3 (by decide)
end
theorem base43 {W : World} {B g n c : Nat} {xs : List Value} (h : W.ownsRow B 43 4 (.slice (some ⟨g, 0, none⟩) n c) n xs) : B ≤ g := by
  rcases h.2 with ⟨hv, _⟩ | ⟨g', cap', cur, hv, hB, _⟩
  · cases hv
  · cases hv
    exact hB
theorem may_p (x : Ad) (w : World) (hl : Lay w) : Calls Tryd.prog 8 #[.agg #[.int .u8 x.k, .int .i64 x.a, .int .i64 x.f]] w fun e w' => e = .returned (.bool (mayB x.k x.a x.f)) ∧ Below w.heap.size w w' := may_prog x w hl
section
variable {p m b n : Nat} {D : DataW Unit} {s r : Acc8} {L : List (Ad × Int)} {W : World}
theorem word_r (x : Ad) (h : Pr p m b n D s L r W) (hL : L.length ≤ 999) : Calls Tryd.prog 10 #[.pointer (some ⟨b, 0, none⟩), .agg #[.int .u8 x.k, .int .i64 x.a, .int .i64 x.f]] W fun e w' => e = .returned (.int .u64 (vals L x)) ∧ Below W.heap.size W w' := by
  obtain ⟨v, hr⟩ := h.ref
  exact word_any b b (L.map toWd) v _ x.k x.a x.f W hr (by simp; omega)
theorem load_p2 (x : Ad) (h : Pr p m b n D s L r W) (hr : Rel D L) (h0 : 0 ≤ s.st) (h1 : s.st < 1000000) :
    Calls Tryd.prog 11 #[.pointer (some ⟨p, 0, none⟩), .agg #[.int .u8 x.k, .int .i64 x.a, .int .i64 x.f]] W fun e W' => e = .returned (.int .u64 (vals L x)) ∧ Pr p m b n D (s.touch 1 x (vals L x) (vals L x) false) L r W' ∧ Fr p m b W W' := by
  have := load_p x h h0 h1
  rw [hr.val] at this
  exact this
theorem cas_p2 (x : Ad) (u v : Int) (hv : (Lit.int .u64 v).wf = true) (h : Pr p m b n D s L r W) (hr : Rel D L) (hl : Lay W) (h0 : 0 ≤ s.st) (h1 : s.st < 1000000) (hn : n < 1000000) :
    Calls Tryd.prog 14 #[.pointer (some ⟨p, 0, none⟩), .agg #[.int .u8 x.k, .int .i64 x.a, .int .i64 x.f], .int .u64 u, .int .u64 v] W fun e W' => e = .returned (.bool (casA L x u)) ∧ Pr p m b (n + 1) (casD D x u v) (s.touch 3 x (vals L x) (vals (casL L x u v) x) (casA L x u)) L r W' ∧ Fr p m b W W' := by
  have := cas_p x u v hv h hl h0 h1 hn
  rw [hr.val, (hr.cas x u v).val, hr.casB] at this
  exact this
theorem pair_store2 (x : Ad) (v : Int) (hv : (Lit.int .u64 v).wf = true) (h : Pr p m b n D s L s W) (hr : Rel D L) (hl : Lay W) (h0 : 0 ≤ s.st) (h1 : s.st < 1000000) (hn : n < 1000000) (hL : L.length ≤ 999) :
    Calls Tryd.prog 13 #[.agg #[.pointer (some ⟨p, 0, none⟩), .pointer (some ⟨b, 0, none⟩)], .agg #[.int .u8 x.k, .int .i64 x.a, .int .i64 x.f, .int .u64 v]] W fun e W' =>
      e = .returned (.tuple #[]) ∧ Pr p m b (n + 1) (storeD D x v) (s.touch 2 x (vals L x) (vals (storeA L x v) x) false) (storeA L x v) (s.touch 2 x (vals L x) (vals (storeA L x v) x) false) W' ∧ Fr p m b W W' := by
  have := pair_store x v hv h hl h0 h1 hn hL h0 h1
  rw [hr.val, (hr.store x v).val] at this
  exact this
end

set_option maxRecDepth 100000 in
set_option maxHeartbeats 4000000 in
theorem play_list (g off cap nn : Nat) (c : Nat → Ac) (W : World) (hl : Lay W) (hc : ActCells W g off c nn) (hn : nn ≤ 300) :
    Calls Tryd.prog 3 #[.slice (some ⟨g, off, none⟩) nn cap] W fun e W' => e = .returned (.bool true) ∧ Below W.heap.size W W' := by
  have h0W : 0 < W.heap.size := hl.1
  have HL := Lib.hid hl
  have HC := Lib.hid hc
  have hn' : ¬ ((300 : Int) < (nn : Int)) := by omega
  have hn2 : (nn : Int) ≤ 300 := by omega
  clear hl hc
  go_enter Tryd.func3, Tryd.ntmps3
  go_wp2_with fail
  ((with_reducible refine (begin_nil W h0W).mono ?_); rintro e w1 ⟨p, m, b, rfl, hp, hwm, hb⟩)
  have hq : b < w1.heap.size := hp.lt
  have hmp := hp.mp
  have hpb := hp.pb
  have hX : Below w1.heap.size w1 (w1.alloc (.cells #[.pointer (some ⟨p, 0, none⟩), .pointer (some ⟨b, 0, none⟩)] 27)) := (Below.refl _ _).alloc (Nat.le_refl _) _
  have HS := Lib.hid (show St W p m b w1.heap.size 0 (w1.alloc (.cells #[.pointer (some ⟨p, 0, none⟩), .pointer (some ⟨b, 0, none⟩)] 27)) from
    ⟨⟨0, .map [], z8, [], hp.below hX, rel_nil, Nat.le_refl _, Nat.le_refl _, by decide, by decide⟩, (HL.out.below hb).below hX, hb.trans (hX.mono hb.size), World.alloc_heap_new _ _⟩)
  clear hp hb hX
  go_wp2_with fail
  revert HS
  generalize w1.alloc (.cells #[.pointer (some ⟨p, 0, none⟩), .pointer (some ⟨b, 0, none⟩)] 27) = w2
  intro HS
  generalize w1.heap.size = q at *
  go_loopw [4] (fun j wr => ∃ i : Nat, i ≤ nn ∧ j = .int .i64 (i : Int) ∧ Hid (St W p m b q i wr)) (fun j _ => nn - (intOf j).toNat)
  case atStart => exact ⟨0, Nat.zero_le _, rfl, HS⟩
  case round =>
    obtain ⟨i, hi, rfl, hst⟩ := hrel
    by_cases hlt : i < nn
    · have hlt' : (i : Int) < (nn : Int) := by omega
      have hge : (0 : Int) ≤ (i : Int) := by omega
      obtain ⟨d0, d1, d2, d3, d4, d5, d6⟩ := (HC.out.below hst.out.low) i hlt
      generalize c i = c at d0 d1 d2 d3 d4 d5 d6
      obtain ⟨kd, x, was, is, own, hk, hw, hv⟩ := c
      dsimp only at d0 d1 d2 d3 d4 d5 d6
      have hqw : q < wr.heap.size := (Array.getElem?_eq_some_iff.1 hst.out.box).1
      have hA : Below wr.heap.size wr (wr.alloc (.cells #[.int .u8 kd, .int .u8 x.k, .int .i64 x.a, .int .i64 x.f, .int .u64 was, .int .u64 is, .bool own] 34)) := (Below.refl _ _).alloc (Nat.le_refl _) _
      have HSA := Lib.hid (show PlayS W q wr.heap.size p b kd x was is own (wr.alloc (.cells #[.int .u8 kd, .int .u8 x.k, .int .i64 x.a, .int .i64 x.f, .int .u64 was, .int .u64 is, .bool own] 34)) from
        .mk ((hA.block q hqw).trans hst.out.box) (World.alloc_heap_new _ _) (hst.out.lay.below hA) (hst.out.low.trans (hA.mono hst.out.low.size)))
      obtain ⟨n, D, s, L, hp, hr, hL, hn3, hs0, hs1⟩ := hst.out.mem
      have HP := Lib.hid (hp.below hA)
      have HR := Lib.hid hr
      have HV := Lib.hid hv
      have hWw : W.heap.size ≤ wr.heap.size := hst.out.low.size
      clear hst hA hp hr hw hv
      go_wp2_with fail
      clear d0 d1 d2 d3 d4 d5 d6
      revert HSA HP
      generalize wr.alloc (.cells #[.int .u8 kd, .int .u8 x.k, .int .i64 x.a, .int .i64 x.f, .int .u64 was, .int .u64 is, .bool own] 34) = w3
      intro HSA HP
      generalize wr.heap.size = X at *
      have HSd := Lib.hid (HSA.out.below (Below.refl _ _).drew)
      have HPd := Lib.hid (HP.out.below (Below.refl _ _).drew)
      clear HSA HP
      go_region_held3 (fun w9 => (w9.cell? ⟨X, 0, none⟩ = some (.int .u8 kd) ∧ w9.cell? ⟨X, 1, none⟩ = some (.int .u8 x.k) ∧ w9.cell? ⟨X, 2, none⟩ = some (.int .i64 x.a) ∧ w9.cell? ⟨X, 3, none⟩ = some (.int .i64 x.f) ∧ w9.cell? ⟨X, 4, none⟩ = some (.int .u64 was) ∧ w9.cell? ⟨X, 5, none⟩ = some (.int .u64 is) ∧ w9.cell? ⟨X, 6, none⟩ = some (.bool own) ∧ w9.cell? ⟨q, 0, none⟩ = some (.pointer (some ⟨p, 0, none⟩)) ∧ w9.cell? ⟨q, 1, none⟩ = some (.pointer (some ⟨b, 0, none⟩))) ∧ Hid (w9.heap[q]? = some (.cells #[.pointer (some ⟨p, 0, none⟩), .pointer (some ⟨b, 0, none⟩)] 27 (0, 0)) ∧ w9.heap[X]? = some (.cells #[.int .u8 kd, .int .u8 x.k, .int .i64 x.a, .int .i64 x.f, .int .u64 was, .int .u64 is, .bool own] 34 (0, 0)) ∧ Lay w9 ∧ Below W.heap.size W w9))
        (first | exact HSd.out | (refine PlayS.below ?_ hB1; assumption) | (refine PlayS.below ?_ hA1; assumption))
        (first
        | (go_at_call 8; with_reducible refine (may_p x _ HSd.out.lay).mono ?_; rintro e wA ⟨rfl, hA1⟩)
        | (go_at_call 9; with_reducible refine (may_any x.k x.a x.f _).mono ?_; rintro e wB ⟨rfl, hB1⟩))
      have HSB : PlayS W q X p b kd x was is own wB := by assumption
      have HPB := Lib.hid ((HPd.out.below hA1).below hB1)
      have HSC := Lib.hid HSB
      clear hA1 hB1 HSd HPd HSB
      have HMM := Lib.hid (show 0 < m by omega)
      have HWM := Lib.hid hwm
      have HQ := Lib.hid (show q ≠ p ∧ q ≠ b by omega)
      have HXX := Lib.hid (show X ≠ p ∧ X ≠ b by omega)
      have HS1 := Lib.hid (show s.st < 1000000 by omega)
      have HN9 := Lib.hid (show n < 1000000 by omega)
      have HL9 := Lib.hid (show L.length ≤ 999 by omega)
      cases own with
      | true =>
        obtain ⟨⟨x0, x1, x2, x3, x4, x5, x6, y0, y1⟩, _⟩ := HSC.out
        go_wp2_with fail
        ((with_reducible refine (word_r x HPB.out HL9.out).mono ?_); rintro e wG ⟨rfl, hb⟩)
        have HSG := Lib.hid (HSC.out.below hb)
        have HPG := Lib.hid (HPB.out.below hb)
        clear hb x0 x1 x2 x3 x4 x5 x6 y0 y1 HSC HPB
        have z4 := Joins.unfrozen_of_block HSG.out.2.out.2.1 4
        have HSC := Lib.hid (HSG.out.set (show X ≠ q by omega) (show X ≠ 0 by omega) hWw (vals L x))
        have HPB := Lib.hid (HPG.out.box HSG.out.2.out.2.1 HXX.out.1 HXX.out.2 4 (.int .u64 (vals L x)))
        obtain ⟨⟨x0, x1, x2, x3, x4, x5, x6, y0, y1⟩, _⟩ := HSG.out
        go_wp2_with fail
        · generalize wG.setCell ⟨X, 4, none⟩ (.int .u64 (vals L x)) = wZ at HSC HPB ⊢
          have HSd := Lib.hid (HSC.out.below (Below.refl _ _).drew)
          have HPd := Lib.hid (HPB.out.below (Below.refl _ _).drew)
          clear HSC HPB x0 x1 x2 x3 x4 x5 x6 y0 y1
          go_region_held3 (fun w9 => (w9.cell? ⟨X, 0, none⟩ = some (.int .u8 kd) ∧ w9.cell? ⟨X, 1, none⟩ = some (.int .u8 x.k) ∧ w9.cell? ⟨X, 2, none⟩ = some (.int .i64 x.a) ∧ w9.cell? ⟨X, 3, none⟩ = some (.int .i64 x.f) ∧ w9.cell? ⟨X, 4, none⟩ = some (.int .u64 (vals L x)) ∧ w9.cell? ⟨X, 5, none⟩ = some (.int .u64 is) ∧ w9.cell? ⟨X, 6, none⟩ = some (.bool true) ∧ w9.cell? ⟨q, 0, none⟩ = some (.pointer (some ⟨p, 0, none⟩)) ∧ w9.cell? ⟨q, 1, none⟩ = some (.pointer (some ⟨b, 0, none⟩))) ∧ Hid (w9.heap[q]? = some (.cells #[.pointer (some ⟨p, 0, none⟩), .pointer (some ⟨b, 0, none⟩)] 27 (0, 0)) ∧ w9.heap[X]? = some (.cells #[.int .u8 kd, .int .u8 x.k, .int .i64 x.a, .int .i64 x.f, .int .u64 (vals L x), .int .u64 is, .bool true] 34 (0, 0)) ∧ Lay w9 ∧ Below W.heap.size W w9))
            (first | exact HSd.out | (refine PlayS.fr (m := m) ?_ hfB HMM.out HWM.out HQ.out HXX.out; assumption) | (refine PlayS.fr (m := m) ?_ hfA HMM.out HWM.out HQ.out HXX.out; assumption))
            (first | (go_at_call 11; with_reducible refine (load_p2 x HPd.out HR.out hs0 HS1.out).mono ?_; rintro e wC ⟨rfl, hpA, hfA⟩) | (go_at_call 12; with_reducible refine (load_r x hpA HL9.out hs0 HS1.out).mono ?_; rintro e wD ⟨rfl, hpB, hfB⟩))
          have HSF := Lib.hid (show PlayS W q X p b kd x (vals L x) is true wD by assumption)
          have HPF := Lib.hid hpB
          clear hpA hfA hpB hfB HPd HSd
          obtain ⟨⟨_, _, _, _, _, _, _, y0, y1⟩, _⟩ := HSF.out
          go_wp2_with fail
          ((with_reducible refine (pair_same HPF.out).mono ?_); rintro e wE ⟨rfl, hbE⟩)
          have HSE := Lib.hid (HSF.out.below hbE)
          have HPE := Lib.hid (HPF.out.below hbE)
          clear hbE y0 y1
          go_wp2_with fail
          go_roundw
          case rel => exact ⟨i + 1, by omega, by go_num, Lib.hid ⟨⟨n, D, s.touch 1 x (vals L x) (vals L x) false, L, HPE.out, HR.out, by omega, by omega, by show 0 ≤ s.st + 1; omega, by show s.st + 1 ≤ _; omega⟩, HSE.out.lay, HSE.out.low, HSE.out.2.out.1⟩⟩
          case measure => simp [intOf]; omega
        · generalize wG.setCell ⟨X, 4, none⟩ (.int .u64 (vals L x)) = wZ at HSC HPB ⊢
          ((with_reducible refine (pair_store2 x is HV.out HPB.out HR.out HSC.out.lay hs0 HS1.out HN9.out HL9.out).mono ?_); rintro e wD ⟨rfl, hp, hf⟩)
          have HSF := Lib.hid (HSC.out.fr hf HMM.out HWM.out HQ.out HXX.out)
          have HPF := Lib.hid hp
          clear hp hf HSC HPB x0 x1 x2 x3 x4 x5 x6 y0 y1
          obtain ⟨⟨_, _, _, _, _, _, _, y0, y1⟩, _⟩ := HSF.out
          go_wp2_with fail
          ((with_reducible refine (pair_same HPF.out).mono ?_); rintro e wE ⟨rfl, hbE⟩)
          have HSE := Lib.hid (HSF.out.below hbE)
          have HPE := Lib.hid (HPF.out.below hbE)
          clear hbE y0 y1
          go_wp2_with fail
          go_roundw
          case rel => exact ⟨i + 1, by omega, by go_num, Lib.hid ⟨⟨n + 1, storeD D x is, s.touch 2 x (vals L x) (vals (storeA L x is) x) false, storeA L x is, HPE.out, HR.out.store x is, Nat.le_trans (storeA_len L x is) (by omega), by omega, by show 0 ≤ s.st + 1; omega, by show s.st + 1 ≤ _; omega⟩, HSE.out.lay, HSE.out.low, HSE.out.2.out.1⟩⟩
          case measure => simp [intOf]; omega
        · generalize wG.setCell ⟨X, 4, none⟩ (.int .u64 (vals L x)) = wZ at HSC HPB ⊢
          have HSd := Lib.hid (HSC.out.below (Below.refl _ _).drew)
          have HPd := Lib.hid (HPB.out.below (Below.refl _ _).drew)
          clear HSC HPB x0 x1 x2 x3 x4 x5 x6 y0 y1
          go_region_held3 (fun w9 => (w9.cell? ⟨X, 0, none⟩ = some (.int .u8 kd) ∧ w9.cell? ⟨X, 1, none⟩ = some (.int .u8 x.k) ∧ w9.cell? ⟨X, 2, none⟩ = some (.int .i64 x.a) ∧ w9.cell? ⟨X, 3, none⟩ = some (.int .i64 x.f) ∧ w9.cell? ⟨X, 4, none⟩ = some (.int .u64 (vals L x)) ∧ w9.cell? ⟨X, 5, none⟩ = some (.int .u64 is) ∧ w9.cell? ⟨X, 6, none⟩ = some (.bool true) ∧ w9.cell? ⟨q, 0, none⟩ = some (.pointer (some ⟨p, 0, none⟩)) ∧ w9.cell? ⟨q, 1, none⟩ = some (.pointer (some ⟨b, 0, none⟩))) ∧ Hid (w9.heap[q]? = some (.cells #[.pointer (some ⟨p, 0, none⟩), .pointer (some ⟨b, 0, none⟩)] 27 (0, 0)) ∧ w9.heap[X]? = some (.cells #[.int .u8 kd, .int .u8 x.k, .int .i64 x.a, .int .i64 x.f, .int .u64 (vals L x), .int .u64 is, .bool true] 34 (0, 0)) ∧ Lay w9 ∧ Below W.heap.size W w9))
            (first | exact HSd.out | (refine PlayS.fr (m := m) ?_ hfB HMM.out HWM.out HQ.out HXX.out; assumption) | (refine PlayS.fr (m := m) ?_ hfA HMM.out HWM.out HQ.out HXX.out; assumption))
            (first | (go_at_call 14; with_reducible refine (cas_p2 x (vals L x) is HV.out HPd.out HR.out HSd.out.lay hs0 HS1.out HN9.out).mono ?_; rintro e wC ⟨rfl, hpA, hfA⟩) | (go_at_call 15; with_reducible refine (cas_r x (vals L x) is hpA HL9.out hs0 HS1.out).mono ?_; rintro e wD ⟨rfl, hpB, hfB⟩))
          have HSF := Lib.hid (show PlayS W q X p b kd x (vals L x) is true wD by assumption)
          have HPF := Lib.hid hpB
          clear hpA hfA hpB hfB HPd HSd
          obtain ⟨⟨_, _, _, _, _, _, _, y0, y1⟩, _⟩ := HSF.out
          go_wp2_with fail
          ((with_reducible refine (pair_same HPF.out).mono ?_); rintro e wE ⟨rfl, hbE⟩)
          have HSE := Lib.hid (HSF.out.below hbE)
          have HPE := Lib.hid (HPF.out.below hbE)
          clear hbE y0 y1
          go_wp2_with fail
          go_roundw
          case rel => exact ⟨i + 1, by omega, by go_num, Lib.hid ⟨⟨n + 1, casD D x (vals L x) is, s.touch 3 x (vals L x) (vals (casL L x (vals L x) is) x) (casA L x (vals L x)), casL L x (vals L x) is, HPE.out, HR.out.cas x (vals L x) is, Nat.le_trans (casL_len L x (vals L x) is) (by omega), by omega, by show 0 ≤ s.st + 1; omega, by show s.st + 1 ≤ _; omega⟩, HSE.out.lay, HSE.out.low, HSE.out.2.out.1⟩⟩
          case measure => simp [intOf]; omega
        · generalize wG.setCell ⟨X, 4, none⟩ (.int .u64 (vals L x)) = wZ at HSC HPB ⊢
          ((with_reducible refine (words_p HPB.out HR.out HL9.out).mono ?_); rintro e wD ⟨va, rfl, ha, hb⟩)
          have HBW := Lib.hid hb
          clear hb x0 x1 x2 x3 x4 x5 x6 y0 y1
          rcases ha with ⟨rfl, h0⟩ | ⟨g2, rfl, hrow, hpos⟩
          · have HSF := Lib.hid (HSC.out.below HBW.out)
            have HPF := Lib.hid (HPB.out.below HBW.out)
            clear h0 HSC HPB HBW
            go_wp2_with fail
            refine wp_loop_rounds 1 ?_
            rw [rounds_succ]
            obtain ⟨⟨_, _, _, _, _, _, _, y0, y1⟩, _⟩ := HSF.out
            go_wp2_with fail
            ((with_reducible refine (pair_same HPF.out).mono ?_); rintro e wE ⟨rfl, hbE⟩)
            have HSE := Lib.hid (HSF.out.below hbE)
            have HPE := Lib.hid (HPF.out.below hbE)
            clear hbE y0 y1
            go_wp2_with fail
            go_roundw
            case rel => exact ⟨i + 1, by omega, by go_num, Lib.hid ⟨⟨n, D, s, L, HPE.out, HR.out, by omega, by omega, hs0, by omega⟩, HSE.out.lay, HSE.out.low, HSE.out.2.out.1⟩⟩
            case measure => simp [intOf]; omega
          · have hsn : (wordsF (L.map toWd)).length ≤ 1000 := by have := wordsF_le (L.map toWd) (L.map toWd).length; have := HL9.out; rw [List.take_length] at *; simp at *; omega
            have HG2 := Lib.hid (base43 hrow)
            generalize wordsF (L.map toWd) = sl at hrow hpos hsn ⊢
            generalize flat sl = xs0 at hrow
            have HRW := Lib.hid hrow
            clear hrow
            go_wp2_with fail
            go_loopw [7] (fun j wr => ∃ (k : Nat) (xs : List Value), k ≤ sl.length ∧ j = .int .i64 (k : Int) ∧ Hid (wr.ownsRow wZ.heap.size 43 4 (.slice (some ⟨g2, 0, none⟩) sl.length sl.length) sl.length xs) ∧ Hid (Below wZ.heap.size wZ wr)) (fun j _ => sl.length - (intOf j).toNat)
            case atStart => exact ⟨0, xs0, Nat.zero_le _, rfl, HRW, HBW⟩
            case round =>
              obtain ⟨k, xs, hk4, rfl, hrow, hbk⟩ := hrel
              have hgk : (0 : Int) ≤ (k : Int) := by omega
              by_cases hkl : k < sl.length
              · have hkl' : (k : Int) < (sl.length : Int) := by omega
                have hx := hrow.out.cellAt (k * 4 + 3) (by omega)
                obtain ⟨u, hu⟩ : ∃ u, xs[k * 4 + 3]? = some u := ⟨_, List.getElem?_eq_getElem (by have := hrow.out.1; omega)⟩
                rw [hu] at hx
                have hz := hrow.out.frozenAt (k * 4 + 3)
                clear hu
                go_wp2_with fail
                go_roundw
                case rel => exact ⟨k + 1, _, by omega, by go_num, Lib.hid (hrow.out.stored (k * 4 + 3) (.int .u64 77)).1, Lib.hid (hbk.out.setCell (p := ⟨g2, k * 4 + 3, none⟩) HG2.out _)⟩
                case measure => simp [intOf]; omega
              · have hge' : (sl.length : Int) ≤ (k : Int) := by omega
                have HSF := Lib.hid (HSC.out.below hbk.out)
                have HPF := Lib.hid (HPB.out.below hbk.out)
                clear HSC HPB HBW hbk hrow HRW hpos
                obtain ⟨⟨_, _, _, _, _, _, _, y0, y1⟩, _⟩ := HSF.out
                go_wp2_with fail
                ((with_reducible refine (pair_same HPF.out).mono ?_); rintro e wE ⟨rfl, hbE⟩)
                have HSE := Lib.hid (HSF.out.below hbE)
                have HPE := Lib.hid (HPF.out.below hbE)
                clear hbE y0 y1
                go_wp2_with fail
                go_roundw
                case rel => exact ⟨i + 1, by omega, by go_num, Lib.hid ⟨⟨n, D, s, L, HPE.out, HR.out, by omega, by omega, hs0, by omega⟩, HSE.out.lay, HSE.out.low, HSE.out.2.out.1⟩⟩
                case measure => simp [intOf]; omega
      | false =>
        obtain ⟨⟨x0, x1, x2, x3, x4, x5, x6, y0, y1⟩, _⟩ := HSC.out
        go_wp2_with fail
        · have HSd := Lib.hid (HSC.out.below (Below.refl _ _).drew)
          have HPd := Lib.hid (HPB.out.below (Below.refl _ _).drew)
          clear HSC HPB x0 x1 x2 x3 x4 x5 x6 y0 y1
          go_region_held3 (fun w9 => (w9.cell? ⟨X, 0, none⟩ = some (.int .u8 kd) ∧ w9.cell? ⟨X, 1, none⟩ = some (.int .u8 x.k) ∧ w9.cell? ⟨X, 2, none⟩ = some (.int .i64 x.a) ∧ w9.cell? ⟨X, 3, none⟩ = some (.int .i64 x.f) ∧ w9.cell? ⟨X, 4, none⟩ = some (.int .u64 was) ∧ w9.cell? ⟨X, 5, none⟩ = some (.int .u64 is) ∧ w9.cell? ⟨X, 6, none⟩ = some (.bool false) ∧ w9.cell? ⟨q, 0, none⟩ = some (.pointer (some ⟨p, 0, none⟩)) ∧ w9.cell? ⟨q, 1, none⟩ = some (.pointer (some ⟨b, 0, none⟩))) ∧ Hid (w9.heap[q]? = some (.cells #[.pointer (some ⟨p, 0, none⟩), .pointer (some ⟨b, 0, none⟩)] 27 (0, 0)) ∧ w9.heap[X]? = some (.cells #[.int .u8 kd, .int .u8 x.k, .int .i64 x.a, .int .i64 x.f, .int .u64 was, .int .u64 is, .bool false] 34 (0, 0)) ∧ Lay w9 ∧ Below W.heap.size W w9))
            (first | exact HSd.out | (refine PlayS.fr (m := m) ?_ hfB HMM.out HWM.out HQ.out HXX.out; assumption) | (refine PlayS.fr (m := m) ?_ hfA HMM.out HWM.out HQ.out HXX.out; assumption))
            (first | (go_at_call 11; with_reducible refine (load_p2 x HPd.out HR.out hs0 HS1.out).mono ?_; rintro e wC ⟨rfl, hpA, hfA⟩) | (go_at_call 12; with_reducible refine (load_r x hpA HL9.out hs0 HS1.out).mono ?_; rintro e wD ⟨rfl, hpB, hfB⟩))
          have HSF := Lib.hid (show PlayS W q X p b kd x was is false wD by assumption)
          have HPF := Lib.hid hpB
          clear hpA hfA hpB hfB HPd HSd
          obtain ⟨⟨_, _, _, _, _, _, _, y0, y1⟩, _⟩ := HSF.out
          go_wp2_with fail
          ((with_reducible refine (pair_same HPF.out).mono ?_); rintro e wE ⟨rfl, hbE⟩)
          have HSE := Lib.hid (HSF.out.below hbE)
          have HPE := Lib.hid (HPF.out.below hbE)
          clear hbE y0 y1
          go_wp2_with fail
          go_roundw
          case rel => exact ⟨i + 1, by omega, by go_num, Lib.hid ⟨⟨n, D, s.touch 1 x (vals L x) (vals L x) false, L, HPE.out, HR.out, by omega, by omega, by show 0 ≤ s.st + 1; omega, by show s.st + 1 ≤ _; omega⟩, HSE.out.lay, HSE.out.low, HSE.out.2.out.1⟩⟩
          case measure => simp [intOf]; omega
        · ((with_reducible refine (pair_store2 x is HV.out HPB.out HR.out HSC.out.lay hs0 HS1.out HN9.out HL9.out).mono ?_); rintro e wD ⟨rfl, hp, hf⟩)
          have HSF := Lib.hid (HSC.out.fr hf HMM.out HWM.out HQ.out HXX.out)
          have HPF := Lib.hid hp
          clear hp hf HSC HPB x0 x1 x2 x3 x4 x5 x6 y0 y1
          obtain ⟨⟨_, _, _, _, _, _, _, y0, y1⟩, _⟩ := HSF.out
          go_wp2_with fail
          ((with_reducible refine (pair_same HPF.out).mono ?_); rintro e wE ⟨rfl, hbE⟩)
          have HSE := Lib.hid (HSF.out.below hbE)
          have HPE := Lib.hid (HPF.out.below hbE)
          clear hbE y0 y1
          go_wp2_with fail
          go_roundw
          case rel => exact ⟨i + 1, by omega, by go_num, Lib.hid ⟨⟨n + 1, storeD D x is, s.touch 2 x (vals L x) (vals (storeA L x is) x) false, storeA L x is, HPE.out, HR.out.store x is, Nat.le_trans (storeA_len L x is) (by omega), by omega, by show 0 ≤ s.st + 1; omega, by show s.st + 1 ≤ _; omega⟩, HSE.out.lay, HSE.out.low, HSE.out.2.out.1⟩⟩
          case measure => simp [intOf]; omega
        · have HSd := Lib.hid (HSC.out.below (Below.refl _ _).drew)
          have HPd := Lib.hid (HPB.out.below (Below.refl _ _).drew)
          clear HSC HPB x0 x1 x2 x3 x4 x5 x6 y0 y1
          go_region_held3 (fun w9 => (w9.cell? ⟨X, 0, none⟩ = some (.int .u8 kd) ∧ w9.cell? ⟨X, 1, none⟩ = some (.int .u8 x.k) ∧ w9.cell? ⟨X, 2, none⟩ = some (.int .i64 x.a) ∧ w9.cell? ⟨X, 3, none⟩ = some (.int .i64 x.f) ∧ w9.cell? ⟨X, 4, none⟩ = some (.int .u64 was) ∧ w9.cell? ⟨X, 5, none⟩ = some (.int .u64 is) ∧ w9.cell? ⟨X, 6, none⟩ = some (.bool false) ∧ w9.cell? ⟨q, 0, none⟩ = some (.pointer (some ⟨p, 0, none⟩)) ∧ w9.cell? ⟨q, 1, none⟩ = some (.pointer (some ⟨b, 0, none⟩))) ∧ Hid (w9.heap[q]? = some (.cells #[.pointer (some ⟨p, 0, none⟩), .pointer (some ⟨b, 0, none⟩)] 27 (0, 0)) ∧ w9.heap[X]? = some (.cells #[.int .u8 kd, .int .u8 x.k, .int .i64 x.a, .int .i64 x.f, .int .u64 was, .int .u64 is, .bool false] 34 (0, 0)) ∧ Lay w9 ∧ Below W.heap.size W w9))
            (first | exact HSd.out | (refine PlayS.fr (m := m) ?_ hfB HMM.out HWM.out HQ.out HXX.out; assumption) | (refine PlayS.fr (m := m) ?_ hfA HMM.out HWM.out HQ.out HXX.out; assumption))
            (first | (go_at_call 14; with_reducible refine (cas_p2 x was is HV.out HPd.out HR.out HSd.out.lay hs0 HS1.out HN9.out).mono ?_; rintro e wC ⟨rfl, hpA, hfA⟩) | (go_at_call 15; with_reducible refine (cas_r x was is hpA HL9.out hs0 HS1.out).mono ?_; rintro e wD ⟨rfl, hpB, hfB⟩))
          have HSF := Lib.hid (show PlayS W q X p b kd x was is false wD by assumption)
          have HPF := Lib.hid hpB
          clear hpA hfA hpB hfB HPd HSd
          obtain ⟨⟨_, _, _, _, _, _, _, y0, y1⟩, _⟩ := HSF.out
          go_wp2_with fail
          ((with_reducible refine (pair_same HPF.out).mono ?_); rintro e wE ⟨rfl, hbE⟩)
          have HSE := Lib.hid (HSF.out.below hbE)
          have HPE := Lib.hid (HPF.out.below hbE)
          clear hbE y0 y1
          go_wp2_with fail
          go_roundw
          case rel => exact ⟨i + 1, by omega, by go_num, Lib.hid ⟨⟨n + 1, casD D x was is, s.touch 3 x (vals L x) (vals (casL L x was is) x) (casA L x was), casL L x was is, HPE.out, HR.out.cas x was is, Nat.le_trans (casL_len L x was is) (by omega), by omega, by show 0 ≤ s.st + 1; omega, by show s.st + 1 ≤ _; omega⟩, HSE.out.lay, HSE.out.low, HSE.out.2.out.1⟩⟩
          case measure => simp [intOf]; omega
        · ((with_reducible refine (words_p HPB.out HR.out HL9.out).mono ?_); rintro e wD ⟨va, rfl, ha, hb⟩)
          have HBW := Lib.hid hb
          clear hb x0 x1 x2 x3 x4 x5 x6 y0 y1
          rcases ha with ⟨rfl, h0⟩ | ⟨g2, rfl, hrow, hpos⟩
          · have HSF := Lib.hid (HSC.out.below HBW.out)
            have HPF := Lib.hid (HPB.out.below HBW.out)
            clear h0 HSC HPB HBW
            go_wp2_with fail
            refine wp_loop_rounds 1 ?_
            rw [rounds_succ]
            obtain ⟨⟨_, _, _, _, _, _, _, y0, y1⟩, _⟩ := HSF.out
            go_wp2_with fail
            ((with_reducible refine (pair_same HPF.out).mono ?_); rintro e wE ⟨rfl, hbE⟩)
            have HSE := Lib.hid (HSF.out.below hbE)
            have HPE := Lib.hid (HPF.out.below hbE)
            clear hbE y0 y1
            go_wp2_with fail
            go_roundw
            case rel => exact ⟨i + 1, by omega, by go_num, Lib.hid ⟨⟨n, D, s, L, HPE.out, HR.out, by omega, by omega, hs0, by omega⟩, HSE.out.lay, HSE.out.low, HSE.out.2.out.1⟩⟩
            case measure => simp [intOf]; omega
          · have hsn : (wordsF (L.map toWd)).length ≤ 1000 := by have := wordsF_le (L.map toWd) (L.map toWd).length; have := HL9.out; rw [List.take_length] at *; simp at *; omega
            have HG2 := Lib.hid (base43 hrow)
            generalize wordsF (L.map toWd) = sl at hrow hpos hsn ⊢
            generalize flat sl = xs0 at hrow
            have HRW := Lib.hid hrow
            clear hrow
            go_wp2_with fail
            go_loopw [7] (fun j wr => ∃ (k : Nat) (xs : List Value), k ≤ sl.length ∧ j = .int .i64 (k : Int) ∧ Hid (wr.ownsRow wB.heap.size 43 4 (.slice (some ⟨g2, 0, none⟩) sl.length sl.length) sl.length xs) ∧ Hid (Below wB.heap.size wB wr)) (fun j _ => sl.length - (intOf j).toNat)
            case atStart => exact ⟨0, xs0, Nat.zero_le _, rfl, HRW, HBW⟩
            case round =>
              obtain ⟨k, xs, hk4, rfl, hrow, hbk⟩ := hrel
              have hgk : (0 : Int) ≤ (k : Int) := by omega
              by_cases hkl : k < sl.length
              · have hkl' : (k : Int) < (sl.length : Int) := by omega
                have hx := hrow.out.cellAt (k * 4 + 3) (by omega)
                obtain ⟨u, hu⟩ : ∃ u, xs[k * 4 + 3]? = some u := ⟨_, List.getElem?_eq_getElem (by have := hrow.out.1; omega)⟩
                rw [hu] at hx
                have hz := hrow.out.frozenAt (k * 4 + 3)
                clear hu
                go_wp2_with fail
                go_roundw
                case rel => exact ⟨k + 1, _, by omega, by go_num, Lib.hid (hrow.out.stored (k * 4 + 3) (.int .u64 77)).1, Lib.hid (hbk.out.setCell (p := ⟨g2, k * 4 + 3, none⟩) HG2.out _)⟩
                case measure => simp [intOf]; omega
              · have hge' : (sl.length : Int) ≤ (k : Int) := by omega
                have HSF := Lib.hid (HSC.out.below hbk.out)
                have HPF := Lib.hid (HPB.out.below hbk.out)
                clear HSC HPB HBW hbk hrow HRW hpos
                obtain ⟨⟨_, _, _, _, _, _, _, y0, y1⟩, _⟩ := HSF.out
                go_wp2_with fail
                ((with_reducible refine (pair_same HPF.out).mono ?_); rintro e wE ⟨rfl, hbE⟩)
                have HSE := Lib.hid (HSF.out.below hbE)
                have HPE := Lib.hid (HPF.out.below hbE)
                clear hbE y0 y1
                go_wp2_with fail
                go_roundw
                case rel => exact ⟨i + 1, by omega, by go_num, Lib.hid ⟨⟨n, D, s, L, HPE.out, HR.out, by omega, by omega, hs0, by omega⟩, HSE.out.lay, HSE.out.low, HSE.out.2.out.1⟩⟩
                case measure => simp [intOf]; omega
    · have hge : (nn : Int) ≤ (i : Int) := by omega
      have c0 := Joins.cell_of_block hst.out.box 0
      have c1 := Joins.cell_of_block hst.out.box 1
      simp only [List.getElem?_toArray, List.getElem?_cons_zero, List.getElem?_cons_succ] at c0 c1
      obtain ⟨n, D, s, L, hp, hr, hL, hn3, hs0, hs1⟩ := hst.out.mem
      have HP := Lib.hid hp
      have HR := Lib.hid hr
      have hL' : L.length ≤ 999 := by omega
      clear hp hr
      go_wp2_with fail
      ((with_reducible refine (pair_words HP.out HR.out hL').mono ?_); rintro e w3 ⟨rfl, hb⟩)
      have HL3 := Lib.hid (hst.out.lay.below hb)
      have HB3 := Lib.hid (hst.out.low.trans (hb.mono hst.out.low.size))
      clear hb
      go_wp2_with fail
      ((with_reducible refine (lives_any w3 HL3.out).mono ?_); rintro e w4 ⟨rfl, hb⟩)
      go_wp2_with fail
      go_ret
      exact ⟨rfl, HB3.out.trans (hb.mono HB3.out.size)⟩
end Go.Proofs.YtfnlkapiflkceaaDoor
