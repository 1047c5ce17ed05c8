/-
  The law MemsOne: walked whole: it returns true and only makes memory of its own; condition: the table of rooms reads as the program lays it, numbers of their kinds.
-/
import Derived.Test.YtfnlkapiflkceaaDoorO1
import Derived.Deep.RegionHeld3
namespace Go.Proofs.YtfnlkapiflkceaaDoor
open Go.RowKit Go.Maps

/-- The memory, whatever its last access was. -/
def PMx (p m n : Nat) (D : DataW Unit) (st : Int) (w : World) : Prop := ∃ ak k i f was is done, PM p m n D st ak k i f was is done w
theorem PMx.below {p m n : Nat} {D : DataW Unit} {st : Int} {w w' : World} (h : PMx p m n D st w) (hb : Below w.heap.size w w') : PMx p m n D st w' := by
  obtain ⟨ak, k, i, f, was, is, done, h⟩ := h
  exact ⟨ak, k, i, f, was, is, done, h.below hb⟩
theorem storeX (p m n : Nat) (D : DataW Unit) (st st' : Int) (x : Ad) (v : Int) (hm : mayB x.k x.a x.f = true) (hv : (Lit.int .u64 v).wf = true) (hs0 : 0 ≤ st) (hs1 : st < 4611686018427387904) (hn : n < 4611686018427387904) (he : st + 1 = st') (w : World) (hl : Lay w) (h : PMx p m n D st w) :
    Calls Tryd.prog 19 #[.pointer (some ⟨p, 0, none⟩), .agg #[.int .u8 x.k, .int .i64 x.a, .int .i64 x.f], .int .u64 v] w fun e w' => e = .returned (.tuple #[]) ∧ PMx p m (n + 1) (putD D x v) st' w' ∧ Only p m w w' := by
  obtain ⟨ak, k, i, f, was, is, done, h⟩ := h
  have h1 := store_prog p m n D st ak k i f was is done x v hv hs0 hs1 hn w hl h
  rw [show storeD D x v = putD D x v from if_pos hm, he] at h1
  exact h1.mono fun e w' hh => ⟨hh.1, ⟨_, _, _, _, _, _, _, hh.2.1⟩, hh.2.2⟩
theorem casX (p m n : Nat) (D : DataW Unit) (st st' : Int) (x : Ad) (u v : Int) (hm : mayB x.k x.a x.f = true) (hu : valD D x = u) (hv : (Lit.int .u64 v).wf = true) (hs0 : 0 ≤ st) (hs1 : st < 4611686018427387904) (hn : n < 4611686018427387904) (he : st + 1 = st') (w : World) (hl : Lay w) (h : PMx p m n D st w) :
    Calls Tryd.prog 14 #[.pointer (some ⟨p, 0, none⟩), .agg #[.int .u8 x.k, .int .i64 x.a, .int .i64 x.f], .int .u64 u, .int .u64 v] w fun e w' => e = .returned (.bool true) ∧ PMx p m (n + 1) (putD D x v) st' w' ∧ Only p m w w' := by
  obtain ⟨ak, k, i, f, was, is, done, h⟩ := h
  have h1 := cas_prog p m n D st ak k i f was is done x u v hv hs0 hs1 hn w hl h
  have hc : casB D x u = true := by unfold casB; rw [hm, hu]; simp
  rw [show casD D x u v = putD D x v from if_pos hc, he, hc] at h1
  exact h1.mono fun e w' hh => ⟨hh.1, ⟨_, _, _, _, _, _, _, hh.2.1⟩, hh.2.2⟩
theorem casXnot (p m n : Nat) (D : DataW Unit) (st st' : Int) (x : Ad) (u v : Int) (hu : valD D x ≠ u) (hv : (Lit.int .u64 v).wf = true) (hs0 : 0 ≤ st) (hs1 : st < 4611686018427387904) (hn : n < 4611686018427387904) (he : st + 1 = st') (w : World) (hl : Lay w) (h : PMx p m n D st w) :
    Calls Tryd.prog 14 #[.pointer (some ⟨p, 0, none⟩), .agg #[.int .u8 x.k, .int .i64 x.a, .int .i64 x.f], .int .u64 u, .int .u64 v] w fun e w' => e = .returned (.bool false) ∧ PMx p m (n + 1) D st' w' ∧ Only p m w w' := by
  obtain ⟨ak, k, i, f, was, is, done, h⟩ := h
  have h1 := cas_prog p m n D st ak k i f was is done x u v hv hs0 hs1 hn w hl h
  have hc : casB D x u = false := by unfold casB; simp [hu]
  rw [show casD D x u v = D from if_neg (by rw [hc]; simp), he, hc] at h1
  exact h1.mono fun e w' hh => ⟨hh.1, ⟨_, _, _, _, _, _, _, hh.2.1⟩, hh.2.2⟩
theorem loadX (p m n : Nat) (D : DataW Unit) (st st' : Int) (x : Ad) (v : Int) (hv : valD D x = v) (hs0 : 0 ≤ st) (hs1 : st < 4611686018427387904) (he : st + 1 = st') (w : World) (h : PMx p m n D st w) :
    Calls Tryd.prog 11 #[.pointer (some ⟨p, 0, none⟩), .agg #[.int .u8 x.k, .int .i64 x.a, .int .i64 x.f]] w fun e w' => e = .returned (.int .u64 v) ∧ PMx p m n D st' w' ∧ Only p m w w' := by
  obtain ⟨ak, k, i, f, was, is, done, h⟩ := h
  have h1 := load_prog p m n D st ak k i f was is done x hs0 hs1 w h
  rw [hv, he] at h1
  exact h1.mono fun e w' hh => ⟨hh.1, ⟨_, _, _, _, _, _, _, hh.2.1⟩, hh.2.2⟩
theorem stepsX (p m n : Nat) (D : DataW Unit) (st : Int) (w : World) (h : PMx p m n D st w) : Calls Tryd.prog 20 #[.pointer (some ⟨p, 0, none⟩)] w fun e w' => e = .returned (.int .i64 st) ∧ w = w' := by
  obtain ⟨ak, k, i, f, was, is, done, h⟩ := h
  exact steps_prog p m n D st ak k i f was is done w h
theorem newX (w : World) : Calls Tryd.prog 23 #[] w fun e w' => ∃ p m, e = .returned (.pointer (some ⟨p, 0, none⟩)) ∧ PMx p m 0 (.map []) 0 w' ∧ Below w.heap.size w w' ∧ w.heap.size ≤ m ∧ m < p :=
  (new_some w).mono fun _ _ ⟨p, m, he, hp, hr⟩ => ⟨p, m, he, ⟨_, _, _, _, _, _, _, hp⟩, hr⟩
theorem addr_ad (k a f : Int) (hk : 0 ≤ k ∧ k ≤ 255) (ha : 0 ≤ a ∧ a ≤ 255) (hf : 0 ≤ f ∧ f ≤ 255) (w : World) :
    Calls Tryd.prog 22 #[.int .u8 k, .int .u8 a, .int .u8 f] w fun e w' => ∃ x : Ad, mayB x.k x.a x.f = true ∧ e = .returned (.agg #[.int .u8 x.k, .int .i64 x.a, .int .i64 x.f]) ∧ Below w.heap.size w w' := by
  refine (addr_made k a f hk ha hf w).mono ?_
  rintro e w' ⟨rfl, hb⟩
  obtain ⟨l1, l2, l3, l4⟩ := rooms_low (k % 12)
  have ha0 := Int.emod_nonneg a (show atRoom (k % 12) ≠ 0 by omega)
  have ha1 := Int.emod_lt_of_pos a (show 0 < atRoom (k % 12) by omega)
  have hf0 := Int.emod_nonneg f (show fieldRoom (k % 12) ≠ 0 by omega)
  have hf1 := Int.emod_lt_of_pos f (show 0 < fieldRoom (k % 12) by omega)
  have hk1 : k % 12 ≤ 11 := by omega
  refine ⟨⟨k % 12, a % atRoom (k % 12), f % fieldRoom (k % 12), ?_, ?_, ?_⟩, ?_, rfl, hb⟩
  · simp [Lit.wf, IntKind.min, IntKind.max, IntKind.signed, IntKind.bits]; omega
  · simp [Lit.wf, IntKind.min, IntKind.max, IntKind.signed, IntKind.bits]; omega
  · simp [Lit.wf, IntKind.min, IntKind.max, IntKind.signed, IntKind.bits]; omega
  · unfold mayB
    simp [ha0, ha1, hf0, hf1, hk1]

/-- What the law lays: both addresses in X and Y, the numbers in V. -/
structure OneAt (X Y V : Nat) (x y : Ad) (a b c : Int) (w : World) : Prop where
  lay : Lay w
  x0 : w.cell? ⟨X, 0, none⟩ = some (.int .u8 x.k)
  x1 : w.cell? ⟨X, 1, none⟩ = some (.int .i64 x.a)
  x2 : w.cell? ⟨X, 2, none⟩ = some (.int .i64 x.f)
  y0 : w.cell? ⟨Y, 0, none⟩ = some (.int .u8 y.k)
  y1 : w.cell? ⟨Y, 1, none⟩ = some (.int .i64 y.a)
  y2 : w.cell? ⟨Y, 2, none⟩ = some (.int .i64 y.f)
  v0 : w.cell? ⟨V, 0, none⟩ = some (.int .u64 a)
  v1 : w.cell? ⟨V, 1, none⟩ = some (.int .u64 b)
  v2 : w.cell? ⟨V, 2, none⟩ = some (.int .u64 c)
theorem OneAt.below {X Y V : Nat} {x y : Ad} {a b c : Int} {w w' : World} (h : OneAt X Y V x y a b c w) (hb : Below w.heap.size w w') : OneAt X Y V x y a b c w' := by
  have k : ∀ {q i : Nat} {v : Value}, w.cell? ⟨q, i, none⟩ = some v → w'.cell? ⟨q, i, none⟩ = some v := fun {q i v} hc => (hb.cell (p := ⟨q, i, none⟩) (World.block_lt_of_cell? w _ hc)).trans hc
  exact ⟨h.lay.below hb, k h.x0, k h.x1, k h.x2, k h.y0, k h.y1, k h.y2, k h.v0, k h.v1, k h.v2⟩
theorem OneAt.only {p m X Y V : Nat} {x y : Ad} {a b c : Int} {w w' : World} (h : OneAt X Y V x y a b c w) (ho : Only p m w w') (hp0 : p ≠ 0) (hm0 : m ≠ 0) (hX : X ≠ p ∧ X ≠ m) (hY : Y ≠ p ∧ Y ≠ m) (hV : V ≠ p ∧ V ≠ m) : OneAt X Y V x y a b c w' :=
  ⟨h.lay.only ho hp0 hm0, cell_only ho h.x0 hX.1 hX.2, cell_only ho h.x1 hX.1 hX.2, cell_only ho h.x2 hX.1 hX.2, cell_only ho h.y0 hY.1 hY.2, cell_only ho h.y1 hY.1 hY.2, cell_only ho h.y2 hY.1 hY.2, cell_only ho h.v0 hV.1 hV.2, cell_only ho h.v1 hV.1 hV.2, cell_only ho h.v2 hV.1 hV.2⟩

theorem wordsX0 (p m n : Nat) (x y : Ad) (b c : Int) (hne : x ≠ y) (st : Int) (w : World) (h : PMx p m n (o5 x y 0 b c) st w) : Calls Tryd.prog 16 #[.pointer (some ⟨p, 0, none⟩)] w fun e w' => e = .returned (.slice none 0 0) ∧ w = w' := by
  obtain ⟨ak, k, i, f, was, is, done, h⟩ := h
  exact words_none p m n (o5 x y 0 b c) (o5_zero x y 0 b c hne rfl h.own) w (h.cell 0) h.own
theorem wordsX1 (p m n : Nat) (x y : Ad) (a b c : Int) (hne : x ≠ y) (ha : a ≠ 0) (st : Int) (w : World) (h : PMx p m n (o5 x y a b c) st w) : Calls Tryd.prog 16 #[.pointer (some ⟨p, 0, none⟩)] w (OnePost x a w) := by
  obtain ⟨ak, k, i, f, was, is, done, h⟩ := h
  exact words_one x y a b c hne ha p m n st ak k i f was is done w h
/-- The cells that the law reads, while the world goes on. -/
def OneBox (B X Y V : Nat) (x y : Ad) (a b c : Int) (w0 w : World) : Prop :=
  (w.cell? ⟨X, 0, none⟩ = some (.int .u8 x.k) ∧ w.cell? ⟨X, 1, none⟩ = some (.int .i64 x.a) ∧ w.cell? ⟨X, 2, none⟩ = some (.int .i64 x.f) ∧ w.cell? ⟨Y, 0, none⟩ = some (.int .u8 y.k) ∧ w.cell? ⟨Y, 1, none⟩ = some (.int .i64 y.a) ∧ w.cell? ⟨Y, 2, none⟩ = some (.int .i64 y.f) ∧
    w.cell? ⟨V, 0, none⟩ = some (.int .u64 a) ∧ w.cell? ⟨V, 2, none⟩ = some (.int .u64 c)) ∧ Hid (OneAt X Y V x y a b c w ∧ Below B w0 w)
theorem OneBox.mk {B X Y V : Nat} {x y : Ad} {a b c : Int} {w0 w : World} (h : OneAt X Y V x y a b c w) (hb : Below B w0 w) : OneBox B X Y V x y a b c w0 w :=
  ⟨⟨h.x0, h.x1, h.x2, h.y0, h.y1, h.y2, h.v0, h.v2⟩, Lib.hid ⟨h, hb⟩⟩
theorem OneBox.step {B p m X Y V : Nat} {x y : Ad} {a b c : Int} {w0 w w' : World} (h : OneBox B X Y V x y a b c w0 w) (hp0 : p ≠ 0) (hm0 : m ≠ 0) (hX : X ≠ p ∧ X ≠ m) (hY : Y ≠ p ∧ Y ≠ m) (hV : V ≠ p ∧ V ≠ m) (h1 : B ≤ p) (h2 : B ≤ m) (h3 : B ≤ w0.heap.size) (ho : Only p m w w') : OneBox B X Y V x y a b c w0 w' :=
  .mk (h.2.out.1.only ho hp0 hm0 hX hY hV) (h.2.out.2.trans (ho.below h1 h2 (Nat.le_trans h3 h.2.out.2.size)))

set_option maxRecDepth 100000 in
set_option maxHeartbeats 16000000 in
theorem lawOne (k0 k1 k2 l0 l1 l2 a b c : Int) (hk0 : 0 ≤ k0 ∧ k0 ≤ 255) (hk1 : 0 ≤ k1 ∧ k1 ≤ 255) (hk2 : 0 ≤ k2 ∧ k2 ≤ 255) (hl0 : 0 ≤ l0 ∧ l0 ≤ 255) (hl1 : 0 ≤ l1 ∧ l1 ≤ 255) (hl2 : 0 ≤ l2 ∧ l2 ≤ 255)
    (ha : (Lit.int .u64 a).wf = true) (hb : (Lit.int .u64 b).wf = true) (hc : (Lit.int .u64 c).wf = true) (w : World) (hl : Lay w) :
    Calls Tryd.prog 5 #[.agg #[.int .u8 k0, .int .u8 k1, .int .u8 k2], .agg #[.int .u8 l0, .int .u8 l1, .int .u8 l2], .agg #[.int .u64 a, .int .u64 b, .int .u64 c]] w fun e w' => e = .returned (.bool true) ∧ Below w.heap.size w w' := by
  have HL := Lib.hid hl
  have HA := Lib.hid ha
  have HBB := Lib.hid hb
  have HC := Lib.hid hc
  have HN := Lib.hid (show valD (.map []) default = valD (.map []) default ∧ IntKind.u64.wrap (a + 1) ≠ a by refine ⟨rfl, ?_⟩; rw [IntKind.wrap_u64]; omega)
  clear hl ha hb hc
  have c1 := fun W => addr_ad k0 k1 k2 hk0 hk1 hk2 W
  have c2 := fun W => addr_ad l0 l1 l2 hl0 hl1 hl2 W
  clear hk0 hk1 hk2 hl0 hl1 hl2
  have hB0 : Below w.heap.size w (((w.alloc (.cells #[.int .u8 k0, .int .u8 k1, .int .u8 k2] 55)).alloc (.cells #[.int .u8 l0, .int .u8 l1, .int .u8 l2] 55)).alloc (.cells #[.int .u64 a, .int .u64 b, .int .u64 c] 56)) := (((Below.refl _ _).alloc (Nat.le_refl _) _).alloc (by simp) _).alloc (by simp; omega) _
  have q0 : (((w.alloc (.cells #[.int .u8 k0, .int .u8 k1, .int .u8 k2] 55)).alloc (.cells #[.int .u8 l0, .int .u8 l1, .int .u8 l2] 55)).alloc (.cells #[.int .u64 a, .int .u64 b, .int .u64 c] 56)).cell? ⟨w.heap.size + 1, 0, none⟩ = some (.int .u8 l0) := by simp [go_sem]
  have q1 : (((w.alloc (.cells #[.int .u8 k0, .int .u8 k1, .int .u8 k2] 55)).alloc (.cells #[.int .u8 l0, .int .u8 l1, .int .u8 l2] 55)).alloc (.cells #[.int .u64 a, .int .u64 b, .int .u64 c] 56)).cell? ⟨w.heap.size + 1, 1, none⟩ = some (.int .u8 l1) := by simp [go_sem]
  have q2 : (((w.alloc (.cells #[.int .u8 k0, .int .u8 k1, .int .u8 k2] 55)).alloc (.cells #[.int .u8 l0, .int .u8 l1, .int .u8 l2] 55)).alloc (.cells #[.int .u64 a, .int .u64 b, .int .u64 c] 56)).cell? ⟨w.heap.size + 1, 2, none⟩ = some (.int .u8 l2) := by simp [go_sem]
  have v0 : (((w.alloc (.cells #[.int .u8 k0, .int .u8 k1, .int .u8 k2] 55)).alloc (.cells #[.int .u8 l0, .int .u8 l1, .int .u8 l2] 55)).alloc (.cells #[.int .u64 a, .int .u64 b, .int .u64 c] 56)).cell? ⟨w.heap.size + 1 + 1, 0, none⟩ = some (.int .u64 a) := by simp [go_sem]
  have v1 : (((w.alloc (.cells #[.int .u8 k0, .int .u8 k1, .int .u8 k2] 55)).alloc (.cells #[.int .u8 l0, .int .u8 l1, .int .u8 l2] 55)).alloc (.cells #[.int .u64 a, .int .u64 b, .int .u64 c] 56)).cell? ⟨w.heap.size + 1 + 1, 1, none⟩ = some (.int .u64 b) := by simp [go_sem]
  have v2 : (((w.alloc (.cells #[.int .u8 k0, .int .u8 k1, .int .u8 k2] 55)).alloc (.cells #[.int .u8 l0, .int .u8 l1, .int .u8 l2] 55)).alloc (.cells #[.int .u64 a, .int .u64 b, .int .u64 c] 56)).cell? ⟨w.heap.size + 1 + 1, 2, none⟩ = some (.int .u64 c) := by simp [go_sem]
  have hs0 : w.heap.size + 1 + 1 < (((w.alloc (.cells #[.int .u8 k0, .int .u8 k1, .int .u8 k2] 55)).alloc (.cells #[.int .u8 l0, .int .u8 l1, .int .u8 l2] 55)).alloc (.cells #[.int .u64 a, .int .u64 b, .int .u64 c] 56)).heap.size := by simp
  have HB0 := Lib.hid hB0
  have HL0 := Lib.hid (HL.out.below hB0)
  clear hB0 HL
  go_enter Tryd.func5, Tryd.ntmps5
  go_wp2_with fail
  revert HB0 HL0 q0 q1 q2 v0 v1 v2 hs0
  generalize (((w.alloc (.cells #[.int .u8 k0, .int .u8 k1, .int .u8 k2] 55)).alloc (.cells #[.int .u8 l0, .int .u8 l1, .int .u8 l2] 55)).alloc (.cells #[.int .u64 a, .int .u64 b, .int .u64 c] 56)) = W0
  intro q0 q1 q2 v0 v1 v2 hs0 HB0 HL0
  refine (c1 _).mono ?_
  rintro e w1 ⟨x, hmx, rfl, hb1⟩
  clear c1
  have HMX := Lib.hid hmx
  have hb2 : Below W0.heap.size W0 (w1.alloc (.cells #[.int .u8 x.k, .int .i64 x.a, .int .i64 x.f] 31)) := hb1.trans (((Below.refl _ w1).alloc (Nat.le_refl _) _).mono hb1.size)
  have hX : w.heap.size + 1 + 1 < w1.heap.size := Nat.lt_of_lt_of_le hs0 hb1.size
  have HB2 := Lib.hid (HB0.out.trans (hb2.mono HB0.out.size))
  have HL2 := Lib.hid (HL0.out.below hb2)
  have q0' := (hb2.cell (p := ⟨w.heap.size + 1, 0, none⟩) (by show w.heap.size + 1 < _; omega)).trans q0
  have q1' := (hb2.cell (p := ⟨w.heap.size + 1, 1, none⟩) (by show w.heap.size + 1 < _; omega)).trans q1
  have q2' := (hb2.cell (p := ⟨w.heap.size + 1, 2, none⟩) (by show w.heap.size + 1 < _; omega)).trans q2
  have v0' := (hb2.cell (p := ⟨w.heap.size + 1 + 1, 0, none⟩) hs0).trans v0
  have v1' := (hb2.cell (p := ⟨w.heap.size + 1 + 1, 1, none⟩) hs0).trans v1
  have v2' := (hb2.cell (p := ⟨w.heap.size + 1 + 1, 2, none⟩) hs0).trans v2
  have x0 : (w1.alloc (.cells #[.int .u8 x.k, .int .i64 x.a, .int .i64 x.f] 31)).cell? ⟨w1.heap.size, 0, none⟩ = some (.int .u8 x.k) := by simp [go_sem]
  have x1 : (w1.alloc (.cells #[.int .u8 x.k, .int .i64 x.a, .int .i64 x.f] 31)).cell? ⟨w1.heap.size, 1, none⟩ = some (.int .i64 x.a) := by simp [go_sem]
  have x2 : (w1.alloc (.cells #[.int .u8 x.k, .int .i64 x.a, .int .i64 x.f] 31)).cell? ⟨w1.heap.size, 2, none⟩ = some (.int .i64 x.f) := by simp [go_sem]
  have hs2 : w1.heap.size < (w1.alloc (.cells #[.int .u8 x.k, .int .i64 x.a, .int .i64 x.f] 31)).heap.size := by simp
  clear q0 q1 q2 v0 v1 v2 hs0 hb1 hb2 hmx HB0 HL0
  go_wp2_with fail
  revert HB2 HL2 q0' q1' q2' v0' v1' v2' x0 x1 x2 hs2
  generalize w1.alloc (.cells #[.int .u8 x.k, .int .i64 x.a, .int .i64 x.f] 31) = w2
  intro HB2 HL2 q0 q1 q2 v0 v1 v2 x0 x1 x2 hs2
  generalize w1.heap.size = X at *
  refine (c2 _).mono ?_
  rintro e w3 ⟨y, hmy, rfl, hb3⟩
  clear c2
  have HMY := Lib.hid hmy
  have hb4 : Below w2.heap.size w2 (w3.alloc (.cells #[.int .u8 y.k, .int .i64 y.a, .int .i64 y.f] 31)) := hb3.trans (((Below.refl _ w3).alloc (Nat.le_refl _) _).mono hb3.size)
  have hY : X < w3.heap.size := Nat.lt_of_lt_of_le hs2 hb3.size
  have HB4 := Lib.hid (HB2.out.trans (hb4.mono HB2.out.size))
  have HO := Lib.hid (show OneAt X w3.heap.size (w.heap.size + 1 + 1) x y a b c (w3.alloc (.cells #[.int .u8 y.k, .int .i64 y.a, .int .i64 y.f] 31)) from
    ⟨HL2.out.below hb4, (hb4.cell (p := ⟨X, 0, none⟩) hs2).trans x0, (hb4.cell (p := ⟨X, 1, none⟩) hs2).trans x1, (hb4.cell (p := ⟨X, 2, none⟩) hs2).trans x2, by simp [go_sem], by simp [go_sem], by simp [go_sem],
      (hb4.cell (p := ⟨w.heap.size + 1 + 1, 0, none⟩) (by show w.heap.size + 1 + 1 < _; omega)).trans v0, (hb4.cell (p := ⟨w.heap.size + 1 + 1, 1, none⟩) (by show w.heap.size + 1 + 1 < _; omega)).trans v1, (hb4.cell (p := ⟨w.heap.size + 1 + 1, 2, none⟩) (by show w.heap.size + 1 + 1 < _; omega)).trans v2⟩)
  have hs4 : w3.heap.size < (w3.alloc (.cells #[.int .u8 y.k, .int .i64 y.a, .int .i64 y.f] 31)).heap.size := by simp
  clear q0 q1 q2 v0 v1 v2 x0 x1 x2 hs2 hb3 hb4 hmy HB2 HL2
  have g0 := HO.out.x0
  have g1 := HO.out.x1
  have g2 := HO.out.x2
  have g3 := HO.out.y0
  have g4 := HO.out.y1
  have g5 := HO.out.y2
  by_cases hxy : x.same y = true
  · have he : ∀ w, (binOp .eql 31 (.agg #[.int .u8 x.k, .int .i64 x.a, .int .i64 x.f]) (.agg #[.int .u8 y.k, .int .i64 y.a, .int .i64 y.f])).run Tryd.prog w = .ok (.bool true) w := fun w => by
      rw [eq_addr]
      unfold Ad.same at hxy
      rw [hxy]
    clear hxy
    go_wp2_with fail
    ((with_reducible refine (lives_any _ HO.out.lay).mono ?_); rintro e w5 ⟨rfl, hb5⟩)
    go_wp2_with fail
    go_ret
    exact ⟨rfl, HB4.out.trans (hb5.mono HB4.out.size)⟩
  · have hne : x ≠ y := fun e => hxy ((Ad.same_iff x y).2 e)
    have he : ∀ w, (binOp .eql 31 (.agg #[.int .u8 x.k, .int .i64 x.a, .int .i64 x.f]) (.agg #[.int .u8 y.k, .int .i64 y.a, .int .i64 y.f])).run Tryd.prog w = .ok (.bool false) w := fun w => by
      rw [eq_addr]
      have hf : x.same y = false := by simpa using hxy
      unfold Ad.same at hf
      rw [hf]
    have HNE := Lib.hid hne
    clear hxy hne
    go_wp2_with fail
    revert HB4 HO hs4
    clear g0 g1 g2 g3 g4 g5 he
    generalize w3.alloc (.cells #[.int .u8 y.k, .int .i64 y.a, .int .i64 y.f] 31) = w4
    intro HB4 HO hs4
    generalize w3.heap.size = Y at *
    ((with_reducible refine (newX w4).mono ?_); rintro e w5 ⟨p, m, rfl, hp5, hb5, hm5, hmp5⟩)
    have HP5 := Lib.hid hp5
    have HO5 := Lib.hid (HO.out.below hb5)
    have HB5 := Lib.hid (HB4.out.trans (hb5.mono HB4.out.size))
    have hX' : X ≠ p ∧ X ≠ m := by omega
    have hY' : Y ≠ p ∧ Y ≠ m := by omega
    have hV' : w.heap.size + 1 + 1 ≠ p ∧ w.heap.size + 1 + 1 ≠ m := by omega
    have hp0 : p ≠ 0 := by omega
    have hm0 : m ≠ 0 := by omega
    have hwp : w.heap.size ≤ p := by omega
    have hwm : w.heap.size ≤ m := by omega
    have hw5 : w.heap.size ≤ w5.heap.size := HB5.out.size
    clear hp5 hb5 HO HB4 hm5 hmp5 hs4 hX hY
    generalize w.heap.size + 1 + 1 = V at *
    have g0 := HO5.out.x0
    have g1 := HO5.out.x1
    have g2 := HO5.out.x2
    have g3 := HO5.out.y0
    have g4 := HO5.out.y1
    have g5 := HO5.out.y2
    have g6 := HO5.out.v0
    have g7 := HO5.out.v1
    have g8 := HO5.out.v2
    go_wp2_with fail
    ((with_reducible refine (storeX p m 0 (.map []) 0 1 x a HMX.out HA.out (by omega) (by omega) (by omega) rfl w5 HO5.out.lay HP5.out).mono ?_); rintro e w6 ⟨rfl, hp, ho⟩)
    have HP6 := Lib.hid (show PMx p m 1 (o1 x a) 1 w6 from hp)
    have HO6 := Lib.hid (HO5.out.only ho hp0 hm0 hX' hY' hV')
    have HB6 := Lib.hid (HB5.out.trans (ho.below hwp hwm hw5))
    have hw6 : w.heap.size ≤ w6.heap.size := HB6.out.size
    clear hp ho HP5 HO5 HB5 hw5 g0 g1 g2 g3 g4 g5 g6 g7 g8
    have g0 := HO6.out.x0
    have g1 := HO6.out.x1
    have g2 := HO6.out.x2
    have g3 := HO6.out.y0
    have g4 := HO6.out.y1
    have g5 := HO6.out.y2
    have g6 := HO6.out.v0
    have g7 := HO6.out.v1
    have g8 := HO6.out.v2
    go_wp2_with fail
    ((with_reducible refine (storeX p m 1 (o1 x a) 1 2 y b HMY.out HBB.out (by omega) (by omega) (by omega) rfl w6 HO6.out.lay HP6.out).mono ?_); rintro e w7 ⟨rfl, hp, ho⟩)
    have HP7 := Lib.hid (show PMx p m 2 (o2 x y a b) 2 w7 from hp)
    have HO7 := Lib.hid (HO6.out.only ho hp0 hm0 hX' hY' hV')
    have HB7 := Lib.hid (HB6.out.trans (ho.below hwp hwm hw6))
    have hw7 : w.heap.size ≤ w7.heap.size := HB7.out.size
    clear hp ho HP6 HO6 HB6 hw6 g0 g1 g2 g3 g4 g5 g6 g7 g8
    have g0 := HO7.out.x0
    have g1 := HO7.out.x1
    have g2 := HO7.out.x2
    have g3 := HO7.out.y0
    have g4 := HO7.out.y1
    have g5 := HO7.out.y2
    have g6 := HO7.out.v0
    have g7 := HO7.out.v1
    have g8 := HO7.out.v2
    go_wp2_with fail
    ((with_reducible refine (casX p m 2 (o2 x y a b) 2 3 y b c HMY.out (o2_y x y a b) HC.out (by omega) (by omega) (by omega) rfl w7 HO7.out.lay HP7.out).mono ?_); rintro e w8 ⟨rfl, hp, ho⟩)
    have HP8 := Lib.hid (show PMx p m 3 (o3 x y a b c) 3 w8 from hp)
    have HO8 := Lib.hid (HO7.out.only ho hp0 hm0 hX' hY' hV')
    have HB8 := Lib.hid (HB7.out.trans (ho.below hwp hwm hw7))
    have hw8 : w.heap.size ≤ w8.heap.size := HB8.out.size
    clear hp ho HP7 HO7 HB7 hw7 g0 g1 g2 g3 g4 g5 g6 g7 g8
    have g0 := HO8.out.x0
    have g1 := HO8.out.x1
    have g2 := HO8.out.x2
    have g3 := HO8.out.y0
    have g4 := HO8.out.y1
    have g5 := HO8.out.y2
    have g6 := HO8.out.v0
    have g7 := HO8.out.v1
    have g8 := HO8.out.v2
    go_wp2_with fail
    ((with_reducible refine (casXnot p m 3 (o3 x y a b c) 3 4 x (IntKind.u64.wrap (a + 1)) c (by rw [o3_x x y a b c HNE.out]; exact Ne.symm HN.out.2) HC.out (by omega) (by omega) (by omega) rfl w8 HO8.out.lay HP8.out).mono ?_); rintro e w9 ⟨rfl, hp, ho⟩)
    have HP9 := Lib.hid (show PMx p m 4 (o3 x y a b c) 4 w9 from hp)
    have HO9 := Lib.hid (HO8.out.only ho hp0 hm0 hX' hY' hV')
    have HB9 := Lib.hid (HB8.out.trans (ho.below hwp hwm hw8))
    have hw9 : w.heap.size ≤ w9.heap.size := HB9.out.size
    clear hp ho HP8 HO8 HB8 hw8 g0 g1 g2 g3 g4 g5 g6 g7 g8
    have HPd := Lib.hid (show PMx p m 4 (o3 x y a b c) 4 w9.drew from HP9.out.below (Below.refl _ _).drew)
    have HOd := HO9.out.below (Below.refl _ _).drew
    have HBd := HB9.out.drew
    have HSd := Lib.hid (show OneBox w.heap.size X Y V x y a b c w w9.drew from .mk HOd HBd)
    clear HOd HBd HP9 HO9 HB9
    go_wp2_with fail
    go_region_held3 (fun w1 => (w1.cell? ⟨X, 0, none⟩ = some (.int .u8 x.k) ∧ w1.cell? ⟨X, 1, none⟩ = some (.int .i64 x.a) ∧ w1.cell? ⟨X, 2, none⟩ = some (.int .i64 x.f) ∧ w1.cell? ⟨Y, 0, none⟩ = some (.int .u8 y.k) ∧ w1.cell? ⟨Y, 1, none⟩ = some (.int .i64 y.a) ∧ w1.cell? ⟨Y, 2, none⟩ = some (.int .i64 y.f) ∧
      w1.cell? ⟨V, 0, none⟩ = some (.int .u64 a) ∧ w1.cell? ⟨V, 2, none⟩ = some (.int .u64 c)) ∧ Hid (OneAt X Y V x y a b c w1 ∧ Below w.heap.size w w1))
      (first | exact HSd.out | (refine OneBox.step (p := p) (m := m) ?_ hp0 hm0 hX' hY' hV' hwp hwm (Nat.le_refl _) hoB; assumption) | (refine OneBox.step (p := p) (m := m) ?_ hp0 hm0 hX' hY' hV' hwp hwm (Nat.le_refl _) hoA; assumption) | assumption)
      (first
        | (go_at_call_of 11 (Value.int IntKind.u8 x.k); with_reducible refine (loadX p m 4 (o3 x y a b c) 4 5 x a (o3_x x y a b c HNE.out) (by omega) (by omega) rfl _ HPd.out).mono ?_; rintro e wA ⟨rfl, hpA, hoA⟩)
        | (go_at_call_of 11 (Value.int IntKind.u8 y.k); with_reducible refine (loadX p m 4 (o3 x y a b c) 5 6 y c (o3_y x y a b c) (by omega) (by omega) rfl _ hpA).mono ?_; rintro e wB ⟨rfl, hpB, hoB⟩)
        | (go_at_call 20; with_reducible refine (stepsX p m 4 (o3 x y a b c) 6 _ hpB).mono ?_; rintro e wC ⟨rfl, rfl⟩))
    have HSB : OneBox w.heap.size X Y V x y a b c w wB := by assumption
    have HP10 := Lib.hid (show PMx p m 4 (o3 x y a b c) 6 wB from hpB)
    have HO10 := Lib.hid HSB.2.out.1
    have HB10 := Lib.hid HSB.2.out.2
    clear hoA hoB hpA hpB HPd HSd
    clear HSB
    have hw10 : w.heap.size ≤ wB.heap.size := HB10.out.size
    have g0 := HO10.out.x0
    have g1 := HO10.out.x1
    have g2 := HO10.out.x2
    have g3 := HO10.out.y0
    have g4 := HO10.out.y1
    have g5 := HO10.out.y2
    have g6 := HO10.out.v0
    have g7 := HO10.out.v1
    have g8 := HO10.out.v2
    go_wp2_with fail
    ((with_reducible refine (storeX p m 4 (o3 x y a b c) 6 7 y 0 HMY.out (by decide) (by omega) (by omega) (by omega) rfl wB HO10.out.lay HP10.out).mono ?_); rintro e w11 ⟨rfl, hp, ho⟩)
    have HP11 := Lib.hid (show PMx p m 5 (o5 x y a b c) 7 w11 from hp)
    have HO11 := Lib.hid (HO10.out.only ho hp0 hm0 hX' hY' hV')
    have HB11 := Lib.hid (HB10.out.trans (ho.below hwp hwm hw10))
    have hw11 : w.heap.size ≤ w11.heap.size := HB11.out.size
    clear hp ho HP10 HO10 HB10 hw10 g0 g1 g2 g3 g4 g5 g6 g7 g8
    by_cases hz : a = 0
    · subst hz
      have g6 := HO11.out.v0
      go_wp2_with fail
      ((with_reducible refine (wordsX0 p m 5 x y b c HNE.out 7 w11 HP11.out).mono ?_); rintro e w' ⟨rfl, rfl⟩)
      go_wp2_with fail
      ((with_reducible refine (lives_any w11 HO11.out.lay).mono ?_); rintro e w' ⟨rfl, hb⟩)
      go_wp2_with fail
      go_ret
      exact ⟨rfl, HB11.out.trans (hb.mono hw11)⟩
    · have hz' : (a == 0) = false := by simp [hz]
      have HZ := Lib.hid hz
      clear hz
      have g6 := HO11.out.v0
      go_wp2_with fail
      ((with_reducible refine (wordsX1 p m 5 x y a b c HNE.out HZ.out 7 w11 HP11.out).mono ?_); rintro e w12 ⟨g, rfl, r0, r1, r2, r3, hb12⟩)
      have HP12 := Lib.hid (show PMx p m 5 (o5 x y a b c) 7 w12.drew from HP11.out.below hb12.drew)
      have HO12 := Lib.hid (HO11.out.below hb12.drew)
      have HB12 := Lib.hid (HB11.out.trans (hb12.drew.mono hw11))
      have g6 := (HO11.out.below hb12).v0
      clear hb12 HP11 HO11 HB11
      go_wp2_with fail
      refine wp_region_still_tail 19 (by kernel_rfl) (by kernel_rfl) ?_
      change wpStill _ _ w12.drew (fun a' => wpList _ _ _ _ a' w12.drew) _ _
      have hq := eq_word x.k x.a x.f a
      have g0 := HO12.out.x0
      have g1 := HO12.out.x1
      have g2 := HO12.out.x2
      change w12.drew.cell? _ = _ at r0 r1 r2 r3 g6
      generalize w12.drew = wd at HP12 HO12 HB12 g0 g1 g2 g6 r0 r1 r2 r3 ⊢
      simp only [List.take_succ_cons, List.take_zero, List.drop_succ_cons, List.drop_zero]
      iterate 15 still_step
      still_call ((stepsX p m 5 (o5 x y a b c) 7 wd HP12.out).mono fun _ _ h => ⟨h.1, h.2.symm⟩)
      iterate 3 still_step
      refine wpStill_nil ?_
      go_wp2_with fail
      ((with_reducible refine (lives_any wd HO12.out.lay).mono ?_); rintro e w' ⟨rfl, hb⟩)
      go_wp2_with fail
      go_ret
      exact ⟨rfl, HB12.out.trans (hb.mono HB12.out.size)⟩
end Go.Proofs.YtfnlkapiflkceaaDoor
