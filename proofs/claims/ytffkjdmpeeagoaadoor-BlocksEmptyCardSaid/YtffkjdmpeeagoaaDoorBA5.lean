/-
  The table with its actors and its keeper, wherever they lie: each act of the law's keeps it; condition: all lies as it says.
-/
import Derived.Test.YtffkjdmpeeagoaaDoorBA4
namespace Go.Proofs.YtffkjdmpeeagoaaDoor
open Go.RowKit Go.Maps

def TSn (B p b G K : Nat) (n ever st : Int) (k : BO) (w0 w : World) : Prop := ∃ lq A kq M, VX p b M w ∧ M.s.st ≤ st ∧ InvB n ever M.V A k ∧ BNum k ∧ AW B G lq A w ∧ KW B K kq k w ∧ Below B w0 w
section
variable {B p b G K : Nat} {n ever st i : Int} {k : BO} {w0 w w' : World} {T : List TypeId}
theorem AW.below {lq : Nat → Nat} {A : Nat → AS} (W : AW B G lq A w) (h : Below w.heap.size w w') : AW B G lq A w' := by
  obtain ⟨cur, g1, g2⟩ := W.blk
  have hG : G < w.heap.size := (Array.getElem?_eq_some_iff.1 g1).1
  exact ⟨W.GB, ⟨cur, (h.block G hG).trans g1, g2⟩, fun j hj hl => ⟨(W.op j hj hl).1, (W.op j hj hl).2.same (h.block _ (W.op j hj hl).2.lt)⟩, W.sep⟩
theorem KW.below {kq : Nat} (W : KW B K kq k w) (h : Below w.heap.size w w') : KW B K kq k w' :=
  ⟨W.KB, W.blk.below h, fun hl => ⟨(W.op hl).1, (W.op hl).2.same (h.block _ (W.op hl).2.lt)⟩⟩
theorem TSn.size (h : TSn B p b G K n ever st k w0 w) : w0.heap.size ≤ w.heap.size := by obtain ⟨lq, A, kq, M, _, _, _, _, _, _, hb⟩ := h; exact hb.size
theorem TSn.low (h : TSn B p b G K n ever st k w0 w) : Below B w0 w := by obtain ⟨lq, A, kq, M, _, _, _, _, _, _, hb⟩ := h; exact hb
theorem TSn.n14 (h : TSn B p b G K n ever st k w0 w) : 1 ≤ n ∧ n ≤ ever ∧ ever ≤ 4 := by obtain ⟨lq, A, kq, M, _, _, I, _⟩ := h; exact I.n14
theorem TSn.lay (h : TSn B p b G K n ever st k w0 w) : Lay w ∧ LayM w := by obtain ⟨lq, A, kq, M, F, _⟩ := h; exact ⟨F.lay, F.laym⟩
theorem TSn.mono (h : TSn B p b G K n ever st k w0 w) {s : Int} (hs : st ≤ s) : TSn B p b G K n ever s k w0 w := by obtain ⟨lq, A, kq, M, F, h1, h2⟩ := h; exact ⟨lq, A, kq, M, F, by omega, h2⟩
theorem TSn.below (h : TSn B p b G K n ever st k w0 w) (hBw : B ≤ w0.heap.size) (g : Below w.heap.size w w') : TSn B p b G K n ever st k w0 w' := by
  have hs := h.size
  obtain ⟨lq, A, kq, M, F, h1, I, ok, W, KK, hb⟩ := h
  exact ⟨lq, A, kq, M, F.below g, h1, I, ok, W.below g, KK.below g, hb.trans (g.mono (by omega))⟩
theorem TSn.only (h : TSn B p b G K n ever st k w0 w) (hBw : B ≤ w0.heap.size) (hp : B ≤ p) (hb : B ≤ b) {M2 : MV} {M : MV} {lq : Nat → Nat} {A : Nat → AS} {kq : Nat} (F : VX p b M w) (I : InvB n ever M.V A k) (ok : BNum k) (W : AW B G lq A w) (KK : KW B K kq k w) (F2 : VX p b M2 w') (hV : M2.V = M.V) {s : Int} (hs : M2.s.st ≤ s) (O : Onl p b [] w w') : TSn B p b G K n ever s k w0 w' := by
  have hsz := h.size
  have ty : Ty B p b [] w w' := Ty.fresh (by omega) hp hb O
  exact ⟨lq, A, kq, M2, F2, hs, by rw [hV]; exact I, ok, W.ty F ty (by simp) (by simp) (by simp), KK.ty F ty (by simp) (by simp) (by simp), h.low.trans ty.low⟩
theorem tsn_act {j : Nat} (hB : 1 < B) (hBw : B ≤ w0.heap.size) (hp : B ≤ p) (hb : B ≤ b) (hj : j < 8) (off : Nat) (hoff : off = 3 * j) (h : TSn B p b G K n ever st k w0 w) (hs : st < 900000) :
    Calls Tryd.prog 26 #[.pointer (some ⟨G, off, none⟩), .pointer (some ⟨p, 0, none⟩), .int .i64 (j : Int)] w fun e w' => e = .returned (.bool true) ∧ TSn B p b G K n ever (st + 2) k w0 w' := by
  have hsz := h.size
  have hlow := h.low
  obtain ⟨lq, A, kq, M, F, h1, I, ok, W, KK, _⟩ := h
  have hI := (I.acted hj F.u64).1
  refine (act_any hB (by omega) hp hb hj off hoff F W I (by omega) (o2 := (tX ((A j).begin j) M).1) (M2 := (tX ((A j).begin j) M).2) rfl).mono ?_
  rintro e w' ⟨rfl, lq', M', F', W', hV, hst, ty⟩
  refine ⟨rfl, lq', _, kq, M', F', by omega, by rw [hV]; exact hI, ok, W', KK.ty F ty (by decide) (by decide) (by decide), hlow.trans ty.low⟩
theorem InvB.begK {V : Ad → Int} {A : Nat → AS} (I : InvB n ever V A k) (grow : Bool) : InvB n ever V A (begK k grow) ∧ (begK k grow).ln ≠ 0 := by
  unfold Go.Proofs.YtffkjdmpeeagoaaDoor.begK
  by_cases h : k.ln = 0
  · rw [if_pos h]
    exact ⟨I.beginK h _, by simp [newB]⟩
  · rw [if_neg h]
    exact ⟨I, h⟩
theorem tsn_keep (grow : Bool) (hB : 1 < B) (hBw : B ≤ w0.heap.size) (hp : B ≤ p) (hb : B ≤ b) (h : TSn B p b G K n ever st k w0 w) (hs : st < 900000) :
    Calls Tryd.prog 25 #[.pointer (some ⟨K, 0, none⟩), .pointer (some ⟨p, 0, none⟩), .bool grow] w fun e w' => e = .returned (.tuple #[]) ∧ ∃ n' k', TSn B p b G K n' (mx ever n') (st + 1) k' w0 w' ∧ (k'.ln = 0 ∨ k'.ln = (begK k grow).ln + 1) := by
  have hsz := h.size
  have hlow := h.low
  obtain ⟨lq, A, kq, M, F, h1, I, ok, W, KK, _⟩ := h
  obtain ⟨I2, hl⟩ := I.begK grow
  obtain ⟨I3, hr⟩ := I2.kept hl
  have hn : BNum (begK k grow) := by unfold begK; split; exact .new _; exact ok
  refine (keep_any grow hB (by omega) hp hb F KK ok (by omega) (o2 := (kX (begK k grow) M).1) (M2 := (kX (begK k grow) M).2) rfl).mono ?_
  rintro e w' ⟨rfl, kq', M', F', W', hV, hst, ty⟩
  exact ⟨rfl, _, _, ⟨lq, A, kq', M', F', by omega, by rw [hV]; exact I3, hn.step F.u64, W.ty F ty (by decide) (by decide) (by decide), W', hlow.trans ty.low⟩, hr⟩
theorem tsn_many (hBw : B ≤ w0.heap.size) (hp : B ≤ p) (hb : B ≤ b) (h : TSn B p b G K n ever st k w0 w) (hs : st < 900000) :
    Calls Tryd.prog 27 #[.pointer (some ⟨p, 0, none⟩)] w fun e w' => e = .returned (.int .i64 n) ∧ TSn B p b G K n ever (st + 1) k w0 w' := by
  have h' := h
  obtain ⟨lq, A, kq, M, F, h1, I, ok, W, KK, _⟩ := h
  have hn := I.n14
  refine (many_any F (by omega) I.N (by omega)).mono ?_
  rintro e w' ⟨rfl, F2, O⟩
  exact ⟨rfl, h'.only hBw hp hb F I ok W KK F2 rfl (by show M.s.st + 1 ≤ _; omega) (.of_only O)⟩
theorem tsn_sound (hBw : B ≤ w0.heap.size) (hp : B ≤ p) (hb : B ≤ b) (h : TSn B p b G K n ever st k w0 w) (hs : st < 800000) :
    Calls Tryd.prog 28 #[.pointer (some ⟨p, 0, none⟩)] w fun e w' => e = .returned (.bool true) ∧ TSn B p b G K n ever (st + 20) k w0 w' := by
  have h' := h
  obtain ⟨lq, A, kq, M, F, h1, I, ok, W, KK, _⟩ := h
  have hn := I.n14
  refine (sound_any F (by omega) I.N (by omega) (fun t g0 g1 => I.sound g0 g1)).mono ?_
  rintro e w' ⟨rfl, M2, F2, hV, hst, O⟩
  exact ⟨rfl, h'.only hBw hp hb F I ok W KK F2 hV (by omega) O⟩
theorem tsn_block (hBw : B ≤ w0.heap.size) (hp : B ≤ p) (hb : B ≤ b) (h : TSn B p b G K n ever st k w0 w) (hs : st < 900000) (hk : k.ln = 0) (hi : 0 ≤ i ∧ i < ever) :
    Calls Tryd.prog 30 #[.pointer (some ⟨p, 0, none⟩), .agg #[.int .u8 7, .int .i64 i, .int .i64 0]] w fun e w' => ∃ v, e = .returned (.int .u64 v) ∧ U64 v ∧ blkC v = decide (n ≤ i) ∧ TSn B p b G K n ever (st + 1) k w0 w' := by
  have h' := h
  obtain ⟨lq, A, kq, M, F, h1, I, ok, W, KK, _⟩ := h
  have hn := I.n14
  refine (F.ldA (by omega) (adK_at ⟨hi.1, by omega⟩) rfl).mono ?_
  rintro e w' ⟨rfl, F2, O⟩
  exact ⟨_, rfl, F.u64 _, I.settled hk hi.1 hi.2, h'.only hBw hp hb F I ok W KK F2 rfl (by show M.s.st + 1 ≤ _; omega) (.of_only O)⟩
/-- What an actor's cells, the keeper's say. -/
theorem TSn.acell {j : Nat} (h : TSn B p b G K n ever st k w0 w) (hj : j < 8) : (∃ x, w.cell? ⟨G, 3 * j, none⟩ = some (.int .i64 x)) ∧ ((w.cell? ⟨G, 3 * j + 1, none⟩ = some (.pointer none) ∧ w.cell? ⟨G, 3 * j + 2, none⟩ = some (.pointer none)) ∨ (∃ q, w.cell? ⟨G, 3 * j + 1, none⟩ = some (.pointer (some ⟨q, 0, none⟩)) ∧ w.cell? ⟨G, 3 * j + 2, none⟩ = some (.pointer none)) ∨ (∃ q, w.cell? ⟨G, 3 * j + 1, none⟩ = some (.pointer none) ∧ w.cell? ⟨G, 3 * j + 2, none⟩ = some (.pointer (some ⟨q, 0, none⟩)))) := by
  obtain ⟨lq, A, kq, M, F, h1, I, ok, W, KK, _⟩ := h
  obtain ⟨c0, c1, c2, _⟩ := (W.al hj).cells
  refine ⟨⟨_, c0⟩, ?_⟩
  by_cases h0 : (A j).o.ln = 0
  · rw [pJ_no h0] at c1
    rw [pL_no h0] at c2
    exact .inl ⟨c1, c2⟩
  · cases hl : (A j).o.lv with
    | false =>
      rw [pJ_yes h0 hl] at c1
      rw [pL_not hl] at c2
      exact .inr (.inl ⟨_, c1, c2⟩)
    | true =>
      rw [pJ_not hl] at c1
      rw [pL_yes h0 hl] at c2
      exact .inr (.inr ⟨_, c1, c2⟩)
theorem TSn.kcell (h : TSn B p b G K n ever st k w0 w) : (k.ln = 0 ∧ w.cell? ⟨K, 0, none⟩ = some (.pointer none) ∧ w.cell? ⟨K, 1, none⟩ = some (.pointer none)) ∨ (k.ln ≠ 0 ∧ ∃ q, w.cell? ⟨K, 0, none⟩ = some (.pointer (some ⟨q, 0, none⟩)) ∧ w.cell? ⟨K, 1, none⟩ = some (.pointer none)) ∨ (k.ln ≠ 0 ∧ ∃ q, w.cell? ⟨K, 0, none⟩ = some (.pointer none) ∧ w.cell? ⟨K, 1, none⟩ = some (.pointer (some ⟨q, 0, none⟩))) := by
  obtain ⟨lq, A, kq, M, F, h1, I, ok, W, KK, _⟩ := h
  obtain ⟨c0, c1, _⟩ := KK.cells
  by_cases h0 : k.ln = 0
  · rw [pM_no h0] at c0
    rw [pS_no h0] at c1
    exact .inl ⟨h0, c0, c1⟩
  · cases hl : k.lv with
    | false =>
      rw [pM_yes h0 hl] at c0
      rw [pS_not hl] at c1
      exact .inr (.inl ⟨h0, _, c0, c1⟩)
    | true =>
      rw [pM_not hl] at c0
      rw [pS_yes h0 hl] at c1
      exact .inr (.inr ⟨h0, _, c0, c1⟩)
theorem TSn.kfree (h : TSn B p b G K n ever st k w0 w) : w.frozen? ⟨K, 0, none⟩ = false ∧ w.frozen? ⟨K, 1, none⟩ = false := by
  obtain ⟨lq, A, kq, M, F, h1, I, ok, W, KK, _⟩ := h
  exact ⟨KK.blk.free 0, KK.blk.free 1⟩
/-- At most so many steps of the keeper's are left. -/
def rkK (k : BO) : Int := if k.ln = 0 then 0 else 4 - k.ln
theorem TSn.rk (h : TSn B p b G K n ever st k w0 w) : rkK k ≤ 3 := by
  obtain ⟨lq, A, kq, M, F, h1, I, ok, _⟩ := h
  have := ok.ln
  unfold rkK
  split <;> omega
theorem TSn.rk3 (h : TSn B p b G K n ever st k w0 w) : k.ln ≤ 3 ∧ 0 ≤ k.ln := by
  obtain ⟨lq, A, kq, M, F, h1, I, ok, _⟩ := h
  have := I.k
  unfold KOk at this
  omega
end
end Go.Proofs.YtffkjdmpeeagoaaDoor
