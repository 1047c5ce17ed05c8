/-
  The law's acts as an argument; no condition.
  The law FreesPlay, walked: it returns true and only makes memory of its own; condition: the tables as laid, the acts and the first words lie as they say.
-/
import Derived.Test.YtipgidkpjilhoaaDoorFSto
import Derived.Test.YtipgidkpjilhoaaDoorY3
namespace Go.Proofs.YtipgidkpjilhoaaDoor
open Go.ChangeShapes Go.WideShapes Go.ChangeAt Go.WideMaps Go.WideElems Go.RowKit Go.Joins

/-- An act. -/
structure AcP where
  kd : Int
  wh : Int
  s : Sto
  hk : 0 ≤ kd ∧ kd ≤ 255
  hw : (Lit.int .i64 wh).wf = true
instance : Inhabited AcP := ⟨⟨0, 0, default, by decide, by decide⟩⟩
def ActCells (W : World) (g off : Nat) (c : Nat → AcP) (n : Nat) : Prop := ∀ i, i < n →
  W.cell? ⟨g, off + i * 6, none⟩ = some (.int .u8 (c i).kd) ∧ W.cell? ⟨g, off + i * 6 + 1, none⟩ = some (.int .i64 (c i).wh) ∧ W.cell? ⟨g, off + i * 6 + 2, none⟩ = some (.int .u8 (c i).s.x.k) ∧ W.cell? ⟨g, off + i * 6 + 3, none⟩ = some (.int .i64 (c i).s.x.a) ∧ W.cell? ⟨g, off + i * 6 + 4, none⟩ = some (.int .i64 (c i).s.x.f) ∧ W.cell? ⟨g, off + i * 6 + 5, none⟩ = some (.int .u64 (c i).s.v)
theorem ActCells.below {W W' : World} {g off : Nat} {c : Nat → AcP} {n : Nat} (h : ActCells W g off c n) (hb : Below W.heap.size W W') : ActCells W' g off c n := fun i hi => by
  have k : ∀ {q j : Nat} {v : Value}, W.cell? ⟨q, j, none⟩ = some v → W'.cell? ⟨q, j, none⟩ = some v := fun {q j v} hc => (hb.cell (p := ⟨q, j, none⟩) (World.block_lt_of_cell? W _ hc)).trans hc
  obtain ⟨h0, h1, h2, h3, h4, h5⟩ := h i hi
  exact ⟨k h0, k h1, k h2, k h3, k h4, k h5⟩
theorem cellsAC : Tryd.prog.cellsOf 38 = 6 := by kernel_rfl
theorem byte_of {a : Int} (h : (Lit.int .u8 a).wf = true) : 0 ≤ a ∧ a ≤ 255 := by
  simp [Lit.wf, IntKind.min, IntKind.max, IntKind.signed, IntKind.bits] at h
  omega
section
variable {H : Type} {enc : TypeId × Value → H} {W : World} {r : Reach} {b0 base : Nat} {sp : Nat → Bool} {v : Value} {d : DataW H} {p : List MemPlace}
set_option maxRecDepth 100000 in
/-- One act, out of its six cells. -/
theorem open_act {fuel : Nat} {cs : List Value} {y : DataW H × List MemPlace} (h : DataW.trod enc Tryd.prog W base sp true fuel 38 cs = some y) :
    ∃ c : AcP, cs = [.int .u8 c.kd, .int .i64 c.wh, .int .u8 c.s.x.k, .int .i64 c.s.x.a, .int .i64 c.s.x.f, .int .u64 c.s.v] := by
  obtain ⟨xs, n, rfl, _, hl, hxl, hf⟩ := DataW.trod_struct Tryd.underlying38 h
  rw [cellsAC] at hl
  match xs, hxl, cs, hl with
  | [y0, y1, y2], _, [v0, v1, v2, v3, v4, v5], _ =>
    have g0 : DataW.trod enc Tryd.prog W base sp true n 5 (([v0, v1, v2, v3, v4, v5].drop 0).take (Tryd.prog.cellsOf 5)) = [y0, y1, y2][0]? := hf 0 _ rfl
    have g1 : DataW.trod enc Tryd.prog W base sp true n 3 (([v0, v1, v2, v3, v4, v5].drop 1).take (Tryd.prog.cellsOf 3)) = [y0, y1, y2][1]? := hf 1 _ rfl
    have g2 : DataW.trod enc Tryd.prog W base sp true n 36 (([v0, v1, v2, v3, v4, v5].drop 2).take (Tryd.prog.cellsOf 36)) = [y0, y1, y2][2]? := hf 2 _ rfl
    simp only [cellsU8, cellsI, cellsST, List.drop_zero, List.drop_succ_cons, List.take_succ_cons, List.take_zero, List.getElem?_cons_zero, List.getElem?_cons_succ] at g0 g1 g2
    obtain ⟨kd, e0, _, wk⟩ := DataW.trod_int Tryd.underlying5 g0
    obtain ⟨wh, e1, _, ww⟩ := DataW.trod_int Tryd.underlying3 g1
    obtain ⟨s, e2⟩ := open_sto g2
    simp only [List.cons.injEq, and_true] at e0 e1 e2
    obtain ⟨a2, a3, a4, a5⟩ := e2
    subst e0 e1 a2 a3 a4 a5
    exact ⟨⟨kd, wh, s, byte_of wk, ww⟩, rfl⟩
set_option maxRecDepth 100000 in
/-- A list of the law's acts as an argument. -/
theorem open_acts (hv : Value.okWide Tryd.prog W r b0 22 v) (h : DataW.Trod enc Tryd.prog W base sp true 22 v d p) :
    v = .slice Option.none 0 0 ∨ ∃ g off len cap c, v = .slice (some ⟨g, off, Option.none⟩) len cap ∧ ActCells W g off c len := by
  obtain ⟨a0, len, cap, rfl⟩ := okWide_slice Tryd.underlying22 hv
  obtain ⟨fuel, hf⟩ := h
  rcases Go.Deep.open_slice Tryd.underlying22 hf with ⟨hcs, _⟩ | ⟨a, len', cap', m, n, D, Pl, hcs, _, hl, _, hm, _, hall⟩
  · simp [Value.cells] at hcs
    obtain ⟨rfl, rfl, rfl⟩ := hcs
    exact .inl rfl
  · simp [Value.cells] at hcs
    obtain ⟨rfl, rfl, rfl⟩ := hcs
    right
    have hs : a.spot = Option.none := by
      simp only [Value.okWide, Tryd.underlying22, Cell.okWide, Cell.ok] at hv
      exact hv.2.2.2.1
    obtain ⟨g, off, spot⟩ := a
    obtain rfl : spot = Option.none := hs
    have hlm : len ≤ m := by rw [hm]; split <;> omega
    obtain ⟨c, hc⟩ := Go.Deep.choose_lt (α := AcP) (p := fun i c => ∀ j u, [.int .u8 c.kd, .int .i64 c.wh, .int .u8 c.s.x.k, .int .i64 c.s.x.a, .int .i64 c.s.x.f, .int .u64 c.s.v][j]? = some u → W.cell? ⟨g, off + i * 6 + j, Option.none⟩ = some u) (n := len) (fun i hi => by
      obtain ⟨cs', h1, h2⟩ := hall i (by omega)
      rw [cellsAC] at h1
      obtain ⟨_, hlen, hcell⟩ := World.cells?_some h1
      obtain ⟨c, rfl⟩ := open_act h2
      refine ⟨c, fun j u hu => ?_⟩
      have hj : j < 6 := by have := (List.getElem?_eq_some_iff.1 hu).1; simpa using this
      have := hcell j hj
      rw [core_plus, core_plus] at this
      rw [this, hu])
    exact ⟨g, off, len, cap, c, rfl, fun i hi => ⟨by simpa using hc i hi 0 _ rfl, hc i hi 1 _ rfl, hc i hi 2 _ rfl, hc i hi 3 _ rfl, hc i hi 4 _ rfl, hc i hi 5 _ rfl⟩⟩
end
end Go.Proofs.YtipgidkpjilhoaaDoor
namespace Go.Proofs.YtipgidkpjilhoaaDoor
open Go.RowKit Go.Maps

theorem u8_wrapP {k : Nat} (h : k < 256) : IntKind.u8.wrap (k : Int) = (k : Int) := by simp [IntKind.wrap, IntKind.bits, IntKind.signed]; omega
theorem own_sliceP {w : World} {base : Nat} {e : TypeId} {size : Nat} {v : Value} {n : Nat} {xs : List Value} (h : w.ownsRow base e size v n xs) : ∃ A c, v = .slice A n c ∧ n ≤ c ∧ c ≤ 9223372036854775807 ∧ (0 < n → ∃ g, A = some ⟨g, 0, none⟩) := by
  rcases h.2 with ⟨rfl, rfl⟩ | ⟨g, cap, cur, rfl, _, _, hc, hm, _⟩
  · exact ⟨none, 0, rfl, Nat.le_refl _, by omega, fun h => by omega⟩
  · exact ⟨_, cap, rfl, hc, by unfold maxLen at hm; exact hm, fun _ => ⟨g, rfl⟩⟩
theorem JAt.new_push {wh : Int} {q e : Nat} {w : World} (R : RefAt e true (pto wh) (pnx wh) false 0 0 w) (O : OpAt 63 q (pnx wh) 0 (pto wh) w) : JAt ⟨true, q, e⟩ w := ⟨pnx wh, 0, pto wh, pto wh, false, 0, R, O, pushOk_new wh⟩
theorem blk_below {X : Nat} {o : Obj} {w w' : World} (h : w.heap[X]? = some o) (hb : Below w.heap.size w w') : w'.heap[X]? = some o := (hb.block X (Array.getElem?_eq_some_iff.1 h).1).trans h
theorem PS.grown_blk {W : World} {p m b T0 c : Nat} {rows : List JP} {v : Value} {w w' : World} (P : PS W p m b T0 c rows v w) (hg : w.grownBy w' v.ownBlock) {X : Nat} {cs : Array Value} {t : TypeId} (h : w.heap[X]? = some (Obj.cells cs t (0, 0))) (ht : t ≠ 45) : w'.heap[X]? = some (Obj.cells cs t (0, 0)) := by
  refine (hg.block X (Array.getElem?_eq_some_iff.1 h).1 fun e => ?_).trans h
  rcases P.row.2 with ⟨hv, _⟩ | ⟨g, cap, cur, hv, _, hh, _⟩
  · rw [hv] at e; cases e
  · rw [hv] at e
    simp only [Value.ownBlock, Option.some.injEq] at e
    rw [e] at h
    exact ht (by have := h.symm.trans hh; simp only [Option.some.injEq, Obj.cells.injEq] at this; exact this.2.1)
theorem act_cell {X : Nat} {kd wh k a f v : Int} {w : World} (h : w.heap[X]? = some (Obj.cells #[.int .u8 kd, .int .i64 wh, .int .u8 k, .int .i64 a, .int .i64 f, .int .u64 v] 38 (0, 0))) : w.cell? ⟨X, 1, none⟩ = some (.int .i64 wh) := by
  have := Joins.cell_of_block h 1
  simpa using this
theorem PS.pick {W : World} {p m b T0 c : Nat} {rows : List JP} {w : World} {g' M c' k : Nat} (P : PS W p m b T0 c rows (.slice (some ⟨g', 0, none⟩) M c') w) (hM : rows.length = M) (hk : k < M) :
    ∃ x, x ∈ rows ∧ w.cell? ⟨g', k * 3, none⟩ = some (popV x.psh x.q) ∧ w.cell? ⟨g', k * 3 + 1, none⟩ = some (pushV x.psh x.q) ∧ w.cell? ⟨g', k * 3 + 2, none⟩ = some (.pointer (some ⟨x.e, 0, none⟩)) ∧ JAt x w ∧ W.heap.size ≤ x.q ∧ W.heap.size ≤ x.e := by
  have hrow := P.row
  rw [hM] at hrow
  have hkl : k < rows.length := by omega
  have hm : rows.getD k ⟨false, 0, 0⟩ ∈ rows := by
    rw [List.getD_eq_getElem?_getD, List.getElem?_eq_getElem hkl]
    exact List.getElem_mem hkl
  obtain ⟨J, h1, h2⟩ := P.ops _ hm
  exact ⟨_, hm, (hrow.cellAt (k * 3) (by omega)).trans (flatJ_at ⟨false, 0, 0⟩ rows k 0 hkl (by decide)), (hrow.cellAt (k * 3 + 1) (by omega)).trans (flatJ_at ⟨false, 0, 0⟩ rows k 1 hkl (by decide)), (hrow.cellAt (k * 3 + 2) (by omega)).trans (flatJ_at ⟨false, 0, 0⟩ rows k 2 hkl (by decide)), J, h1, h2⟩
theorem PS.fx_keep {W : World} {p m b T0 c : Nat} {rows : List JP} {v : Value} {w w' : World} {x : JP} (P : PS W p m b T0 c rows v w) (hx : x ∈ rows) (f : Fx W.heap.size p b x.q x.e w w') {z : Nat} {cs : Array Value} {t : TypeId} (hz : w.heap[z]? = some (Obj.cells cs t (0, 0))) (ht : t = 45 ∨ t = 28) : w'.heap[z]? = some (Obj.cells cs t (0, 0)) := by
  obtain ⟨⟨cq, tq, htq, hq⟩, ce, he⟩ := (P.ops x hx).1.objs
  obtain ⟨⟨cp, hp⟩, ⟨cb, hbb⟩, _⟩ := P.both.parts
  refine f.far z cs t _ hz ?_ (blk_ne hz hp ?_) (blk_ne hz hbb ?_) (blk_ne hz hq ?_) (blk_ne hz he ?_)
  · rcases ht with rfl | rfl <;> decide
  · rcases ht with rfl | rfl <;> decide
  · rcases ht with rfl | rfl <;> decide
  · rcases ht with rfl | rfl <;> rcases htq with rfl | rfl <;> decide
  · rcases ht with rfl | rfl <;> decide
theorem box2_cells {w : World} {T0 : Nat} {u v : Value} (h : w.heap[T0]? = some (Obj.cells #[u, v] 28 (0, 0))) : w.cell? ⟨T0, 0, none⟩ = some u ∧ w.cell? ⟨T0, 1, none⟩ = some v := by
  have b0 := Joins.cell_of_block h 0
  have b1 := Joins.cell_of_block h 1
  simp only [List.getElem?_toArray, List.getElem?_cons_zero, List.getElem?_cons_succ] at b0 b1
  exact ⟨b0, b1⟩
theorem op3_cells {w : World} {O : Nat} {u v z : Value} (h : w.heap[O]? = some (Obj.cells #[u, v, z] 45 (0, 0))) : w.cell? ⟨O, 0, none⟩ = some u ∧ w.cell? ⟨O, 1, none⟩ = some v ∧ w.cell? ⟨O, 2, none⟩ = some z := by
  have b0 := Joins.cell_of_block h 0
  have b1 := Joins.cell_of_block h 1
  have b2 := Joins.cell_of_block h 2
  simp only [List.getElem?_toArray, List.getElem?_cons_zero, List.getElem?_cons_succ] at b0 b1 b2
  exact ⟨b0, b1, b2⟩
theorem PS.boxes {W : World} {p m b T0 c : Nat} {rows : List JP} {v : Value} {w : World} (P : PS W p m b T0 c rows v w) : w.cell? ⟨T0, 0, none⟩ = some (.pointer (some ⟨p, 0, none⟩)) ∧ w.cell? ⟨T0, 1, none⟩ = some (.pointer (some ⟨b, 0, none⟩)) := by
  have b0 := Joins.cell_of_block P.box 0
  have b1 := Joins.cell_of_block P.box 1
  simp only [List.getElem?_toArray, List.getElem?_cons_zero, List.getElem?_cons_succ] at b0 b1
  exact ⟨b0, b1⟩
set_option maxRecDepth 100000 in
set_option maxHeartbeats 16000000 in
theorem play_list (g off cap nn : Nat) (c : Nat → AcP) (ao1 : Option Addr) (cap1 nn1 : Nat) (W : World) (hL : Lay W) (hM : LayM W) (hc : ActCells W g off c nn) (hn : nn ≤ 300) (hn1 : nn1 ≤ 300)
    (hbeg : Calls Tryd.prog 8 #[.slice ao1 nn1 cap1] W fun e W' => ∃ p m b, e = .returned (.agg #[.pointer (some ⟨p, 0, none⟩), .pointer (some ⟨b, 0, none⟩)]) ∧ Both p m b nn1 W' ∧ W.heap.size ≤ m ∧ m < p ∧ p < b ∧ Below W.heap.size W W') :
    Calls Tryd.prog 3 #[.slice (some ⟨g, off, none⟩) nn cap, .slice ao1 nn1 cap1] W fun e W' => e = .returned (.bool true) ∧ Below W.heap.size W W' := by
  obtain ⟨i2, hi2, hy0, hy1, hy2⟩ := info_parts Tryd_infoJ
  have h1W := hM.1
  have HL := Lib.hid hL
  have HM := Lib.hid hM
  have HC := Lib.hid hc
  have HBG := Lib.hid hbeg
  have hn' : ¬ ((300 : Int) < (nn : Int)) := by omega
  have hn2 : (nn : Int) ≤ 300 := by omega
  have hn3 : ¬ ((300 : Int) < (nn1 : Int)) := by omega
  have hn4 : (nn1 : Int) ≤ 300 := by omega
  clear hL hM hc hbeg
  go_enter Tryd.func3, Tryd.ntmps3
  go_wp2_with fail
  (refine (HBG.out).mono ?_; rintro e w1 ⟨p, m, b, rfl, hB1, hWm, hmp, hpb, hb1⟩)
  have hblt : b < w1.heap.size := hB1.parts.2.2.2.2.2
  have hX : Below w1.heap.size w1 (w1.alloc (.cells #[.pointer (some ⟨p, 0, none⟩), .pointer (some ⟨b, 0, none⟩)] 28)) := (Below.refl _ _).alloc (Nat.le_refl _) _
  have HS := Lib.hid (show PS W p m b w1.heap.size (300 + 0) [] (.slice none 0 0) (w1.alloc (.cells #[.pointer (some ⟨p, 0, none⟩), .pointer (some ⟨b, 0, none⟩)] 28)) from
    ⟨(hB1.mono (by omega)).below hX, (HL.out.below hb1).below hX, (HM.out.below hb1).below hX, hb1.trans (hX.mono hb1.size), hWm, World.alloc_heap_new _ _, World.ownsRow_nil _ _ _ _, by simp, by simp, by simp⟩)
  clear hB1 hb1 hX HBG
  go_wp2_with fail
  revert HS
  generalize w1.alloc (.cells #[.pointer (some ⟨p, 0, none⟩), .pointer (some ⟨b, 0, none⟩)] 28) = w2
  intro HS
  generalize w1.heap.size = T0 at *
  go_loopw [6, 7] (fun v j wr => ∃ i : Nat, ∃ rows : List JP, i ≤ nn ∧ j = .int .i64 (i : Int) ∧ Hid (rows.length ≤ i ∧ PS W p m b T0 (300 + i) rows v wr)) (fun _ j _ => nn - (intOf j).toNat)
  case atStart => exact ⟨0, [], Nat.zero_le _, rfl, Lib.hid ⟨Nat.le_refl _, HS.out⟩⟩
  case round =>
    clear HS
    obtain ⟨i, rows, hi, rfl, hst⟩ := hrel
    have hge : (0 : Int) ≤ (i : Int) := by omega
    by_cases hlt : i < nn
    · have hlt' : (i : Int) < (nn : Int) := by omega
      obtain ⟨hrl, hps⟩ := hst.out
      obtain ⟨d0, d1, d2, d3, d4, d5⟩ := (HC.out.below hps.low) i hlt
      generalize c i = ac at d0 d1 d2 d3 d4 d5
      obtain ⟨kd, wh, ⟨x, sv, hsv⟩, hkd, hwh⟩ := ac
      dsimp only at d0 d1 d2 d3 d4 d5
      have hA : Below wr.heap.size wr (wr.alloc (.cells #[.int .u8 kd, .int .i64 wh, .int .u8 x.k, .int .i64 x.a, .int .i64 x.f, .int .u64 sv] 38)) := (Below.refl _ _).alloc (Nat.le_refl _) _
      have k0 : (wr.alloc (.cells #[.int .u8 kd, .int .i64 wh, .int .u8 x.k, .int .i64 x.a, .int .i64 x.f, .int .u64 sv] 38)).heap[wr.heap.size]? = some (.cells #[.int .u8 kd, .int .i64 wh, .int .u8 x.k, .int .i64 x.a, .int .i64 x.f, .int .u64 sv] 38 (0, 0)) := World.alloc_heap_new _ _
      have x0 := Joins.cell_of_block k0 0
      have x1 := Joins.cell_of_block k0 1
      have x2 := Joins.cell_of_block k0 2
      have x3 := Joins.cell_of_block k0 3
      have x4 := Joins.cell_of_block k0 4
      have x5 := Joins.cell_of_block k0 5
      simp only [List.getElem?_toArray, List.getElem?_cons_zero, List.getElem?_cons_succ] at x0 x1 x2 x3 x4 x5
      have HP := Lib.hid (hps.below hA)
      have HRL := Lib.hid hrl
      have HSV := Lib.hid hsv
      obtain ⟨κ, hκ6, hκ⟩ : ∃ κ : Nat, κ < 6 ∧ Int.tmod kd 6 = (κ : Int) := by
        refine ⟨(kd % 6).toNat, by omega, ?_⟩
        rw [Int.tmod_eq_emod_of_nonneg hkd.1]
        omega
      have HK0 := Lib.hid k0
      clear hst hps hrl hA k0 hsv hwh hkd
      obtain rfl | rfl | rfl | hκ3 : κ = 0 ∨ κ = 1 ∨ κ = 2 ∨ 3 ≤ κ := by omega
      · have hκ' : Int.tmod kd 6 = 0 := hκ
        clear hκ
        go_wp2_with fail
        revert x0 x1 x2 x3 x4 x5 HP HK0
        generalize wr.alloc (.cells #[.int .u8 kd, .int .i64 wh, .int .u8 x.k, .int .i64 x.a, .int .i64 x.f, .int .u64 sv] 38) = wA
        intro x0 x1 x2 x3 x4 x5 HP HK0
        generalize wr.heap.size = X at *
        clear d0 d1 d2 d3 d4 d5 x0 x1 x2 x3 x4 x5 HK0 hκ'
        ((with_reducible refine (newPop_any wA).mono ?_); rintro ee w3 ⟨rfl, o3, hb3, hs3⟩)
        have hqW := HP.out.low.size
        have HQN := Lib.hid (HP.out.old (Nat.le_refl wA.heap.size)).1
        have HP3 := Lib.hid (HP.out.below hb3)
        have HO3 := Lib.hid o3
        clear o3 hb3 hs3 HP
        generalize wA.heap.size = q at *
        go_wp2_with fail
        ((with_reducible refine (ref_newPop w3).mono ?_); rintro ee w4 ⟨rfl, r4, hb4, hs4⟩)
        have heW := HP3.out.low.size
        have HEN := Lib.hid (HP3.out.old (Nat.le_refl w3.heap.size)).2
        have HP4 := Lib.hid (HP3.out.below hb4)
        have HO4 := Lib.hid (HO3.out.below hb4)
        have HR4 := Lib.hid r4
        clear r4 hb4 hs4 HP3 HO3
        generalize w3.heap.size = e at *
        have HA5 := Lib.hid (show Below w4.heap.size w4 (w4.alloc (.cells #[.pointer (some ⟨q, 0, none⟩), .pointer none, .pointer (some ⟨e, 0, none⟩)] 45)) from (Below.refl _ _).alloc (Nat.le_refl _) _)
        have HC5 := Lib.hid (cells_new w4 [.pointer (some ⟨q, 0, none⟩), .pointer none, .pointer (some ⟨e, 0, none⟩)] 45)
        have HP5 := Lib.hid (HP4.out.below HA5.out)
        have HJ5 := Lib.hid (show JAt ⟨false, q, e⟩ (w4.alloc (.cells #[.pointer (some ⟨q, 0, none⟩), .pointer none, .pointer (some ⟨e, 0, none⟩)] 45)) from ⟨1, 0, 0, 0, false, 0, HR4.out.below HA5.out, HO4.out.below HA5.out, popOk_new⟩)
        have hrl3 : rows.length ≤ 300 := by have := HRL.out; omega
        go_wp2_with (at_builtin; go_loud (refine wpList_append_own_at _ rfl (.tmp 127) (.tmp 131) 30 rfl W.heap.size 45 i2 _ 3 24 Tryd.underlying30 hi2 hy0 hy1 hy2 rfl (by decide) _ rows.length (flatJ rows) rfl HP5.out.row ⟨w4.heap.size, 0, none⟩ 1 1 (JP.cells ⟨false, q, e⟩) rfl rfl HC5.out (cellsJ_one _) (by unfold maxLen; omega) (by omega) HP5.out.low.size ?_; intro v' w6 h6 g6 _ _; have HP6 := Lib.hid (HP5.out.push h1W h6 g6 HJ5.out hqW heW HQN.out HEN.out); obtain ⟨b0, b1⟩ := HP6.out.boxes; clear h6 g6))
        ((with_reducible refine (both_same HP6.out.both).mono ?_); rintro ee w7 ⟨rfl, hb7⟩)
        have HP7 := Lib.hid (HP6.out.below hb7)
        clear HP6 hb7 b0 b1
        go_wp2_with fail
        go_roundw
        case rel => exact ⟨i + 1, rows ++ [⟨false, q, e⟩], by omega, by go_num, Lib.hid ⟨by (try simp only [List.length_append, List.length_singleton]); have := HRL.out; omega, HP7.out.mono (by omega)⟩⟩
        case measure => simp [intOf]; omega
      · have hκ' : Int.tmod kd 6 = 1 := hκ
        clear hκ
        go_wp2_with fail
        revert x0 x1 x2 x3 x4 x5 HP HK0
        generalize wr.alloc (.cells #[.int .u8 kd, .int .i64 wh, .int .u8 x.k, .int .i64 x.a, .int .i64 x.f, .int .u64 sv] 38) = wA
        intro x0 x1 x2 x3 x4 x5 HP HK0
        generalize wr.heap.size = X at *
        have HKd := Lib.hid (blk_below HK0.out (Below.refl _ wA).drew)
        have hs0 := Lib.hid (act_cell HKd.out)
        have HPd := Lib.hid (HP.out.below (Below.refl _ wA).drew)
        clear d0 d1 d2 d3 d4 d5 x0 x1 x2 x3 x4 x5 HK0 hκ' HP
        have hrl3 : rows.length ≤ 300 := by have := HRL.out; omega
        have hqW := HPd.out.low.size
        have HQN := Lib.hid (HPd.out.old (Nat.le_refl wA.drew.heap.size)).1
        go_region_held3 (fun w9 => w9.cell? ⟨X, 1, none⟩ = some (.int .i64 wh))
          (first | exact hs0.out | exact hS3.out | exact hS4.out | exact hS5.out | exact hS6.out | fail)
          (first
            | (go_at_call 11; with_reducible refine (newPush_all wh _).mono ?_; rintro ee w3 ⟨rfl, o3, hb3, hs3⟩; have heW : W.heap.size ≤ w3.heap.size := Nat.le_trans hqW hb3.size; have HP3 := Lib.hid (HPd.out.below hb3); have HEN := Lib.hid (HP3.out.old (Nat.le_refl w3.heap.size)).2; have HO3 := Lib.hid o3; have HK3 := Lib.hid (blk_below HKd.out hb3); have hS3 := Lib.hid (act_cell HK3.out); clear o3 hb3 hs3)
            | (go_at_call 12; with_reducible refine (ref_newPush_all wh _).mono ?_; rintro ee w4 ⟨rfl, r4, hb4, hs4⟩; have HP4 := Lib.hid (HP3.out.below hb4); have HO4 := Lib.hid (HO3.out.below hb4); have HR4 := Lib.hid r4; have HK4 := Lib.hid (blk_below HK3.out hb4); have hS4 := Lib.hid (act_cell HK4.out); have HA5 := Lib.hid (show Below w4.heap.size w4 (w4.alloc (.cells #[.pointer none, .pointer (some ⟨wA.drew.heap.size, 0, none⟩), .pointer (some ⟨w3.heap.size, 0, none⟩)] 45)) from (Below.refl _ _).alloc (Nat.le_refl _) _); have HC5 := Lib.hid (cells_new w4 [.pointer none, .pointer (some ⟨wA.drew.heap.size, 0, none⟩), .pointer (some ⟨w3.heap.size, 0, none⟩)] 45); have HP5 := Lib.hid (HP4.out.below HA5.out); have HJ5 := Lib.hid (show JAt ⟨true, wA.drew.heap.size, w3.heap.size⟩ (w4.alloc (.cells #[.pointer none, .pointer (some ⟨wA.drew.heap.size, 0, none⟩), .pointer (some ⟨w3.heap.size, 0, none⟩)] 45)) from JAt.new_push (HR4.out.below HA5.out) (HO4.out.below HA5.out)); have HK5 := Lib.hid (blk_below HK4.out HA5.out); have hS5 := Lib.hid (act_cell HK5.out); clear r4 hb4 hs4)
            | (refine step_append_at _ rfl (.tmp 135) (.tmp 143) 30 rfl W.heap.size 45 i2 _ 3 24 Tryd.underlying30 hi2 hy0 hy1 hy2 rfl (by decide) _ rows.length (flatJ rows) rfl HP5.out.row ⟨w4.heap.size, 0, none⟩ 1 1 (JP.cells ⟨true, wA.drew.heap.size, w3.heap.size⟩) rfl rfl HC5.out (cellsJ_one _) (by unfold maxLen; omega) (by omega) HP5.out.low.size ?_; intro v' w6 h6 g6 _; have HP6 := Lib.hid (HP5.out.push h1W h6 g6 HJ5.out hqW heW HQN.out HEN.out); have hS6 := Lib.hid (act_cell (HP5.out.grown_blk g6 HK5.out (by decide))); obtain ⟨b0, b1⟩ := HP6.out.boxes; clear h6 g6)
            | fail)
        go_wp2_with fail
        ((with_reducible refine (both_same HP6.out.both).mono ?_); rintro ee w7 ⟨rfl, hb7⟩)
        have HP7 := Lib.hid (HP6.out.below hb7)
        clear HP6 hb7 b0 b1
        go_wp2_with fail
        go_roundw
        case rel => exact ⟨i + 1, rows ++ [⟨true, wA.drew.heap.size, w3.heap.size⟩], by omega, by go_num, Lib.hid ⟨by (try simp only [List.length_append, List.length_singleton]); have := HRL.out; omega, HP7.out.mono (by omega)⟩⟩
        case measure => simp [intOf]; omega
      · have hκ' : Int.tmod kd 6 = 2 := hκ
        clear hκ
        obtain ⟨b0, b1⟩ := HP.out.boxes
        go_wp2_with fail
        ((with_reducible refine (both_store HP.out.both HP.out.laym (by omega) x sv HSV.out).mono ?_); rintro ee w6 ⟨rfl, hB6, hf6⟩)
        have HP6 := Lib.hid (HP.out.fr h1W hf6 hB6)
        clear hf6 hB6 b0 b1 HP d0 d1 d2 d3 d4 d5 x0 x1 x2 x3 x4 x5 HK0 hκ'
        obtain ⟨b0, b1⟩ := HP6.out.boxes
        go_wp2_with fail
        ((with_reducible refine (both_same HP6.out.both).mono ?_); rintro ee w7 ⟨rfl, hb7⟩)
        have HP7 := Lib.hid (HP6.out.below hb7)
        clear HP6 hb7 b0 b1
        go_wp2_with fail
        go_roundw
        case rel => exact ⟨i + 1, rows, by omega, by go_num, Lib.hid ⟨by (try simp only [List.length_append, List.length_singleton]); have := HRL.out; omega, HP7.out.mono (by omega)⟩⟩
        case measure => simp [intOf]; omega
      · have hκa : ((κ : Int) == 0) = false := by simp; omega
        have hκb : ((κ : Int) == 1) = false := by simp; omega
        have hκc : ((κ : Int) == 2) = false := by simp; omega
        have hκw := u8_wrapP (show κ < 256 by omega)
        obtain ⟨A', c', hv', hnc, hcm, hAg⟩ := own_sliceP HP.out.row
        rw [hv'] at HP ⊢
        obtain ⟨M, hM⟩ : ∃ M, rows.length = M := ⟨_, rfl⟩
        have HM2 := Lib.hid hM
        rw [hM] at HP hnc hAg ⊢
        clear hM hv'
        by_cases hM0 : M = 0
        · subst hM0
          clear hAg
          go_wp2_with fail
          go_roundw
          case rel => exact ⟨i + 1, rows, by omega, by go_num, Lib.hid ⟨by have := HRL.out; omega, HP.out.mono (by omega)⟩⟩
          case measure => simp [intOf]; omega
        · obtain ⟨g', rfl⟩ := hAg (by omega)
          obtain ⟨k, hkM, hk⟩ : ∃ k : Nat, k < M ∧ Int.tmod (IntKind.u64.wrap wh) (M : Int) = (k : Int) := by
            have h0 : 0 ≤ IntKind.u64.wrap wh := by rw [IntKind.wrap_u64]; omega
            have h1 := Int.emod_nonneg (IntKind.u64.wrap wh) (b := (M : Int)) (by omega)
            have h2 := Int.emod_lt_of_pos (IntKind.u64.wrap wh) (b := (M : Int)) (by omega)
            refine ⟨(IntKind.u64.wrap wh % (M : Int)).toNat, by omega, ?_⟩
            rw [Int.tmod_eq_emod_of_nonneg h0]
            omega
          have hk0 : (0 : Int) ≤ (k : Int) := by omega
          have hkM' : (k : Int) < (M : Int) := by omega
          have hMp : ((M : Int) == 0) = false := by simp; omega
          have hMq : ¬ ((M : Int) = 0) := by omega
          obtain ⟨xj, hxm, y0, y1, y2, J, hqW, heW⟩ := HP.out.pick HM2.out hkM
          obtain ⟨psh, q, e⟩ := xj
          cases psh
          · dsimp only [popV, pushV] at y0 y1 y2 hqW heW
            have hA5 : Below (wr.alloc (.cells #[.int .u8 kd, .int .i64 wh, .int .u8 x.k, .int .i64 x.a, .int .i64 x.f, .int .u64 sv] 38)).heap.size (wr.alloc (.cells #[.int .u8 kd, .int .i64 wh, .int .u8 x.k, .int .i64 x.a, .int .i64 x.f, .int .u64 sv] 38)) ((wr.alloc (.cells #[.int .u8 kd, .int .i64 wh, .int .u8 x.k, .int .i64 x.a, .int .i64 x.f, .int .u64 sv] 38)).alloc (.cells #[.pointer (some ⟨q, 0, none⟩), .pointer none, .pointer (some ⟨e, 0, none⟩)] 45)) := (Below.refl _ _).alloc (Nat.le_refl _) _
            have kO : ((wr.alloc (.cells #[.int .u8 kd, .int .i64 wh, .int .u8 x.k, .int .i64 x.a, .int .i64 x.f, .int .u64 sv] 38)).alloc (.cells #[.pointer (some ⟨q, 0, none⟩), .pointer none, .pointer (some ⟨e, 0, none⟩)] 45)).heap[wr.heap.size + 1]? = some (.cells #[.pointer (some ⟨q, 0, none⟩), .pointer none, .pointer (some ⟨e, 0, none⟩)] 45 (0, 0)) := by
              have := World.alloc_heap_new (wr.alloc (.cells #[.int .u8 kd, .int .i64 wh, .int .u8 x.k, .int .i64 x.a, .int .i64 x.f, .int .u64 sv] 38)) (.cells #[.pointer (some ⟨q, 0, none⟩), .pointer none, .pointer (some ⟨e, 0, none⟩)] 45)
              simpa using this
            have HKO := Lib.hid kO
            obtain ⟨o0, o1, o2⟩ := op3_cells kO
            have HPB := Lib.hid (HP.out.below hA5)
            obtain ⟨b0, b1⟩ := HPB.out.boxes
            have HXM := Lib.hid hxm
            have HJ := Lib.hid (HPB.out.ops _ hxm).1
            clear hA5 kO hxm J hκa hκb hκc hκw HP
            obtain ⟨nx0, h0, to0, sl0, got0, nn0, R0, op0, ok0⟩ := HJ.out
            have hcall := pop_joint h1W HPB.out.mW hqW heW (by omega) HPB.out.both HPB.out.lay HPB.out.laym op0 R0 ok0
            clear R0 op0 ok0 HJ
            go_wp2_with fail
            ((with_reducible refine hcall.mono ?_); rintro ee w1 ⟨rfl, f1, nx, h, to, sl, got, nn', ok1, R1, hstep⟩)
            have kO1 := HPB.out.fx_keep HXM.out f1 HKO.out (.inl rfl)
            have kT1 := HPB.out.fx_keep HXM.out f1 HPB.out.box (.inr rfl)
            obtain ⟨p0, p1, p2⟩ := op3_cells kO1
            obtain ⟨c0, c1⟩ := box2_cells kT1
            have r2 := R1.cells.2.2.1
            have HF1 := Lib.hid f1
            have HST := Lib.hid hstep
            have HOK := Lib.hid ok1
            clear hcall f1 R1 hstep ok1 kO1 kT1 y0 y1 y2 o0 o1 o2 b0 b1 d0 d1 d2 d3 d4 d5 x0 x1 x2 x3 x4 x5 HK0 hκ hk hk0 hkM' hMp hMq
            by_cases hz : nx = 0
            · subst hz
              have hst := HST.out
              rw [show ((0 : Int) == 0) = true from rfl] at hst
              clear HST
              go_wp2_with fail
              ((with_reducible refine hst.mono ?_); rintro ee w2 ⟨rfl, f2, B2, o2, R2⟩)
              have HP2 := Lib.hid (HPB.out.fx h1W HXM.out (HF1.out.trans f2) B2 (show JAt ⟨false, q, e⟩ w2 from ⟨_, _, _, _, _, _, R2, o2, HOK.out⟩))
              have kO2 := HPB.out.fx_keep HXM.out (HF1.out.trans f2) HKO.out (.inl rfl)
              have HO2 := Lib.hid o2
              have HR2 := Lib.hid R2
              have HKO2 := Lib.hid kO2
              clear hst f2 B2 o2 R2 p0 p1 p2 c0 c1 r2 HPB HF1 HKO HXM
              obtain ⟨p0, p1, p2⟩ := op3_cells kO2
              clear kO2
              have hov := popOver_any HO2.out
              rw [show ((0 : Int) == 0) = true from rfl] at hov
              go_wp2_with fail
              ((with_reducible refine hov.mono ?_); rintro ee w3 ⟨rfl, rfl⟩)
              clear hov
              go_wp2_with fail
              have hgo : U64 h ∧ ((got = false ∧ wSlot h < 0) ∨ (got = true ∧ 0 ≤ wSlot h ∧ sl = wSlot h)) := by
                obtain ⟨hu, _, h | h | h | h | h⟩ := HOK.out
                · exact absurd h.1 (by decide)
                · exact absurd h.1 (by decide)
                · exact absurd h.1 (by decide)
                · exact ⟨hu, .inl h.2⟩
                · exact ⟨hu, .inr h.2⟩
              obtain ⟨hu, ⟨rfl, hs⟩ | ⟨rfl, hs, rfl⟩⟩ := hgo
              · ((with_reducible refine (got_none HP2.out.lay hu hs HO2.out).mono ?_); rintro ee w3 ⟨rfl, j, rfl⟩)
                have HX := Lib.hid (show Below w2.heap.size w2 (w2.drewN j) from below_drewN' (Below.refl _ _) j)
                have HP6 := Lib.hid (HP2.out.below HX.out)
                obtain ⟨b0, b1⟩ := HP6.out.boxes
                obtain ⟨r0, r1, r2, r3, r4, r5, _⟩ := (HR2.out.below HX.out).cells
                obtain ⟨p0, p1, p2⟩ := op3_cells (blk_below HKO2.out HX.out)
                clear HX HP2
                revert HP6 b0 b1 r0 r1 r2 r3 r4 r5 p0 p1 p2
                generalize w2.drewN j = w9
                intro HP6 b0 b1 r0 r1 r2 r3 r4 r5 p0 p1 p2
                go_wp2_with fail
                ((with_reducible refine (both_same HP6.out.both).mono ?_); rintro ee w7 ⟨rfl, hb7⟩)
                have HP7 := Lib.hid (HP6.out.below hb7)
                clear HP6 hb7 b0 b1
                go_wp2_with fail
                go_roundw
                case rel => exact ⟨i + 1, rows, by omega, by go_num, Lib.hid ⟨by (try simp only [List.length_append, List.length_singleton]); have := HRL.out; omega, HP7.out.mono (by omega)⟩⟩
                case measure => simp [intOf]; omega
              · ((with_reducible refine (got_slot HP2.out.lay hu hs HO2.out).mono ?_); rintro ee w3 ⟨rfl, j, rfl⟩)
                have HX := Lib.hid (show Below w2.heap.size w2 (w2.drewN j) from below_drewN' (Below.refl _ _) j)
                have HP6 := Lib.hid (HP2.out.below HX.out)
                obtain ⟨b0, b1⟩ := HP6.out.boxes
                obtain ⟨r0, r1, r2, r3, r4, r5, _⟩ := (HR2.out.below HX.out).cells
                obtain ⟨p0, p1, p2⟩ := op3_cells (blk_below HKO2.out HX.out)
                clear HX HP2
                revert HP6 b0 b1 r0 r1 r2 r3 r4 r5 p0 p1 p2
                generalize w2.drewN j = w9
                intro HP6 b0 b1 r0 r1 r2 r3 r4 r5 p0 p1 p2
                go_wp2_with fail
                ((with_reducible refine (both_same HP6.out.both).mono ?_); rintro ee w7 ⟨rfl, hb7⟩)
                have HP7 := Lib.hid (HP6.out.below hb7)
                clear HP6 hb7 b0 b1
                go_wp2_with fail
                go_roundw
                case rel => exact ⟨i + 1, rows, by omega, by go_num, Lib.hid ⟨by (try simp only [List.length_append, List.length_singleton]); have := HRL.out; omega, HP7.out.mono (by omega)⟩⟩
                case measure => simp [intOf]; omega
            · have hzb : (nx == 0) = false := by simpa using hz
              have hst := HST.out
              rw [hzb] at hst
              have HZ := Lib.hid hz
              clear hz
              clear HST
              go_wp2_with fail
              ((with_reducible refine hst.mono ?_); rintro ee w2 ⟨rfl, f2, B2, o2, R2⟩)
              have HP2 := Lib.hid (HPB.out.fx h1W HXM.out (HF1.out.trans f2) B2 (show JAt ⟨false, q, e⟩ w2 from ⟨_, _, _, _, _, _, R2, o2, HOK.out⟩))
              have kO2 := HPB.out.fx_keep HXM.out (HF1.out.trans f2) HKO.out (.inl rfl)
              have HO2 := Lib.hid o2
              have HR2 := Lib.hid R2
              have HKO2 := Lib.hid kO2
              clear hst f2 B2 o2 R2 p0 p1 p2 c0 c1 r2 HPB HF1 HKO HXM
              obtain ⟨p0, p1, p2⟩ := op3_cells kO2
              clear kO2
              have hov := popOver_any HO2.out
              rw [hzb] at hov
              go_wp2_with fail
              ((with_reducible refine hov.mono ?_); rintro ee w3 ⟨rfl, rfl⟩)
              clear hov
              go_wp2_with fail
              have hgf : got = false := by
                obtain ⟨_, _, h | h | h | h | h⟩ := HOK.out
                · exact h.2
                · exact h.2.1
                · exact h.2.1
                · exact h.2.1
                · exact absurd h.1 HZ.out
              subst hgf
              ((with_reducible refine (got_under HZ.out HO2.out).mono ?_); rintro ee w3 ⟨rfl, rfl⟩)
              obtain ⟨r0, r1, r2, r3, r4, r5, _⟩ := HR2.out.cells
              obtain ⟨b0, b1⟩ := HP2.out.boxes
              have HP6 := HP2
              clear HP2
              go_wp2_with fail
              ((with_reducible refine (both_same HP6.out.both).mono ?_); rintro ee w7 ⟨rfl, hb7⟩)
              have HP7 := Lib.hid (HP6.out.below hb7)
              clear HP6 hb7 b0 b1
              go_wp2_with fail
              go_roundw
              case rel => exact ⟨i + 1, rows, by omega, by go_num, Lib.hid ⟨by (try simp only [List.length_append, List.length_singleton]); have := HRL.out; omega, HP7.out.mono (by omega)⟩⟩
              case measure => simp [intOf]; omega
          · dsimp only [popV, pushV] at y0 y1 y2 hqW heW
            have hA5 : Below (wr.alloc (.cells #[.int .u8 kd, .int .i64 wh, .int .u8 x.k, .int .i64 x.a, .int .i64 x.f, .int .u64 sv] 38)).heap.size (wr.alloc (.cells #[.int .u8 kd, .int .i64 wh, .int .u8 x.k, .int .i64 x.a, .int .i64 x.f, .int .u64 sv] 38)) ((wr.alloc (.cells #[.int .u8 kd, .int .i64 wh, .int .u8 x.k, .int .i64 x.a, .int .i64 x.f, .int .u64 sv] 38)).alloc (.cells #[.pointer none, .pointer (some ⟨q, 0, none⟩), .pointer (some ⟨e, 0, none⟩)] 45)) := (Below.refl _ _).alloc (Nat.le_refl _) _
            have kO : ((wr.alloc (.cells #[.int .u8 kd, .int .i64 wh, .int .u8 x.k, .int .i64 x.a, .int .i64 x.f, .int .u64 sv] 38)).alloc (.cells #[.pointer none, .pointer (some ⟨q, 0, none⟩), .pointer (some ⟨e, 0, none⟩)] 45)).heap[wr.heap.size + 1]? = some (.cells #[.pointer none, .pointer (some ⟨q, 0, none⟩), .pointer (some ⟨e, 0, none⟩)] 45 (0, 0)) := by
              have := World.alloc_heap_new (wr.alloc (.cells #[.int .u8 kd, .int .i64 wh, .int .u8 x.k, .int .i64 x.a, .int .i64 x.f, .int .u64 sv] 38)) (.cells #[.pointer none, .pointer (some ⟨q, 0, none⟩), .pointer (some ⟨e, 0, none⟩)] 45)
              simpa using this
            have HKO := Lib.hid kO
            obtain ⟨o0, o1, o2⟩ := op3_cells kO
            have HPB := Lib.hid (HP.out.below hA5)
            obtain ⟨b0, b1⟩ := HPB.out.boxes
            have HXM := Lib.hid hxm
            have HJ := Lib.hid (HPB.out.ops _ hxm).1
            clear hA5 kO hxm J hκa hκb hκc hκw HP
            obtain ⟨nx0, h0, to0, sl0, got0, nn0, R0, op0, ok0⟩ := HJ.out
            have hcall := push_joint h1W HPB.out.mW hqW heW (by omega) HPB.out.both HPB.out.lay HPB.out.laym op0 R0 ok0
            clear R0 op0 ok0 HJ
            go_wp2_with fail
            ((with_reducible refine hcall.mono ?_); rintro ee w1 ⟨rfl, f1, nx, h, to, sl, got, nn', ok1, R1, hstep⟩)
            have kO1 := HPB.out.fx_keep HXM.out f1 HKO.out (.inl rfl)
            have kT1 := HPB.out.fx_keep HXM.out f1 HPB.out.box (.inr rfl)
            obtain ⟨p0, p1, p2⟩ := op3_cells kO1
            obtain ⟨c0, c1⟩ := box2_cells kT1
            have r2 := R1.cells.2.2.1
            have HF1 := Lib.hid f1
            have HST := Lib.hid hstep
            have HOK := Lib.hid ok1
            clear hcall f1 R1 hstep ok1 kO1 kT1 y0 y1 y2 o0 o1 o2 b0 b1 d0 d1 d2 d3 d4 d5 x0 x1 x2 x3 x4 x5 HK0 hκ hk hk0 hkM' hMp hMq
            by_cases hz : nx = 0
            · subst hz
              have hst := HST.out
              rw [show ((0 : Int) == 0) = true from rfl] at hst
              clear HST
              go_wp2_with fail
              ((with_reducible refine hst.mono ?_); rintro ee w2 ⟨rfl, f2, B2, o2, R2⟩)
              have HP2 := Lib.hid (HPB.out.fx h1W HXM.out (HF1.out.trans f2) B2 (show JAt ⟨true, q, e⟩ w2 from ⟨_, _, _, _, _, _, R2, o2, HOK.out⟩))
              have kO2 := HPB.out.fx_keep HXM.out (HF1.out.trans f2) HKO.out (.inl rfl)
              have HO2 := Lib.hid o2
              have HR2 := Lib.hid R2
              have HKO2 := Lib.hid kO2
              clear hst f2 B2 o2 R2 p0 p1 p2 c0 c1 r2 HPB HF1 HKO HXM
              obtain ⟨p0, p1, p2⟩ := op3_cells kO2
              clear kO2
              have hov := pushOver_any HO2.out
              rw [show ((0 : Int) == 0) = true from rfl] at hov
              obtain ⟨b0, b1⟩ := HP2.out.boxes
              go_wp2_with fail
              ((with_reducible refine hov.mono ?_); rintro ee w3 ⟨rfl, rfl⟩)
              have HP6 := HP2
              clear hov HP2 p0 p1 p2
              go_wp2_with fail
              ((with_reducible refine (both_same HP6.out.both).mono ?_); rintro ee w7 ⟨rfl, hb7⟩)
              have HP7 := Lib.hid (HP6.out.below hb7)
              clear HP6 hb7 b0 b1
              go_wp2_with fail
              go_roundw
              case rel => exact ⟨i + 1, rows, by omega, by go_num, Lib.hid ⟨by (try simp only [List.length_append, List.length_singleton]); have := HRL.out; omega, HP7.out.mono (by omega)⟩⟩
              case measure => simp [intOf]; omega
            · have hzb : (nx == 0) = false := by simpa using hz
              have hst := HST.out
              rw [hzb] at hst
              have HZ := Lib.hid hz
              clear hz
              clear HST
              go_wp2_with fail
              ((with_reducible refine hst.mono ?_); rintro ee w2 ⟨rfl, f2, B2, o2, R2⟩)
              have HP2 := Lib.hid (HPB.out.fx h1W HXM.out (HF1.out.trans f2) B2 (show JAt ⟨true, q, e⟩ w2 from ⟨_, _, _, _, _, _, R2, o2, HOK.out⟩))
              have kO2 := HPB.out.fx_keep HXM.out (HF1.out.trans f2) HKO.out (.inl rfl)
              have HO2 := Lib.hid o2
              have HR2 := Lib.hid R2
              have HKO2 := Lib.hid kO2
              clear hst f2 B2 o2 R2 p0 p1 p2 c0 c1 r2 HPB HF1 HKO HXM
              obtain ⟨p0, p1, p2⟩ := op3_cells kO2
              clear kO2
              have hov := pushOver_any HO2.out
              rw [hzb] at hov
              obtain ⟨b0, b1⟩ := HP2.out.boxes
              go_wp2_with fail
              ((with_reducible refine hov.mono ?_); rintro ee w3 ⟨rfl, rfl⟩)
              have HP6 := HP2
              clear hov HP2 p0 p1 p2
              go_wp2_with fail
              ((with_reducible refine (both_same HP6.out.both).mono ?_); rintro ee w7 ⟨rfl, hb7⟩)
              have HP7 := Lib.hid (HP6.out.below hb7)
              clear HP6 hb7 b0 b1
              go_wp2_with fail
              go_roundw
              case rel => exact ⟨i + 1, rows, by omega, by go_num, Lib.hid ⟨by (try simp only [List.length_append, List.length_singleton]); have := HRL.out; omega, HP7.out.mono (by omega)⟩⟩
              case measure => simp [intOf]; omega
    · have hge2 : (nn : Int) ≤ (i : Int) := by omega
      have HP := Lib.hid hst.out.2
      obtain ⟨b0, b1⟩ := HP.out.boxes
      clear hst
      go_wp2_with fail
      ((with_reducible refine (both_words HP.out.both (by omega)).mono ?_); rintro ee w6 ⟨rfl, hb6⟩)
      have HP6 := Lib.hid (HP.out.below hb6)
      clear HP hb6 b0 b1
      go_wp2_with fail
      ((with_reducible refine (lives_any w6 HP6.out.lay HP6.out.laym).mono ?_); rintro ee w7 ⟨rfl, hb7⟩)
      go_wp2_with fail
      go_ret
      exact ⟨rfl, HP6.out.low.trans (hb7.mono HP6.out.low.size)⟩
set_option maxRecDepth 100000 in
theorem play_long (ao0 ao1 : Option Addr) (cap0 nn0 cap1 nn1 : Nat) (W : World) (hL : Lay W) (hM : LayM W) (h : 300 < nn0 ∨ 300 < nn1) :
    Calls Tryd.prog 3 #[.slice ao0 nn0 cap0, .slice ao1 nn1 cap1] W fun e W' => e = .returned (.bool true) ∧ Below W.heap.size W W' := by
  have HL := Lib.hid hL
  have HM := Lib.hid hM
  clear hL hM
  by_cases h0 : 300 < nn0
  · have h0' : (300 : Int) < (nn0 : Int) := by omega
    clear h
    go_enter Tryd.func3, Tryd.ntmps3
    go_wp2_with fail
    ((with_reducible refine (lives_any W HL.out HM.out).mono ?_); rintro e w4 ⟨rfl, hb⟩)
    go_wp2_with fail
    go_ret
    exact ⟨rfl, hb⟩
  · have h1 : 300 < nn1 := by omega
    have h0' : (nn0 : Int) ≤ 300 := by omega
    have h1' : (300 : Int) < (nn1 : Int) := by omega
    clear h
    go_enter Tryd.func3, Tryd.ntmps3
    go_wp2_with fail
    ((with_reducible refine (lives_any W HL.out HM.out).mono ?_); rintro e w4 ⟨rfl, hb⟩)
    go_wp2_with fail
    go_ret
    exact ⟨rfl, hb⟩
set_option maxRecDepth 100000 in
set_option maxHeartbeats 4000000 in
theorem play_nil (ao1 : Option Addr) (cap1 nn1 : Nat) (W : World) (hL : Lay W) (hM : LayM W) (hn1 : nn1 ≤ 300)
    (hbeg : Calls Tryd.prog 8 #[.slice ao1 nn1 cap1] W fun e W' => ∃ p m b, e = .returned (.agg #[.pointer (some ⟨p, 0, none⟩), .pointer (some ⟨b, 0, none⟩)]) ∧ Both p m b nn1 W' ∧ W.heap.size ≤ m ∧ m < p ∧ p < b ∧ Below W.heap.size W W') :
    Calls Tryd.prog 3 #[.slice none 0 0, .slice ao1 nn1 cap1] W fun e W' => e = .returned (.bool true) ∧ Below W.heap.size W W' := by
  have HL := Lib.hid hL
  have HM := Lib.hid hM
  have HBG := Lib.hid hbeg
  have hn3 : ¬ ((300 : Int) < (nn1 : Int)) := by omega
  have hn4 : (nn1 : Int) ≤ 300 := by omega
  clear hL hM hbeg
  go_enter Tryd.func3, Tryd.ntmps3
  go_wp2_with fail
  (refine (HBG.out).mono ?_; rintro e w1 ⟨p, m, b, rfl, hB1, hWm, hmp, hpb, hb1⟩)
  have hX : Below w1.heap.size w1 (w1.alloc (.cells #[.pointer (some ⟨p, 0, none⟩), .pointer (some ⟨b, 0, none⟩)] 28)) := (Below.refl _ _).alloc (Nat.le_refl _) _
  have HS := Lib.hid (show PS W p m b w1.heap.size 300 [] (.slice none 0 0) (w1.alloc (.cells #[.pointer (some ⟨p, 0, none⟩), .pointer (some ⟨b, 0, none⟩)] 28)) from
    ⟨(hB1.mono (by omega)).below hX, (HL.out.below hb1).below hX, (HM.out.below hb1).below hX, hb1.trans (hX.mono hb1.size), hWm, World.alloc_heap_new _ _, World.ownsRow_nil _ _ _ _, by simp, by simp, by simp⟩)
  clear hB1 hb1 hX HBG
  obtain ⟨b0, b1⟩ := HS.out.boxes
  go_wp2_with fail
  go_loopw [7] (fun j wr => j = .int .i64 0 ∧ wr = w1.alloc (.cells #[.pointer (some ⟨p, 0, none⟩), .pointer (some ⟨b, 0, none⟩)] 28)) (fun _ _ => 0)
  case atStart => exact ⟨rfl, rfl⟩
  case round =>
    obtain ⟨rfl, rfl⟩ := hrel
    go_wp2_with fail
    ((with_reducible refine (both_words HS.out.both (by omega)).mono ?_); rintro ee w6 ⟨rfl, hb6⟩)
    have HP6 := Lib.hid (HS.out.below hb6)
    clear HS hb6 b0 b1
    go_wp2_with fail
    ((with_reducible refine (lives_any w6 HP6.out.lay HP6.out.laym).mono ?_); rintro ee w7 ⟨rfl, hb7⟩)
    go_wp2_with fail
    go_ret
    exact ⟨rfl, HP6.out.low.trans (hb7.mono HP6.out.low.size)⟩
theorem play_all (W : World) {v0 : Value} (hacts : v0 = .slice none 0 0 ∨ ∃ g off len cap c, v0 = .slice (some ⟨g, off, none⟩) len cap ∧ ActCells W g off c len) (ao1 : Option Addr) (cap1 nn1 : Nat) (hL : Lay W) (hM : LayM W)
    (hbeg : nn1 ≤ 300 → Calls Tryd.prog 8 #[.slice ao1 nn1 cap1] W fun e W' => ∃ p m b, e = .returned (.agg #[.pointer (some ⟨p, 0, none⟩), .pointer (some ⟨b, 0, none⟩)]) ∧ Both p m b nn1 W' ∧ W.heap.size ≤ m ∧ m < p ∧ p < b ∧ Below W.heap.size W W') :
    Calls Tryd.prog 3 #[v0, .slice ao1 nn1 cap1] W fun e W' => e = .returned (.bool true) ∧ Below W.heap.size W W' := by
  by_cases hn1 : nn1 ≤ 300
  · rcases hacts with rfl | ⟨g, off, len, cap, c, rfl, hc⟩
    · exact play_nil ao1 cap1 nn1 W hL hM hn1 (hbeg hn1)
    · by_cases hn : len ≤ 300
      · exact play_list g off cap len c ao1 cap1 nn1 W hL hM hc hn hn1 (hbeg hn1)
      · exact play_long _ ao1 cap len cap1 nn1 W hL hM (.inl (by omega))
  · rcases hacts with rfl | ⟨g, off, len, cap, c, rfl, hc⟩
    · exact play_long _ ao1 0 0 cap1 nn1 W hL hM (.inr (by omega))
    · exact play_long _ ao1 cap len cap1 nn1 W hL hM (.inr (by omega))
end Go.Proofs.YtipgidkpjilhoaaDoor
