/-
  The document's operation on the list of free slots: how it lies, new ones, what each line does; condition: both memories lie as they say, the operation as it says.
  The document's operation on the list of free slots: what each of its lines does; condition: both memories lie as they say, the operation as it says.
-/
import Derived.Test.YtlcbinckbkdgdaaGreatDoorD6
import Derived.Test.YtlcbinckbkdgdaaGreatDoorF1
import Derived.Test.YtlcbinckbkdgdaaGreatDoorW3
import Derived.StillTailTactics
import Derived.Outline
namespace Go.Proofs.YtlcbinckbkdgdaaGreatDoor
open Go.RowKit Go.Maps

/-- The document's operation, in its block. -/
def RefAt (e : Nat) (psh : Bool) (sl ln : Int) (got : Bool) (h n : Int) (w : World) : Prop := w.heap[e]? = some (.cells #[.bool psh, .int .i64 sl, .int .i64 ln, .bool got, .int .u64 h, .int .u64 n] 120 (0, 0))
/-- What a step of an operation leaves alone: all but both memories, the operation, and the document's. -/
structure Fx (B p b q e : Nat) (X Y : World) : Prop where
  low : Below B X Y
  far : ∀ x cs t fr, X.heap[x]? = some (.cells cs t fr) → t ≠ 105 → x ≠ p → x ≠ b → x ≠ q → x ≠ e → Y.heap[x]? = some (.cells cs t fr)
section
variable {B p m b q e : Nat} {X Y Z : World}
theorem Fx.trans (h : Fx B p b q e X Y) (k : Fx B p b q e Y Z) : Fx B p b q e X Z := ⟨h.low.trans k.low, fun x cs t fr hx ht h1 h2 h3 h4 => k.far x cs t fr (h.far x cs t fr hx ht h1 h2 h3 h4) ht h1 h2 h3 h4⟩
theorem Fx.of_fr (h : Fr p m b X Y) (hB : B ≤ m) : Fx B p b q e X Y := ⟨h.low.mono hB, fun x cs t fr hx ht h1 h2 _ _ => h.far x cs t fr hx ht h1 h2⟩
theorem Fx.of_below (h : Below X.heap.size X Y) (hB : B ≤ X.heap.size) : Fx B p b q e X Y := ⟨h.mono hB, fun _ _ _ _ hx _ _ _ _ _ => (h.block _ (Array.getElem?_eq_some_iff.1 hx).1).trans hx⟩
theorem Fx.setE (X : World) (hB : B ≤ e) (i : Nat) (v : Value) : Fx B p b q e X (X.setCell ⟨e, i, none⟩ v) := ⟨(Below.refl B X).setCell (p := ⟨e, i, none⟩) hB v, fun x _ _ _ hx _ _ _ _ h4 => (Below.heap_setCell X ⟨e, i, none⟩ v x h4).trans hx⟩
theorem Fx.setQ (X : World) (hB : B ≤ q) (i : Nat) (v : Value) : Fx B p b q e X (X.setCell ⟨q, i, none⟩ v) := ⟨(Below.refl B X).setCell (p := ⟨q, i, none⟩) hB v, fun x _ _ _ hx _ _ _ h3 _ => (Below.heap_setCell X ⟨q, i, none⟩ v x h3).trans hx⟩
theorem Fx.lay (h : Fx B p b q e X Y) (hB : 1 < B) (hl : Lay X) : Lay Y := hl.same3 h.low.size (h.low.block 1 (by omega))
theorem Fx.laym (h : Fx B p b q e X Y) (hB : 1 < B) (hl : LayM X) : LayM Y := hl.same h.low.size (h.low.block 0 (by omega))
end
section
variable {B p m b n q e : Nat} {psh got : Bool} {sl ln h nn : Int} {D : DataW Unit} {s r : Acc8} {L : List (Ad × Int)} {w w' : World}
theorem RefAt.lt (R : RefAt e psh sl ln got h nn w) : e < w.heap.size := (Array.getElem?_eq_some_iff.1 R).1
theorem RefAt.same (R : RefAt e psh sl ln got h nn w) (hb : w'.heap[e]? = w.heap[e]?) : RefAt e psh sl ln got h nn w' := hb.trans R
theorem RefAt.below (R : RefAt e psh sl ln got h nn w) (hb : Below w.heap.size w w') : RefAt e psh sl ln got h nn w' := R.same (hb.block e R.lt)
theorem RefAt.cells (R : RefAt e psh sl ln got h nn w) : w.cell? ⟨e, 0, none⟩ = some (.bool psh) ∧ w.cell? ⟨e, 1, none⟩ = some (.int .i64 sl) ∧ w.cell? ⟨e, 2, none⟩ = some (.int .i64 ln) ∧ w.cell? ⟨e, 3, none⟩ = some (.bool got) ∧ w.cell? ⟨e, 4, none⟩ = some (.int .u64 h) ∧ w.cell? ⟨e, 5, none⟩ = some (.int .u64 nn) ∧ ∀ i, w.frozen? ⟨e, i, none⟩ = false := by
  unfold RefAt at R
  simp [World.cell?, World.frozen?, R]
theorem RefAt.set1 (R : RefAt e psh sl ln got h nn w) (v : Int) : RefAt e psh v ln got h nn (w.setCell ⟨e, 1, none⟩ (.int .i64 v)) := by
  have := setCell_blk R 1 (.int .i64 v); unfold RefAt; simpa using this
theorem RefAt.set2 (R : RefAt e psh sl ln got h nn w) (v : Int) : RefAt e psh sl v got h nn (w.setCell ⟨e, 2, none⟩ (.int .i64 v)) := by
  have := setCell_blk R 2 (.int .i64 v); unfold RefAt; simpa using this
theorem RefAt.set3 (R : RefAt e psh sl ln got h nn w) (v : Bool) : RefAt e psh sl ln v h nn (w.setCell ⟨e, 3, none⟩ (.bool v)) := by
  have := setCell_blk R 3 (.bool v); unfold RefAt; simpa using this
theorem RefAt.set4 (R : RefAt e psh sl ln got h nn w) (v : Int) : RefAt e psh sl ln got v nn (w.setCell ⟨e, 4, none⟩ (.int .u64 v)) := by
  have := setCell_blk R 4 (.int .u64 v); unfold RefAt; simpa using this
theorem RefAt.set5 (R : RefAt e psh sl ln got h nn w) (v : Int) : RefAt e psh sl ln got h v (w.setCell ⟨e, 5, none⟩ (.int .u64 v)) := by
  have := setCell_blk R 5 (.int .u64 v); unfold RefAt; simpa using this
theorem RefAt.fr (R : RefAt e psh sl ln got h nn w) (hf : Fr p m b w w') (hp : e ≠ p) (hb : e ≠ b) : RefAt e psh sl ln got h nn w' := hf.cell R (by decide) hp hb
/-- Both memories stand while another block turns. -/
theorem Pr.setX {x : Nat} {cs : Array Value} {t : TypeId} (h : Pr p m b n D s L r w) (hX : w.heap[x]? = some (.cells cs t (0, 0))) (ht : t ≠ 105) (hp : x ≠ p) (hb : x ≠ b) (j : Nat) (u : Value) : Pr p m b n D s L r (w.setCell ⟨x, j, none⟩ u) := by
  have far : ∀ z, z ≠ x → (w.setCell ⟨x, j, none⟩ u).heap[z]? = w.heap[z]? := fun z hz => Below.heap_setCell w _ _ z (by simpa using hz)
  obtain ⟨es, c, hm⟩ := h.prog.map_at
  obtain ⟨v, hr⟩ := h.ref
  refine ⟨h.prog.keep (far p (Ne.symm hp)) (far m fun e => ?_), ⟨v, (far b (Ne.symm hb)).trans hr.blk, ⟨hr.own.1, ?_⟩, hr.pos⟩, h.mp, h.pb⟩
  · subst e; rw [hX] at hm; cases hm
  · rcases hr.own.2 with hn | ⟨g, cap, cur, hv, hB, hg, rest⟩
    · exact .inl hn
    · refine .inr ⟨g, cap, cur, hv, hB, (far g fun e => ?_).trans hg, rest⟩
      subst e
      rw [hX] at hg
      injection hg with hg
      injection hg with _ h3
      exact ht h3
theorem Pr.val_u64 (h : Pr p m b n D s L r w) (hr : Rel D L) (x : Ad) : U64 (vals L x) := by
  rw [← hr.val]
  exact h.prog.val_u64 x

theorem ref_newPop (w : World) : Calls Tryz.prog 25 #[] w fun ee w' => ee = .returned (.pointer (some ⟨w.heap.size, 0, none⟩)) ∧ RefAt w.heap.size false 0 1 false 0 0 w' ∧ Below w.heap.size w w' ∧ w'.heap.size = w.heap.size + 1 := by
  go_enter Tryz.func25, Tryz.ntmps25
  go_wp2
  go_ret
  exact ⟨rfl, alloc_blk _ _, (Below.refl _ _).alloc (Nat.le_refl _) _, by simp⟩
theorem ref_newPush_bad (s : Int) (hs : ¬ (0 ≤ s ∧ s < 256)) (w : World) : Calls Tryz.prog 60 #[.int .i64 s] w fun ee w' => ee = .returned (.pointer (some ⟨w.heap.size, 0, none⟩)) ∧ RefAt w.heap.size true 0 0 false 0 0 w' ∧ Below w.heap.size w w' ∧ w'.heap.size = w.heap.size + 1 := by
  by_cases h0 : s < 0
  · clear hs
    go_enter Tryz.func60, Tryz.ntmps60
    go_wp2
    go_ret
    exact ⟨rfl, alloc_blk _ _, (Below.refl _ _).alloc (Nat.le_refl _) _, by simp⟩
  · have h1 : 255 < s := by omega
    have h2 : 0 ≤ s := by omega
    clear hs h0
    go_enter Tryz.func60, Tryz.ntmps60
    go_wp2
    go_ret
    exact ⟨rfl, alloc_blk _ _, (Below.refl _ _).alloc (Nat.le_refl _) _, by simp⟩
theorem ref_newPush (s : Int) (h0 : 0 ≤ s) (h1 : s < 256) (w : World) : Calls Tryz.prog 60 #[.int .i64 s] w fun ee w' => ee = .returned (.pointer (some ⟨w.heap.size, 0, none⟩)) ∧ RefAt w.heap.size true s 1 false 0 0 w' ∧ Below w.heap.size w w' ∧ w'.heap.size = w.heap.size + 1 := by
  have h2 : s ≤ 255 := by omega
  clear h1
  go_enter Tryz.func60, Tryz.ntmps60
  go_wp2
  go_ret
  exact ⟨rfl, alloc_blk _ _, (Below.refl _ _).alloc (Nat.le_refl _) _, by simp⟩

theorem load_rF (h : Pr p m b n D s L r w) (hL : L.length ≤ 999) (h0 : 0 ≤ r.st) (h1 : r.st < 1000000) :
    Calls Tryz.prog 53 #[.pointer (some ⟨b, 0, none⟩), .agg #[.int .u8 0, .int .i64 0, .int .i64 0]] w fun ee w' => ee = .returned (.int .u64 (vals L adF)) ∧ Pr p m b n D s L (r.touch 1 adF (vals L adF) (vals L adF) false) w' ∧ Fr p m b w w' := load_r adF h hL h0 h1
theorem load_rL (t : Int) (ht : I64w t) (h : Pr p m b n D s L r w) (hL : L.length ≤ 999) (h0 : 0 ≤ r.st) (h1 : r.st < 1000000) :
    Calls Tryz.prog 53 #[.pointer (some ⟨b, 0, none⟩), .agg #[.int .u8 9, .int .i64 t, .int .i64 2]] w fun ee w' => ee = .returned (.int .u64 (vals L (adL t ht))) ∧ Pr p m b n D s L (r.touch 1 (adL t ht) (vals L (adL t ht)) (vals L (adL t ht)) false) w' ∧ Fr p m b w w' := load_r (adL t ht) h hL h0 h1
theorem store_rL (t : Int) (ht : I64w t) (v : Int) (h : Pr p m b n D s L r w) (hL : L.length ≤ 999) (h0 : 0 ≤ r.st) (h1 : r.st < 1000000) :
    Calls Tryz.prog 28 #[.pointer (some ⟨b, 0, none⟩), .agg #[.int .u8 9, .int .i64 t, .int .i64 2], .int .u64 v] w fun ee w' => ee = .returned (.tuple #[]) ∧ Pr p m b n D s (storeA L (adL t ht) v) (r.touch 2 (adL t ht) (vals L (adL t ht)) (vals (storeA L (adL t ht) v) (adL t ht)) false) w' ∧ Fr p m b w w' := store_r (adL t ht) v h hL h0 h1
theorem cas_rF {u v : Int} {c : Bool} (hc : casA L adF u = c) (h : Pr p m b n D s L r w) (hL : L.length ≤ 999) (h0 : 0 ≤ r.st) (h1 : r.st < 1000000) :
    Calls Tryz.prog 59 #[.pointer (some ⟨b, 0, none⟩), .agg #[.int .u8 0, .int .i64 0, .int .i64 0], .int .u64 u, .int .u64 v] w fun ee w' => ee = .returned (.bool c) ∧ Pr p m b n D s (casL L adF u v) (r.touch 3 adF (vals L adF) (vals (casL L adF u v) adF) c) w' ∧ Fr p m b w w' := by
  subst hc
  exact cas_r adF u v h hL h0 h1
end
end Go.Proofs.YtlcbinckbkdgdaaGreatDoor
namespace Go.Proofs.YtlcbinckbkdgdaaGreatDoor
open Go.RowKit Go.Maps

section
variable {B p m b n q e : Nat} {psh got : Bool} {sl ln h nn : Int} {D : DataW Unit} {s r : Acc8} {L : List (Ad × Int)} {w w' : World}
theorem list_cells (w : World) : (w.alloc (.cells #[.int .u8 0, .int .i64 0, .int .i64 0] 34)).cell? ⟨w.heap.size, 0, none⟩ = some (.int .u8 0) ∧ (w.alloc (.cells #[.int .u8 0, .int .i64 0, .int .i64 0] 34)).cell? ⟨w.heap.size, 1, none⟩ = some (.int .i64 0) ∧ (w.alloc (.cells #[.int .u8 0, .int .i64 0, .int .i64 0] 34)).cell? ⟨w.heap.size, 2, none⟩ = some (.int .i64 0) ∧ (w.alloc (.cells #[.int .u8 0, .int .i64 0, .int .i64 0] 34)).heap[w.heap.size]? = some (.cells #[.int .u8 0, .int .i64 0, .int .i64 0] 34 (0, 0)) := by
  have k0 := World.alloc_heap_new w (.cells #[.int .u8 0, .int .i64 0, .int .i64 0] 34)
  have c0 := Joins.cell_of_block k0 0
  have c1 := Joins.cell_of_block k0 1
  have c2 := Joins.cell_of_block k0 2
  simp only [List.getElem?_toArray, List.getElem?_cons_zero, List.getElem?_cons_succ] at c0 c1 c2
  exact ⟨c0, c1, c2, k0⟩
set_option maxRecDepth 100000 in
set_option maxHeartbeats 4000000 in
theorem ref1_to (hBm : B ≤ m) (hBe : B ≤ e) (hep : e ≠ p) (heb : e ≠ b) (hP : Pr p m b n D s L r w) (hr : Rel D L) (R : RefAt e psh sl 1 got h nn w) (hu : U64 h) {v ln' : Int} (hv : vals L adF = v) (hl : ln' = if wSlot v < 0 ∧ psh = false then 0 else 2) (hL : L.length ≤ 999) (h0 : 0 ≤ r.st) (h1 : r.st < 1000000) :
    Calls Tryz.prog 52 #[.pointer (some ⟨e, 0, none⟩), .pointer (some ⟨b, 0, none⟩)] w fun ee w' => ee = .returned (.tuple #[]) ∧ RefAt e psh sl ln' got v nn w' ∧ Pr p m b n D s L (r.touch 1 adF v v false) w' ∧ Fx B p b q e w w' := by
  have hA : Below w.heap.size w (w.alloc (.cells #[.int .u8 0, .int .i64 0, .int .i64 0] 34)) := (Below.refl _ _).alloc (Nat.le_refl _) _
  obtain ⟨l0, l1, l2, lb⟩ := list_cells w
  have hBw : B ≤ w.heap.size := Nat.le_trans hBm hP.m_le
  have HF := Lib.hid (Fx.of_below (p := p) (b := b) (q := q) (e := e) hA hBw)
  have HP := Lib.hid (hP.below hA)
  have HR := Lib.hid (R.below hA)
  have HU := Lib.hid (hP.val_u64 hr adF)
  have HV := Lib.hid hv
  have HN := Lib.hid hl
  have HL := Lib.hid hL
  have hlb : w.heap.size ≠ p ∧ w.heap.size ≠ b := by have := hP.lt; have := hP.pb; constructor <;> omega
  obtain ⟨hlp, hlb⟩ := hlb
  have HLB := Lib.hid lb
  obtain ⟨c0, c1, c2, c3, c4, c5, cf⟩ := HR.out.cells
  clear hP hr hv hl R hA hL lb cf
  go_enter Tryz.func52, Tryz.ntmps52
  go_wp2_with fail
  revert l0 l1 l2 HF HP HR HLB c0 c1 c2 c3 c4 c5
  generalize w.alloc (.cells #[.int .u8 0, .int .i64 0, .int .i64 0] 34) = wA
  intro l0 l1 l2 HF HP HR HLB c0 c1 c2 c3 c4 c5
  generalize w.heap.size = X at *
  ((with_reducible refine (asHead10_any h wA hu).mono ?_); rintro ee w1 ⟨rfl, rfl⟩)
  go_wp2_with fail
  ((with_reducible refine (load_rF HP.out HL.out h0 h1).mono ?_); rintro ee w2 ⟨rfl, P2, f2⟩)
  have R2 := HR.out.fr f2 hep heb
  have F2 := HF.out.trans (.of_fr f2 hBm)
  have hu2 := HU.out
  rw [HV.out] at P2 hu2
  rw [HV.out]
  have HU2 := Lib.hid hu2
  have R3 := R2.set4 v
  have P3 := P2.setX R2 (by decide) hep heb 4 (.int .u64 v)
  have F3 := F2.trans (.setE (e := e) w2 hBe 4 (.int .u64 v))
  have R4 := R3.set2 2
  have P4 := P3.setX R3 (by decide) hep heb 2 (.int .i64 2)
  have F4 := F3.trans (.setE (e := e) _ hBe 2 (.int .i64 2))
  have R5 := R4.set2 0
  have P5 := P4.setX R4 (by decide) hep heb 2 (.int .i64 0)
  have F5 := F4.trans (.setE (e := e) _ hBe 2 (.int .i64 0))
  obtain ⟨a0, a1, a2, a3, a4, a5, af⟩ := R2.cells
  have z4 := af 4
  obtain ⟨b0, b1, b2, b3, b4, b5, bf⟩ := R3.cells
  have z2 := bf 2
  obtain ⟨d0, d1, d2, d3, d4, d5, df⟩ := R4.cells
  have y2 := df 2
  have HR4 := Lib.hid R4
  have HP4 := Lib.hid P4
  have HF4 := Lib.hid F4
  have HR5 := Lib.hid R5
  have HP5 := Lib.hid P5
  have HF5 := Lib.hid F5
  clear R2 R3 R4 R5 P2 P3 P4 P5 F2 F3 F4 F5 f2 af bf df HR HF HP l0 l1 l2 c0 c1 c2 c3 c4 c5 hu2
  go_wp2_with fail
  ((with_reducible refine (asHead10_any v _ HU2.out).mono ?_); rintro ee w1 ⟨rfl, rfl⟩)
  by_cases hs : wSlot v < 0
  · have hps : psh = false ∨ psh = true := by cases psh <;> simp
    rcases hps with hps | hps
    · have HI := Lib.hid (show ln' = 0 from HN.out.trans (if_pos ⟨hs, hps⟩))
      rw [hps] at a0 b0 d0
      clear hps
      go_wp2_with fail
      go_end0
      exact ⟨rfl, by rw [HI.out]; exact HR5.out, HP5.out, HF5.out⟩
    · have HI := Lib.hid (show ln' = 2 from HN.out.trans (if_neg fun h => by rw [hps] at h; cases h.2))
      rw [hps] at a0 b0 d0
      clear hps
      go_wp2_with fail
      go_end0
      exact ⟨rfl, by rw [HI.out]; exact HR4.out, HP4.out, HF4.out⟩
  · have HI := Lib.hid (show ln' = 2 from HN.out.trans (if_neg fun h => hs h.1))
    have hs' : 0 ≤ wSlot v := by omega
    go_wp2_with fail
    go_end0
    exact ⟨rfl, by rw [HI.out]; exact HR4.out, HP4.out, HF4.out⟩
set_option maxRecDepth 100000 in
set_option maxHeartbeats 4000000 in
theorem ref2_pop (hBm : B ≤ m) (hBe : B ≤ e) (hep : e ≠ p) (heb : e ≠ b) (hP : Pr p m b n D s L r w) (R : RefAt e false sl 2 got h nn w) (hu : U64 h) {v : Int} (hv : vals L (adL (wSlot h) (i64w_slot h)) = v) (hL : L.length ≤ 999) (h0 : 0 ≤ r.st) (h1 : r.st < 1000000) :
    Calls Tryz.prog 52 #[.pointer (some ⟨e, 0, none⟩), .pointer (some ⟨b, 0, none⟩)] w fun ee w' => ee = .returned (.tuple #[]) ∧ RefAt e false sl 3 got h v w' ∧ Pr p m b n D s L (r.touch 1 (adL (wSlot h) (i64w_slot h)) v v false) w' ∧ Fx B p b q e w w' := by
  have hA : Below w.heap.size w (w.alloc (.cells #[.int .u8 0, .int .i64 0, .int .i64 0] 34)) := (Below.refl _ _).alloc (Nat.le_refl _) _
  obtain ⟨l0, l1, l2, lb⟩ := list_cells w
  have hBw : B ≤ w.heap.size := Nat.le_trans hBm hP.m_le
  have HF := Lib.hid (Fx.of_below (p := p) (b := b) (q := q) (e := e) hA hBw)
  have HP := Lib.hid (hP.below hA)
  have HR := Lib.hid (R.below hA)
  have HV := Lib.hid hv
  have HL := Lib.hid hL
  have hlb : w.heap.size ≠ p ∧ w.heap.size ≠ b := by have := hP.lt; have := hP.pb; constructor <;> omega
  obtain ⟨hlp, hlb⟩ := hlb
  have HLB := Lib.hid lb
  obtain ⟨c0, c1, c2, c3, c4, c5, cf⟩ := HR.out.cells
  clear hP hv R hA hL lb cf
  go_enter Tryz.func52, Tryz.ntmps52
  go_wp2_with fail
  revert l0 l1 l2 HF HP HR HLB c0 c1 c2 c3 c4 c5
  generalize w.alloc (.cells #[.int .u8 0, .int .i64 0, .int .i64 0] 34) = wA
  intro l0 l1 l2 HF HP HR HLB c0 c1 c2 c3 c4 c5
  generalize w.heap.size = X at *
  ((with_reducible refine (asHead10_any h wA hu).mono ?_); rintro ee w1 ⟨rfl, rfl⟩)
  go_wp2_with fail
  ((with_reducible refine (load_rL (wSlot h) (i64w_slot h) HP.out HL.out h0 h1).mono ?_); rintro ee w2 ⟨rfl, P2, f2⟩)
  have R2 := HR.out.fr f2 hep heb
  have F2 := HF.out.trans (.of_fr f2 hBm)
  rw [HV.out] at P2
  rw [HV.out]
  have R3 := R2.set5 v
  have P3 := P2.setX R2 (by decide) hep heb 5 (.int .u64 v)
  have F3 := F2.trans (.setE (e := e) w2 hBe 5 (.int .u64 v))
  have R4 := R3.set2 3
  have P4 := P3.setX R3 (by decide) hep heb 2 (.int .i64 3)
  have F4 := F3.trans (.setE (e := e) _ hBe 2 (.int .i64 3))
  obtain ⟨a0, a1, a2, a3, a4, a5, af⟩ := R2.cells
  have z5 := af 5
  obtain ⟨b0, b1, b2, b3, b4, b5, bf⟩ := R3.cells
  have z2 := bf 2
  have HR4 := Lib.hid R4
  have HP4 := Lib.hid P4
  have HF4 := Lib.hid F4
  clear R2 R3 R4 P2 P3 P4 F2 F3 F4 f2 af bf HR HF HP l0 l1 l2 c0 c1 c2 c3 c4 c5
  go_wp2_with fail
  go_end0
  exact ⟨rfl, HR4.out, HP4.out, HF4.out⟩
set_option maxRecDepth 100000 in
set_option maxHeartbeats 4000000 in
theorem ref2_push (hBm : B ≤ m) (hBe : B ≤ e) (hep : e ≠ p) (heb : e ≠ b) (hP : Pr p m b n D s L r w) (R : RefAt e true sl 2 got h nn w) (hu : U64 h) (hsl : I64w sl) (hL : L.length ≤ 999) (h0 : 0 ≤ r.st) (h1 : r.st < 1000000) :
    Calls Tryz.prog 52 #[.pointer (some ⟨e, 0, none⟩), .pointer (some ⟨b, 0, none⟩)] w fun ee w' => ee = .returned (.tuple #[]) ∧ RefAt e true sl 3 got h nn w' ∧ Pr p m b n D s (storeA L (adL sl hsl) (headW (wSlot h) 0)) (r.touch 2 (adL sl hsl) (vals L (adL sl hsl)) (vals (storeA L (adL sl hsl) (headW (wSlot h) 0)) (adL sl hsl)) false) w' ∧ Fx B p b q e w w' := by
  have hA : Below w.heap.size w (w.alloc (.cells #[.int .u8 0, .int .i64 0, .int .i64 0] 34)) := (Below.refl _ _).alloc (Nat.le_refl _) _
  obtain ⟨l0, l1, l2, lb⟩ := list_cells w
  have hBw : B ≤ w.heap.size := Nat.le_trans hBm hP.m_le
  have HF := Lib.hid (Fx.of_below (p := p) (b := b) (q := q) (e := e) hA hBw)
  have HP := Lib.hid (hP.below hA)
  have HR := Lib.hid (R.below hA)
  have HL := Lib.hid hL
  have hlb : w.heap.size ≠ p ∧ w.heap.size ≠ b := by have := hP.lt; have := hP.pb; constructor <;> omega
  obtain ⟨hlp, hlb⟩ := hlb
  have HLB := Lib.hid lb
  obtain ⟨c0, c1, c2, c3, c4, c5, cf⟩ := HR.out.cells
  clear hP R hA hL lb cf
  go_enter Tryz.func52, Tryz.ntmps52
  go_wp2_with fail
  revert l0 l1 l2 HF HP HR HLB c0 c1 c2 c3 c4 c5
  generalize w.alloc (.cells #[.int .u8 0, .int .i64 0, .int .i64 0] 34) = wA
  intro l0 l1 l2 HF HP HR HLB c0 c1 c2 c3 c4 c5
  generalize w.heap.size = X at *
  ((with_reducible refine (asHead10_any h wA hu).mono ?_); rintro ee w1 ⟨rfl, rfl⟩)
  go_wp2_with fail
  have HB := Lib.hid (Below.refl w1.heap.size w1).drew
  have HRd := Lib.hid (HR.out.below HB.out)
  have HPd := Lib.hid (HP.out.below HB.out)
  have HFd := Lib.hid (HF.out.trans (.of_below HB.out (Nat.le_trans hBe (Nat.le_of_lt HR.out.lt))))
  refine wp_region_still_tail 8 (by kernel_rfl) (by kernel_rfl) ?_
  change wpStill _ _ w1.drew (fun a' => wpList _ _ _ _ a' w1.drew) _ _
  clear HR HP HF HB
  revert HRd HPd HFd
  generalize w1.drew = wd
  intro HRd HPd HFd
  obtain ⟨a0, a1, a2, a3, a4, a5, af⟩ := HRd.out.cells
  clear l0 l1 l2 c0 c1 c2 c3 c4 c5 af
  simp only [List.take_succ_cons, List.take_zero, List.drop_succ_cons, List.drop_zero]
  iterate 7 still_step
  still_call (head16_any (wSlot h) 0 wd u64_0)
  refine wpStill_nil ?_
  go_wp2_with fail
  ((with_reducible refine (store_rL sl hsl (headW (wSlot h) 0) HPd.out HL.out h0 h1).mono ?_); rintro ee w2 ⟨rfl, P2, f2⟩)
  have R2 := HRd.out.fr f2 hep heb
  have F2 := HFd.out.trans (.of_fr f2 hBm)
  have R4 := R2.set2 3
  have P4 := P2.setX R2 (by decide) hep heb 2 (.int .i64 3)
  have F4 := F2.trans (.setE (e := e) _ hBe 2 (.int .i64 3))
  obtain ⟨b0, b1, b2, b3, b4, b5, bf⟩ := R2.cells
  have z2 := bf 2
  have HR4 := Lib.hid R4
  have HP4 := Lib.hid P4
  have HF4 := Lib.hid F4
  clear R2 R4 P2 P4 F2 F4 f2 bf HRd HFd HPd a0 a1 a2 a3 a4 a5
  go_wp2_with fail
  go_end0
  exact ⟨rfl, HR4.out, HP4.out, HF4.out⟩
set_option maxRecDepth 100000 in
set_option maxHeartbeats 4000000 in
theorem ref3_pop_yes (hBm : B ≤ m) (hBe : B ≤ e) (hep : e ≠ p) (heb : e ≠ b) (hP : Pr p m b n D s L r w) (R : RefAt e false sl 3 got h nn w) (hu : U64 h) (hc : casA L adF h = true) (hn : U64 nn) (hL : L.length ≤ 999) (h0 : 0 ≤ r.st) (h1 : r.st < 1000000) :
    Calls Tryz.prog 52 #[.pointer (some ⟨e, 0, none⟩), .pointer (some ⟨b, 0, none⟩)] w fun ee w' => ee = .returned (.tuple #[]) ∧ RefAt e false (wSlot h) 0 true h nn w' ∧ Pr p m b n D s (casL L adF h (nextW h (wSlot nn))) (r.touch 3 adF (vals L adF) (vals (casL L adF h (nextW h (wSlot nn))) adF) true) w' ∧ Fx B p b q e w w' := by
  have hA : Below w.heap.size w (w.alloc (.cells #[.int .u8 0, .int .i64 0, .int .i64 0] 34)) := (Below.refl _ _).alloc (Nat.le_refl _) _
  obtain ⟨l0, l1, l2, lb⟩ := list_cells w
  have hBw : B ≤ w.heap.size := Nat.le_trans hBm hP.m_le
  have HF := Lib.hid (Fx.of_below (p := p) (b := b) (q := q) (e := e) hA hBw)
  have HP := Lib.hid (hP.below hA)
  have HR := Lib.hid (R.below hA)
  have HC := Lib.hid hc
  have hXe : w.heap.size ≠ e := by have := R.lt; omega
  have HL := Lib.hid hL
  have hlb : w.heap.size ≠ p ∧ w.heap.size ≠ b := by have := hP.lt; have := hP.pb; constructor <;> omega
  obtain ⟨hlp, hlb⟩ := hlb
  have HLB := Lib.hid lb
  obtain ⟨c0, c1, c2, c3, c4, c5, cf⟩ := HR.out.cells
  clear hP hc R hA hL lb cf
  go_enter Tryz.func52, Tryz.ntmps52
  go_wp2_with fail
  revert l0 l1 l2 HF HP HR HLB c0 c1 c2 c3 c4 c5
  generalize w.alloc (.cells #[.int .u8 0, .int .i64 0, .int .i64 0] 34) = wA
  intro l0 l1 l2 HF HP HR HLB c0 c1 c2 c3 c4 c5
  generalize w.heap.size = X at *
  ((with_reducible refine (asHead10_any h wA hu).mono ?_); rintro ee w1 ⟨rfl, rfl⟩)
  have z2 := (HR.out.cells).2.2.2.2.2.2 2
  have HR1 := Lib.hid (HR.out.set2 1)
  have HP1 := Lib.hid (HP.out.setX HR.out (by decide) hep heb 2 (.int .i64 1))
  have HF1 := Lib.hid (HF.out.trans (.setE (e := e) _ hBe 2 (.int .i64 1)))
  have HX1 := Lib.hid ((Below.heap_setCell w1 ⟨e, 2, none⟩ (.int .i64 1) X hXe).trans HLB.out)
  have htw := tag_wrap h
  go_wp2_with fail
  ((with_reducible refine (asHead10_any nn _ hn).mono ?_); rintro ee w1 ⟨rfl, rfl⟩)
  go_wp2_with fail
  revert HR1 HP1 HF1 HX1
  generalize w1.setCell ⟨e, 2, none⟩ (.int .i64 1) = w5
  intro HR1 HP1 HF1 HX1
  have HB := Lib.hid (Below.refl w5.heap.size w5).drew
  have HRd := Lib.hid (HR1.out.below HB.out)
  have HPd := Lib.hid (HP1.out.below HB.out)
  have HFd := Lib.hid (HF1.out.trans (.of_below HB.out (Nat.le_trans hBe (Nat.le_of_lt HR1.out.lt))))
  have HXd := Lib.hid (show w5.drew.heap[X]? = some (.cells #[.int .u8 0, .int .i64 0, .int .i64 0] 34 (0, 0)) from HX1.out)
  refine wp_region_still_tail 10 (by kernel_rfl) (by kernel_rfl) ?_
  change wpStill _ _ w5.drew (fun a' => wpList _ _ _ _ a' w5.drew) _ _
  clear HR HP HF HB HR1 HP1 HF1 HX1 z2
  revert HRd HPd HFd HXd
  generalize w5.drew = wd
  intro HRd HPd HFd HXd
  obtain ⟨a0, a1, a2, a3, a4, a5, af⟩ := HRd.out.cells
  have k0 := Joins.cell_of_block HXd.out 0
  have k1 := Joins.cell_of_block HXd.out 1
  have k2 := Joins.cell_of_block HXd.out 2
  simp only [List.getElem?_toArray, List.getElem?_cons_zero, List.getElem?_cons_succ] at k0 k1 k2
  clear l0 l1 l2 c0 c1 c2 c3 c4 c5 af
  simp only [List.take_succ_cons, List.take_zero, List.drop_succ_cons, List.drop_zero]
  iterate 9 still_step
  still_call (head16_any (wSlot nn) (fld h 16 48 + 1) wd (tag_u64 h))
  refine wpStill_nil ?_
  go_wp2_with fail
  ((with_reducible refine (cas_rF (v := headW (wSlot nn) (fld h 16 48 + 1)) HC.out HPd.out HL.out h0 h1).mono ?_); rintro ee w2 ⟨rfl, P2, f2⟩)
  have R2 := HRd.out.fr f2 hep heb
  have F2 := HFd.out.trans (.of_fr f2 hBm)
  have R3 := R2.set2 0
  have P3 := P2.setX R2 (by decide) hep heb 2 (.int .i64 0)
  have F3 := F2.trans (.setE (e := e) _ hBe 2 (.int .i64 0))
  have R5 := R3.set1 (wSlot h)
  have P5 := P3.setX R3 (by decide) hep heb 1 (.int .i64 (wSlot h))
  have F5 := F3.trans (.setE (e := e) _ hBe 1 (.int .i64 (wSlot h)))
  have R4 := R5.set3 true
  have P4 := P5.setX R5 (by decide) hep heb 3 (.bool true)
  have F4 := F5.trans (.setE (e := e) _ hBe 3 (.bool true))
  obtain ⟨b0, b1, b2, b3, b4, b5, bf⟩ := R2.cells
  have z2 := bf 2
  obtain ⟨d0, d1, d2, d3, d4, d5, df⟩ := R3.cells
  have y1 := df 1
  obtain ⟨e0, e1, e2, e3, e4, e5, ef⟩ := R5.cells
  have x3 := ef 3
  have HR4 := Lib.hid R4
  have HP4 := Lib.hid P4
  have HF4 := Lib.hid F4
  clear R2 R3 R5 R4 P2 P3 P5 P4 F2 F3 F5 F4 f2 bf df ef HRd HFd HPd a0 a1 a2 a3 a4 a5 k0 k1 k2 htw HXd
  go_wp2_with fail
  go_end0
  exact ⟨rfl, HR4.out, HP4.out, HF4.out⟩
set_option maxRecDepth 100000 in
set_option maxHeartbeats 4000000 in
theorem ref3_pop_no (hBm : B ≤ m) (hBe : B ≤ e) (hep : e ≠ p) (heb : e ≠ b) (hP : Pr p m b n D s L r w) (R : RefAt e false sl 3 got h nn w) (hu : U64 h) (hc : casA L adF h = false) (hn : U64 nn) (hL : L.length ≤ 999) (h0 : 0 ≤ r.st) (h1 : r.st < 1000000) :
    Calls Tryz.prog 52 #[.pointer (some ⟨e, 0, none⟩), .pointer (some ⟨b, 0, none⟩)] w fun ee w' => ee = .returned (.tuple #[]) ∧ RefAt e false sl 1 got h nn w' ∧ Pr p m b n D s (casL L adF h (nextW h (wSlot nn))) (r.touch 3 adF (vals L adF) (vals (casL L adF h (nextW h (wSlot nn))) adF) false) w' ∧ Fx B p b q e w w' := by
  have hA : Below w.heap.size w (w.alloc (.cells #[.int .u8 0, .int .i64 0, .int .i64 0] 34)) := (Below.refl _ _).alloc (Nat.le_refl _) _
  obtain ⟨l0, l1, l2, lb⟩ := list_cells w
  have hBw : B ≤ w.heap.size := Nat.le_trans hBm hP.m_le
  have HF := Lib.hid (Fx.of_below (p := p) (b := b) (q := q) (e := e) hA hBw)
  have HP := Lib.hid (hP.below hA)
  have HR := Lib.hid (R.below hA)
  have HC := Lib.hid hc
  have hXe : w.heap.size ≠ e := by have := R.lt; omega
  have HL := Lib.hid hL
  have hlb : w.heap.size ≠ p ∧ w.heap.size ≠ b := by have := hP.lt; have := hP.pb; constructor <;> omega
  obtain ⟨hlp, hlb⟩ := hlb
  have HLB := Lib.hid lb
  obtain ⟨c0, c1, c2, c3, c4, c5, cf⟩ := HR.out.cells
  clear hP hc R hA hL lb cf
  go_enter Tryz.func52, Tryz.ntmps52
  go_wp2_with fail
  revert l0 l1 l2 HF HP HR HLB c0 c1 c2 c3 c4 c5
  generalize w.alloc (.cells #[.int .u8 0, .int .i64 0, .int .i64 0] 34) = wA
  intro l0 l1 l2 HF HP HR HLB c0 c1 c2 c3 c4 c5
  generalize w.heap.size = X at *
  ((with_reducible refine (asHead10_any h wA hu).mono ?_); rintro ee w1 ⟨rfl, rfl⟩)
  have z2 := (HR.out.cells).2.2.2.2.2.2 2
  have HR1 := Lib.hid (HR.out.set2 1)
  have HP1 := Lib.hid (HP.out.setX HR.out (by decide) hep heb 2 (.int .i64 1))
  have HF1 := Lib.hid (HF.out.trans (.setE (e := e) _ hBe 2 (.int .i64 1)))
  have HX1 := Lib.hid ((Below.heap_setCell w1 ⟨e, 2, none⟩ (.int .i64 1) X hXe).trans HLB.out)
  have htw := tag_wrap h
  go_wp2_with fail
  ((with_reducible refine (asHead10_any nn _ hn).mono ?_); rintro ee w1 ⟨rfl, rfl⟩)
  go_wp2_with fail
  revert HR1 HP1 HF1 HX1
  generalize w1.setCell ⟨e, 2, none⟩ (.int .i64 1) = w5
  intro HR1 HP1 HF1 HX1
  have HB := Lib.hid (Below.refl w5.heap.size w5).drew
  have HRd := Lib.hid (HR1.out.below HB.out)
  have HPd := Lib.hid (HP1.out.below HB.out)
  have HFd := Lib.hid (HF1.out.trans (.of_below HB.out (Nat.le_trans hBe (Nat.le_of_lt HR1.out.lt))))
  have HXd := Lib.hid (show w5.drew.heap[X]? = some (.cells #[.int .u8 0, .int .i64 0, .int .i64 0] 34 (0, 0)) from HX1.out)
  refine wp_region_still_tail 10 (by kernel_rfl) (by kernel_rfl) ?_
  change wpStill _ _ w5.drew (fun a' => wpList _ _ _ _ a' w5.drew) _ _
  clear HR HP HF HB HR1 HP1 HF1 HX1 z2
  revert HRd HPd HFd HXd
  generalize w5.drew = wd
  intro HRd HPd HFd HXd
  obtain ⟨a0, a1, a2, a3, a4, a5, af⟩ := HRd.out.cells
  have k0 := Joins.cell_of_block HXd.out 0
  have k1 := Joins.cell_of_block HXd.out 1
  have k2 := Joins.cell_of_block HXd.out 2
  simp only [List.getElem?_toArray, List.getElem?_cons_zero, List.getElem?_cons_succ] at k0 k1 k2
  clear l0 l1 l2 c0 c1 c2 c3 c4 c5 af
  simp only [List.take_succ_cons, List.take_zero, List.drop_succ_cons, List.drop_zero]
  iterate 9 still_step
  still_call (head16_any (wSlot nn) (fld h 16 48 + 1) wd (tag_u64 h))
  refine wpStill_nil ?_
  go_wp2_with fail
  ((with_reducible refine (cas_rF (v := headW (wSlot nn) (fld h 16 48 + 1)) HC.out HPd.out HL.out h0 h1).mono ?_); rintro ee w2 ⟨rfl, P2, f2⟩)
  have R2 := HRd.out.fr f2 hep heb
  have F2 := HFd.out.trans (.of_fr f2 hBm)
  have HR4 := Lib.hid R2
  have HP4 := Lib.hid P2
  have HF4 := Lib.hid F2
  clear R2 P2 F2 f2 HRd HFd HPd a0 a1 a2 a3 a4 a5 k0 k1 k2 htw HXd
  go_wp2_with fail
  go_end0
  exact ⟨rfl, HR4.out, HP4.out, HF4.out⟩
set_option maxRecDepth 100000 in
set_option maxHeartbeats 4000000 in
theorem ref3_push_yes (hBm : B ≤ m) (hBe : B ≤ e) (hep : e ≠ p) (heb : e ≠ b) (hP : Pr p m b n D s L r w) (R : RefAt e true sl 3 got h nn w) (hu : U64 h) (hc : casA L adF h = true) (hL : L.length ≤ 999) (h0 : 0 ≤ r.st) (h1 : r.st < 1000000) :
    Calls Tryz.prog 52 #[.pointer (some ⟨e, 0, none⟩), .pointer (some ⟨b, 0, none⟩)] w fun ee w' => ee = .returned (.tuple #[]) ∧ RefAt e true sl 0 got h nn w' ∧ Pr p m b n D s (casL L adF h (nextW h sl)) (r.touch 3 adF (vals L adF) (vals (casL L adF h (nextW h sl)) adF) true) w' ∧ Fx B p b q e w w' := by
  have hA : Below w.heap.size w (w.alloc (.cells #[.int .u8 0, .int .i64 0, .int .i64 0] 34)) := (Below.refl _ _).alloc (Nat.le_refl _) _
  obtain ⟨l0, l1, l2, lb⟩ := list_cells w
  have hBw : B ≤ w.heap.size := Nat.le_trans hBm hP.m_le
  have HF := Lib.hid (Fx.of_below (p := p) (b := b) (q := q) (e := e) hA hBw)
  have HP := Lib.hid (hP.below hA)
  have HR := Lib.hid (R.below hA)
  have HC := Lib.hid hc
  have hXe : w.heap.size ≠ e := by have := R.lt; omega
  have HL := Lib.hid hL
  have hlb : w.heap.size ≠ p ∧ w.heap.size ≠ b := by have := hP.lt; have := hP.pb; constructor <;> omega
  obtain ⟨hlp, hlb⟩ := hlb
  have HLB := Lib.hid lb
  obtain ⟨c0, c1, c2, c3, c4, c5, cf⟩ := HR.out.cells
  clear hP hc R hA hL lb cf
  go_enter Tryz.func52, Tryz.ntmps52
  go_wp2_with fail
  revert l0 l1 l2 HF HP HR HLB c0 c1 c2 c3 c4 c5
  generalize w.alloc (.cells #[.int .u8 0, .int .i64 0, .int .i64 0] 34) = wA
  intro l0 l1 l2 HF HP HR HLB c0 c1 c2 c3 c4 c5
  generalize w.heap.size = X at *
  ((with_reducible refine (asHead10_any h wA hu).mono ?_); rintro ee w1 ⟨rfl, rfl⟩)
  have z2 := (HR.out.cells).2.2.2.2.2.2 2
  have HR1 := Lib.hid (HR.out.set2 1)
  have HP1 := Lib.hid (HP.out.setX HR.out (by decide) hep heb 2 (.int .i64 1))
  have HF1 := Lib.hid (HF.out.trans (.setE (e := e) _ hBe 2 (.int .i64 1)))
  have HX1 := Lib.hid ((Below.heap_setCell w1 ⟨e, 2, none⟩ (.int .i64 1) X hXe).trans HLB.out)
  have htw := tag_wrap h
  go_wp2_with fail
  revert HR1 HP1 HF1 HX1
  generalize w1.setCell ⟨e, 2, none⟩ (.int .i64 1) = w5
  intro HR1 HP1 HF1 HX1
  have HB := Lib.hid (Below.refl w5.heap.size w5).drew
  have HRd := Lib.hid (HR1.out.below HB.out)
  have HPd := Lib.hid (HP1.out.below HB.out)
  have HFd := Lib.hid (HF1.out.trans (.of_below HB.out (Nat.le_trans hBe (Nat.le_of_lt HR1.out.lt))))
  have HXd := Lib.hid (show w5.drew.heap[X]? = some (.cells #[.int .u8 0, .int .i64 0, .int .i64 0] 34 (0, 0)) from HX1.out)
  refine wp_region_still_tail 10 (by kernel_rfl) (by kernel_rfl) ?_
  change wpStill _ _ w5.drew (fun a' => wpList _ _ _ _ a' w5.drew) _ _
  clear HR HP HF HB HR1 HP1 HF1 HX1 z2
  revert HRd HPd HFd HXd
  generalize w5.drew = wd
  intro HRd HPd HFd HXd
  obtain ⟨a0, a1, a2, a3, a4, a5, af⟩ := HRd.out.cells
  have k0 := Joins.cell_of_block HXd.out 0
  have k1 := Joins.cell_of_block HXd.out 1
  have k2 := Joins.cell_of_block HXd.out 2
  simp only [List.getElem?_toArray, List.getElem?_cons_zero, List.getElem?_cons_succ] at k0 k1 k2
  clear l0 l1 l2 c0 c1 c2 c3 c4 c5 af
  simp only [List.take_succ_cons, List.take_zero, List.drop_succ_cons, List.drop_zero]
  iterate 9 still_step
  still_call (head16_any sl (fld h 16 48 + 1) wd (tag_u64 h))
  refine wpStill_nil ?_
  go_wp2_with fail
  ((with_reducible refine (cas_rF (v := headW sl (fld h 16 48 + 1)) HC.out HPd.out HL.out h0 h1).mono ?_); rintro ee w2 ⟨rfl, P2, f2⟩)
  have R2 := HRd.out.fr f2 hep heb
  have F2 := HFd.out.trans (.of_fr f2 hBm)
  have R4 := R2.set2 0
  have P4 := P2.setX R2 (by decide) hep heb 2 (.int .i64 0)
  have F4 := F2.trans (.setE (e := e) _ hBe 2 (.int .i64 0))
  obtain ⟨b0, b1, b2, b3, b4, b5, bf⟩ := R2.cells
  have z2 := bf 2
  obtain ⟨d0, d1, d2, d3, d4, d5, df⟩ := R4.cells
  have HR4 := Lib.hid R4
  have HP4 := Lib.hid P4
  have HF4 := Lib.hid F4
  clear R2 R4 P2 P4 F2 F4 f2 bf df HRd HFd HPd a0 a1 a2 a3 a4 a5 k0 k1 k2 htw HXd
  go_wp2_with fail
  go_end0
  exact ⟨rfl, HR4.out, HP4.out, HF4.out⟩
set_option maxRecDepth 100000 in
set_option maxHeartbeats 4000000 in
theorem ref3_push_no (hBm : B ≤ m) (hBe : B ≤ e) (hep : e ≠ p) (heb : e ≠ b) (hP : Pr p m b n D s L r w) (R : RefAt e true sl 3 got h nn w) (hu : U64 h) (hc : casA L adF h = false) (hL : L.length ≤ 999) (h0 : 0 ≤ r.st) (h1 : r.st < 1000000) :
    Calls Tryz.prog 52 #[.pointer (some ⟨e, 0, none⟩), .pointer (some ⟨b, 0, none⟩)] w fun ee w' => ee = .returned (.tuple #[]) ∧ RefAt e true sl 1 got h nn w' ∧ Pr p m b n D s (casL L adF h (nextW h sl)) (r.touch 3 adF (vals L adF) (vals (casL L adF h (nextW h sl)) adF) false) w' ∧ Fx B p b q e w w' := by
  have hA : Below w.heap.size w (w.alloc (.cells #[.int .u8 0, .int .i64 0, .int .i64 0] 34)) := (Below.refl _ _).alloc (Nat.le_refl _) _
  obtain ⟨l0, l1, l2, lb⟩ := list_cells w
  have hBw : B ≤ w.heap.size := Nat.le_trans hBm hP.m_le
  have HF := Lib.hid (Fx.of_below (p := p) (b := b) (q := q) (e := e) hA hBw)
  have HP := Lib.hid (hP.below hA)
  have HR := Lib.hid (R.below hA)
  have HC := Lib.hid hc
  have hXe : w.heap.size ≠ e := by have := R.lt; omega
  have HL := Lib.hid hL
  have hlb : w.heap.size ≠ p ∧ w.heap.size ≠ b := by have := hP.lt; have := hP.pb; constructor <;> omega
  obtain ⟨hlp, hlb⟩ := hlb
  have HLB := Lib.hid lb
  obtain ⟨c0, c1, c2, c3, c4, c5, cf⟩ := HR.out.cells
  clear hP hc R hA hL lb cf
  go_enter Tryz.func52, Tryz.ntmps52
  go_wp2_with fail
  revert l0 l1 l2 HF HP HR HLB c0 c1 c2 c3 c4 c5
  generalize w.alloc (.cells #[.int .u8 0, .int .i64 0, .int .i64 0] 34) = wA
  intro l0 l1 l2 HF HP HR HLB c0 c1 c2 c3 c4 c5
  generalize w.heap.size = X at *
  ((with_reducible refine (asHead10_any h wA hu).mono ?_); rintro ee w1 ⟨rfl, rfl⟩)
  have z2 := (HR.out.cells).2.2.2.2.2.2 2
  have HR1 := Lib.hid (HR.out.set2 1)
  have HP1 := Lib.hid (HP.out.setX HR.out (by decide) hep heb 2 (.int .i64 1))
  have HF1 := Lib.hid (HF.out.trans (.setE (e := e) _ hBe 2 (.int .i64 1)))
  have HX1 := Lib.hid ((Below.heap_setCell w1 ⟨e, 2, none⟩ (.int .i64 1) X hXe).trans HLB.out)
  have htw := tag_wrap h
  go_wp2_with fail
  revert HR1 HP1 HF1 HX1
  generalize w1.setCell ⟨e, 2, none⟩ (.int .i64 1) = w5
  intro HR1 HP1 HF1 HX1
  have HB := Lib.hid (Below.refl w5.heap.size w5).drew
  have HRd := Lib.hid (HR1.out.below HB.out)
  have HPd := Lib.hid (HP1.out.below HB.out)
  have HFd := Lib.hid (HF1.out.trans (.of_below HB.out (Nat.le_trans hBe (Nat.le_of_lt HR1.out.lt))))
  have HXd := Lib.hid (show w5.drew.heap[X]? = some (.cells #[.int .u8 0, .int .i64 0, .int .i64 0] 34 (0, 0)) from HX1.out)
  refine wp_region_still_tail 10 (by kernel_rfl) (by kernel_rfl) ?_
  change wpStill _ _ w5.drew (fun a' => wpList _ _ _ _ a' w5.drew) _ _
  clear HR HP HF HB HR1 HP1 HF1 HX1 z2
  revert HRd HPd HFd HXd
  generalize w5.drew = wd
  intro HRd HPd HFd HXd
  obtain ⟨a0, a1, a2, a3, a4, a5, af⟩ := HRd.out.cells
  have k0 := Joins.cell_of_block HXd.out 0
  have k1 := Joins.cell_of_block HXd.out 1
  have k2 := Joins.cell_of_block HXd.out 2
  simp only [List.getElem?_toArray, List.getElem?_cons_zero, List.getElem?_cons_succ] at k0 k1 k2
  clear l0 l1 l2 c0 c1 c2 c3 c4 c5 af
  simp only [List.take_succ_cons, List.take_zero, List.drop_succ_cons, List.drop_zero]
  iterate 9 still_step
  still_call (head16_any sl (fld h 16 48 + 1) wd (tag_u64 h))
  refine wpStill_nil ?_
  go_wp2_with fail
  ((with_reducible refine (cas_rF (v := headW sl (fld h 16 48 + 1)) HC.out HPd.out HL.out h0 h1).mono ?_); rintro ee w2 ⟨rfl, P2, f2⟩)
  have R2 := HRd.out.fr f2 hep heb
  have F2 := HFd.out.trans (.of_fr f2 hBm)
  have HR4 := Lib.hid R2
  have HP4 := Lib.hid P2
  have HF4 := Lib.hid F2
  clear R2 P2 F2 f2 HRd HFd HPd a0 a1 a2 a3 a4 a5 k0 k1 k2 htw HXd
  go_wp2_with fail
  go_end0
  exact ⟨rfl, HR4.out, HP4.out, HF4.out⟩
end
end Go.Proofs.YtlcbinckbkdgdaaGreatDoor
