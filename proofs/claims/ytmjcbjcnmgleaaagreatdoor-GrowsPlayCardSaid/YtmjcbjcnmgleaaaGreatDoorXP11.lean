/-
  The document's operation on the list of free slots: what each of its lines does; condition: both memories lie as they say, the operation as it says.
-/
import Derived.Test.YtmjcbjcnmgleaaaGreatDoorXP10
namespace Go.Proofs.YtmjcbjcnmgleaaaGreatDoor
open Go.RowKit Go.Maps
section
variable {B p m b n q e : Nat} {psh got : Bool} {sl ln h nn : Int} {D : DataW Unit} {s r : Acc8} {L : List (Ad × Int)} {w w' : World}
theorem list_cells (w : World) : (w.alloc (.cells #[.int .u8 0, .int .i64 0, .int .i64 0] 33)).cell? ⟨w.heap.size, 0, none⟩ = some (.int .u8 0) ∧ (w.alloc (.cells #[.int .u8 0, .int .i64 0, .int .i64 0] 33)).cell? ⟨w.heap.size, 1, none⟩ = some (.int .i64 0) ∧ (w.alloc (.cells #[.int .u8 0, .int .i64 0, .int .i64 0] 33)).cell? ⟨w.heap.size, 2, none⟩ = some (.int .i64 0) ∧ (w.alloc (.cells #[.int .u8 0, .int .i64 0, .int .i64 0] 33)).heap[w.heap.size]? = some (.cells #[.int .u8 0, .int .i64 0, .int .i64 0] 33 (0, 0)) := by
  have k0 := World.alloc_heap_new w (.cells #[.int .u8 0, .int .i64 0, .int .i64 0] 33)
  have c0 := Joins.cell_of_block k0 0
  have c1 := Joins.cell_of_block k0 1
  have c2 := Joins.cell_of_block k0 2
  simp only [List.getElem?_toArray, List.getElem?_cons_zero, List.getElem?_cons_succ] at c0 c1 c2
  exact ⟨c0, c1, c2, k0⟩
set_option maxRecDepth 100000 in
set_option maxHeartbeats 4000000 in
theorem ref1_to (hBm : B ≤ m) (hBe : B ≤ e) (hep : e ≠ p) (heb : e ≠ b) (hP : Pr p m b n D s L r w) (hr : Rel D L) (R : RefAt e psh sl 1 got h nn w) (hu : U64 h) {v ln' : Int} (hv : vals L adF = v) (hl : ln' = if wSlot v < 0 ∧ psh = false then 0 else 2) (hL : L.length ≤ 4999) (h0 : 0 ≤ r.st) (h1 : r.st < 1000000) :
    Calls Tryz.prog 102 #[.pointer (some ⟨e, 0, none⟩), .pointer (some ⟨b, 0, none⟩)] w fun ee w' => ee = .returned (.tuple #[]) ∧ RefAt e psh sl ln' got v nn w' ∧ Pr p m b n D s L (r.touch 1 adF v v false) w' ∧ Fx B p b q e w w' := by
  have hA : Below w.heap.size w (w.alloc (.cells #[.int .u8 0, .int .i64 0, .int .i64 0] 33)) := (Below.refl _ _).alloc (Nat.le_refl _) _
  obtain ⟨l0, l1, l2, lb⟩ := list_cells w
  have hBw : B ≤ w.heap.size := Nat.le_trans hBm hP.m_le
  have HF := Lib.hid (Fx.of_below (p := p) (b := b) (q := q) (e := e) hA hBw)
  have HP := Lib.hid (hP.below hA)
  have HR := Lib.hid (R.below hA)
  have HU := Lib.hid (hP.val_u64 hr adF)
  have HV := Lib.hid hv
  have HN := Lib.hid hl
  have HL := Lib.hid hL
  have hlb : w.heap.size ≠ p ∧ w.heap.size ≠ b := by have := hP.lt; have := hP.pb; constructor <;> omega
  obtain ⟨hlp, hlb⟩ := hlb
  have HLB := Lib.hid lb
  obtain ⟨c0, c1, c2, c3, c4, c5, cf⟩ := HR.out.cells
  clear hP hr hv hl R hA hL lb cf
  go_enter Tryz.func102, Tryz.ntmps102
  go_wp2_with fail
  revert l0 l1 l2 HF HP HR HLB c0 c1 c2 c3 c4 c5
  generalize w.alloc (.cells #[.int .u8 0, .int .i64 0, .int .i64 0] 33) = wA
  intro l0 l1 l2 HF HP HR HLB c0 c1 c2 c3 c4 c5
  generalize w.heap.size = X at *
  ((with_reducible refine (asHead10_any h wA hu).mono ?_); rintro ee w1 ⟨rfl, rfl⟩)
  go_wp2_with fail
  ((with_reducible refine (load_rF HP.out HL.out h0 h1).mono ?_); rintro ee w2 ⟨rfl, P2, f2⟩)
  have R2 := HR.out.fr f2 hep heb
  have F2 := HF.out.trans (.of_fr f2 hBm)
  have hu2 := HU.out
  rw [HV.out] at P2 hu2
  rw [HV.out]
  have HU2 := Lib.hid hu2
  have R3 := R2.set4 v
  have P3 := P2.setX R2 (by decide) hep heb 4 (.int .u64 v)
  have F3 := F2.trans (.setE (e := e) w2 hBe 4 (.int .u64 v))
  have R4 := R3.set2 2
  have P4 := P3.setX R3 (by decide) hep heb 2 (.int .i64 2)
  have F4 := F3.trans (.setE (e := e) _ hBe 2 (.int .i64 2))
  have R5 := R4.set2 0
  have P5 := P4.setX R4 (by decide) hep heb 2 (.int .i64 0)
  have F5 := F4.trans (.setE (e := e) _ hBe 2 (.int .i64 0))
  obtain ⟨a0, a1, a2, a3, a4, a5, af⟩ := R2.cells
  have z4 := af 4
  obtain ⟨b0, b1, b2, b3, b4, b5, bf⟩ := R3.cells
  have z2 := bf 2
  obtain ⟨d0, d1, d2, d3, d4, d5, df⟩ := R4.cells
  have y2 := df 2
  have HR4 := Lib.hid R4
  have HP4 := Lib.hid P4
  have HF4 := Lib.hid F4
  have HR5 := Lib.hid R5
  have HP5 := Lib.hid P5
  have HF5 := Lib.hid F5
  clear R2 R3 R4 R5 P2 P3 P4 P5 F2 F3 F4 F5 f2 af bf df HR HF HP l0 l1 l2 c0 c1 c2 c3 c4 c5 hu2
  go_wp2_with fail
  ((with_reducible refine (asHead10_any v _ HU2.out).mono ?_); rintro ee w1 ⟨rfl, rfl⟩)
  by_cases hs : wSlot v < 0
  · have hps : psh = false ∨ psh = true := by cases psh <;> simp
    rcases hps with hps | hps
    · have HI := Lib.hid (show ln' = 0 from HN.out.trans (if_pos ⟨hs, hps⟩))
      rw [hps] at a0 b0 d0
      clear hps
      go_wp2_with fail
      go_end0
      exact ⟨rfl, by rw [HI.out]; exact HR5.out, HP5.out, HF5.out⟩
    · have HI := Lib.hid (show ln' = 2 from HN.out.trans (if_neg fun h => by rw [hps] at h; cases h.2))
      rw [hps] at a0 b0 d0
      clear hps
      go_wp2_with fail
      go_end0
      exact ⟨rfl, by rw [HI.out]; exact HR4.out, HP4.out, HF4.out⟩
  · have HI := Lib.hid (show ln' = 2 from HN.out.trans (if_neg fun h => hs h.1))
    have hs' : 0 ≤ wSlot v := by omega
    go_wp2_with fail
    go_end0
    exact ⟨rfl, by rw [HI.out]; exact HR4.out, HP4.out, HF4.out⟩
set_option maxRecDepth 100000 in
set_option maxHeartbeats 4000000 in
theorem ref2_pop (hBm : B ≤ m) (hBe : B ≤ e) (hep : e ≠ p) (heb : e ≠ b) (hP : Pr p m b n D s L r w) (R : RefAt e false sl 2 got h nn w) (hu : U64 h) {v : Int} (hv : vals L (adL (wSlot h) (i64w_slot h)) = v) (hL : L.length ≤ 4999) (h0 : 0 ≤ r.st) (h1 : r.st < 1000000) :
    Calls Tryz.prog 102 #[.pointer (some ⟨e, 0, none⟩), .pointer (some ⟨b, 0, none⟩)] w fun ee w' => ee = .returned (.tuple #[]) ∧ RefAt e false sl 3 got h v w' ∧ Pr p m b n D s L (r.touch 1 (adL (wSlot h) (i64w_slot h)) v v false) w' ∧ Fx B p b q e w w' := by
  have hA : Below w.heap.size w (w.alloc (.cells #[.int .u8 0, .int .i64 0, .int .i64 0] 33)) := (Below.refl _ _).alloc (Nat.le_refl _) _
  obtain ⟨l0, l1, l2, lb⟩ := list_cells w
  have hBw : B ≤ w.heap.size := Nat.le_trans hBm hP.m_le
  have HF := Lib.hid (Fx.of_below (p := p) (b := b) (q := q) (e := e) hA hBw)
  have HP := Lib.hid (hP.below hA)
  have HR := Lib.hid (R.below hA)
  have HV := Lib.hid hv
  have HL := Lib.hid hL
  have hlb : w.heap.size ≠ p ∧ w.heap.size ≠ b := by have := hP.lt; have := hP.pb; constructor <;> omega
  obtain ⟨hlp, hlb⟩ := hlb
  have HLB := Lib.hid lb
  obtain ⟨c0, c1, c2, c3, c4, c5, cf⟩ := HR.out.cells
  clear hP hv R hA hL lb cf
  go_enter Tryz.func102, Tryz.ntmps102
  go_wp2_with fail
  revert l0 l1 l2 HF HP HR HLB c0 c1 c2 c3 c4 c5
  generalize w.alloc (.cells #[.int .u8 0, .int .i64 0, .int .i64 0] 33) = wA
  intro l0 l1 l2 HF HP HR HLB c0 c1 c2 c3 c4 c5
  generalize w.heap.size = X at *
  ((with_reducible refine (asHead10_any h wA hu).mono ?_); rintro ee w1 ⟨rfl, rfl⟩)
  go_wp2_with fail
  ((with_reducible refine (load_rL (wSlot h) (i64w_slot h) HP.out HL.out h0 h1).mono ?_); rintro ee w2 ⟨rfl, P2, f2⟩)
  have R2 := HR.out.fr f2 hep heb
  have F2 := HF.out.trans (.of_fr f2 hBm)
  rw [HV.out] at P2
  rw [HV.out]
  have R3 := R2.set5 v
  have P3 := P2.setX R2 (by decide) hep heb 5 (.int .u64 v)
  have F3 := F2.trans (.setE (e := e) w2 hBe 5 (.int .u64 v))
  have R4 := R3.set2 3
  have P4 := P3.setX R3 (by decide) hep heb 2 (.int .i64 3)
  have F4 := F3.trans (.setE (e := e) _ hBe 2 (.int .i64 3))
  obtain ⟨a0, a1, a2, a3, a4, a5, af⟩ := R2.cells
  have z5 := af 5
  obtain ⟨b0, b1, b2, b3, b4, b5, bf⟩ := R3.cells
  have z2 := bf 2
  have HR4 := Lib.hid R4
  have HP4 := Lib.hid P4
  have HF4 := Lib.hid F4
  clear R2 R3 R4 P2 P3 P4 F2 F3 F4 f2 af bf HR HF HP l0 l1 l2 c0 c1 c2 c3 c4 c5
  go_wp2_with fail
  go_end0
  exact ⟨rfl, HR4.out, HP4.out, HF4.out⟩
set_option maxRecDepth 100000 in
set_option maxHeartbeats 4000000 in
theorem ref2_push (hBm : B ≤ m) (hBe : B ≤ e) (hep : e ≠ p) (heb : e ≠ b) (hP : Pr p m b n D s L r w) (R : RefAt e true sl 2 got h nn w) (hu : U64 h) (hsl : I64w sl) (hL : L.length ≤ 4999) (h0 : 0 ≤ r.st) (h1 : r.st < 1000000) :
    Calls Tryz.prog 102 #[.pointer (some ⟨e, 0, none⟩), .pointer (some ⟨b, 0, none⟩)] w fun ee w' => ee = .returned (.tuple #[]) ∧ RefAt e true sl 3 got h nn w' ∧ Pr p m b n D s (storeA L (adL sl hsl) (headW (wSlot h) 0)) (r.touch 2 (adL sl hsl) (vals L (adL sl hsl)) (vals (storeA L (adL sl hsl) (headW (wSlot h) 0)) (adL sl hsl)) false) w' ∧ Fx B p b q e w w' := by
  have hA : Below w.heap.size w (w.alloc (.cells #[.int .u8 0, .int .i64 0, .int .i64 0] 33)) := (Below.refl _ _).alloc (Nat.le_refl _) _
  obtain ⟨l0, l1, l2, lb⟩ := list_cells w
  have hBw : B ≤ w.heap.size := Nat.le_trans hBm hP.m_le
  have HF := Lib.hid (Fx.of_below (p := p) (b := b) (q := q) (e := e) hA hBw)
  have HP := Lib.hid (hP.below hA)
  have HR := Lib.hid (R.below hA)
  have HL := Lib.hid hL
  have hlb : w.heap.size ≠ p ∧ w.heap.size ≠ b := by have := hP.lt; have := hP.pb; constructor <;> omega
  obtain ⟨hlp, hlb⟩ := hlb
  have HLB := Lib.hid lb
  obtain ⟨c0, c1, c2, c3, c4, c5, cf⟩ := HR.out.cells
  clear hP R hA hL lb cf
  go_enter Tryz.func102, Tryz.ntmps102
  go_wp2_with fail
  revert l0 l1 l2 HF HP HR HLB c0 c1 c2 c3 c4 c5
  generalize w.alloc (.cells #[.int .u8 0, .int .i64 0, .int .i64 0] 33) = wA
  intro l0 l1 l2 HF HP HR HLB c0 c1 c2 c3 c4 c5
  generalize w.heap.size = X at *
  ((with_reducible refine (asHead10_any h wA hu).mono ?_); rintro ee w1 ⟨rfl, rfl⟩)
  go_wp2_with fail
  have HB := Lib.hid (Below.refl w1.heap.size w1).drew
  have HRd := Lib.hid (HR.out.below HB.out)
  have HPd := Lib.hid (HP.out.below HB.out)
  have HFd := Lib.hid (HF.out.trans (.of_below HB.out (Nat.le_trans hBe (Nat.le_of_lt HR.out.lt))))
  refine wp_region_still_tail 8 (by kernel_rfl) (by kernel_rfl) ?_
  change wpStill _ _ w1.drew (fun a' => wpList _ _ _ _ a' w1.drew) _ _
  clear HR HP HF HB
  revert HRd HPd HFd
  generalize w1.drew = wd
  intro HRd HPd HFd
  obtain ⟨a0, a1, a2, a3, a4, a5, af⟩ := HRd.out.cells
  clear l0 l1 l2 c0 c1 c2 c3 c4 c5 af
  simp only [List.take_succ_cons, List.take_zero, List.drop_succ_cons, List.drop_zero]
  iterate 7 still_step
  still_call (head16_any (wSlot h) 0 wd u64_0)
  refine wpStill_nil ?_
  go_wp2_with fail
  ((with_reducible refine (store_rL sl hsl (headW (wSlot h) 0) HPd.out HL.out h0 h1).mono ?_); rintro ee w2 ⟨rfl, P2, f2⟩)
  have R2 := HRd.out.fr f2 hep heb
  have F2 := HFd.out.trans (.of_fr f2 hBm)
  have R4 := R2.set2 3
  have P4 := P2.setX R2 (by decide) hep heb 2 (.int .i64 3)
  have F4 := F2.trans (.setE (e := e) _ hBe 2 (.int .i64 3))
  obtain ⟨b0, b1, b2, b3, b4, b5, bf⟩ := R2.cells
  have z2 := bf 2
  have HR4 := Lib.hid R4
  have HP4 := Lib.hid P4
  have HF4 := Lib.hid F4
  clear R2 R4 P2 P4 F2 F4 f2 bf HRd HFd HPd a0 a1 a2 a3 a4 a5
  go_wp2_with fail
  go_end0
  exact ⟨rfl, HR4.out, HP4.out, HF4.out⟩
set_option maxRecDepth 100000 in
set_option maxHeartbeats 4000000 in
theorem ref3_pop_yes (hBm : B ≤ m) (hBe : B ≤ e) (hep : e ≠ p) (heb : e ≠ b) (hP : Pr p m b n D s L r w) (R : RefAt e false sl 3 got h nn w) (hu : U64 h) (hc : casA L adF h = true) (hn : U64 nn) (hL : L.length ≤ 4999) (h0 : 0 ≤ r.st) (h1 : r.st < 1000000) :
    Calls Tryz.prog 102 #[.pointer (some ⟨e, 0, none⟩), .pointer (some ⟨b, 0, none⟩)] w fun ee w' => ee = .returned (.tuple #[]) ∧ RefAt e false (wSlot h) 0 true h nn w' ∧ Pr p m b n D s (casL L adF h (nextW h (wSlot nn))) (r.touch 3 adF (vals L adF) (vals (casL L adF h (nextW h (wSlot nn))) adF) true) w' ∧ Fx B p b q e w w' := by
  have hA : Below w.heap.size w (w.alloc (.cells #[.int .u8 0, .int .i64 0, .int .i64 0] 33)) := (Below.refl _ _).alloc (Nat.le_refl _) _
  obtain ⟨l0, l1, l2, lb⟩ := list_cells w
  have hBw : B ≤ w.heap.size := Nat.le_trans hBm hP.m_le
  have HF := Lib.hid (Fx.of_below (p := p) (b := b) (q := q) (e := e) hA hBw)
  have HP := Lib.hid (hP.below hA)
  have HR := Lib.hid (R.below hA)
  have HC := Lib.hid hc
  have hXe : w.heap.size ≠ e := by have := R.lt; omega
  have HL := Lib.hid hL
  have hlb : w.heap.size ≠ p ∧ w.heap.size ≠ b := by have := hP.lt; have := hP.pb; constructor <;> omega
  obtain ⟨hlp, hlb⟩ := hlb
  have HLB := Lib.hid lb
  obtain ⟨c0, c1, c2, c3, c4, c5, cf⟩ := HR.out.cells
  clear hP hc R hA hL lb cf
  go_enter Tryz.func102, Tryz.ntmps102
  go_wp2_with fail
  revert l0 l1 l2 HF HP HR HLB c0 c1 c2 c3 c4 c5
  generalize w.alloc (.cells #[.int .u8 0, .int .i64 0, .int .i64 0] 33) = wA
  intro l0 l1 l2 HF HP HR HLB c0 c1 c2 c3 c4 c5
  generalize w.heap.size = X at *
  ((with_reducible refine (asHead10_any h wA hu).mono ?_); rintro ee w1 ⟨rfl, rfl⟩)
  have z2 := (HR.out.cells).2.2.2.2.2.2 2
  have HR1 := Lib.hid (HR.out.set2 1)
  have HP1 := Lib.hid (HP.out.setX HR.out (by decide) hep heb 2 (.int .i64 1))
  have HF1 := Lib.hid (HF.out.trans (.setE (e := e) _ hBe 2 (.int .i64 1)))
  have HX1 := Lib.hid ((Below.heap_setCell w1 ⟨e, 2, none⟩ (.int .i64 1) X hXe).trans HLB.out)
  have htw := tag_wrap h
  go_wp2_with fail
  ((with_reducible refine (asHead10_any nn _ hn).mono ?_); rintro ee w1 ⟨rfl, rfl⟩)
  go_wp2_with fail
  revert HR1 HP1 HF1 HX1
  generalize w1.setCell ⟨e, 2, none⟩ (.int .i64 1) = w5
  intro HR1 HP1 HF1 HX1
  have HB := Lib.hid (Below.refl w5.heap.size w5).drew
  have HRd := Lib.hid (HR1.out.below HB.out)
  have HPd := Lib.hid (HP1.out.below HB.out)
  have HFd := Lib.hid (HF1.out.trans (.of_below HB.out (Nat.le_trans hBe (Nat.le_of_lt HR1.out.lt))))
  have HXd := Lib.hid (show w5.drew.heap[X]? = some (.cells #[.int .u8 0, .int .i64 0, .int .i64 0] 33 (0, 0)) from HX1.out)
  refine wp_region_still_tail 10 (by kernel_rfl) (by kernel_rfl) ?_
  change wpStill _ _ w5.drew (fun a' => wpList _ _ _ _ a' w5.drew) _ _
  clear HR HP HF HB HR1 HP1 HF1 HX1 z2
  revert HRd HPd HFd HXd
  generalize w5.drew = wd
  intro HRd HPd HFd HXd
  obtain ⟨a0, a1, a2, a3, a4, a5, af⟩ := HRd.out.cells
  have k0 := Joins.cell_of_block HXd.out 0
  have k1 := Joins.cell_of_block HXd.out 1
  have k2 := Joins.cell_of_block HXd.out 2
  simp only [List.getElem?_toArray, List.getElem?_cons_zero, List.getElem?_cons_succ] at k0 k1 k2
  clear l0 l1 l2 c0 c1 c2 c3 c4 c5 af
  simp only [List.take_succ_cons, List.take_zero, List.drop_succ_cons, List.drop_zero]
  iterate 9 still_step
  still_call (head16_any (wSlot nn) (fld h 16 48 + 1) wd (tag_u64 h))
  refine wpStill_nil ?_
  go_wp2_with fail
  ((with_reducible refine (cas_rF (v := headW (wSlot nn) (fld h 16 48 + 1)) HC.out HPd.out HL.out h0 h1).mono ?_); rintro ee w2 ⟨rfl, P2, f2⟩)
  have R2 := HRd.out.fr f2 hep heb
  have F2 := HFd.out.trans (.of_fr f2 hBm)
  have R3 := R2.set2 0
  have P3 := P2.setX R2 (by decide) hep heb 2 (.int .i64 0)
  have F3 := F2.trans (.setE (e := e) _ hBe 2 (.int .i64 0))
  have R5 := R3.set1 (wSlot h)
  have P5 := P3.setX R3 (by decide) hep heb 1 (.int .i64 (wSlot h))
  have F5 := F3.trans (.setE (e := e) _ hBe 1 (.int .i64 (wSlot h)))
  have R4 := R5.set3 true
  have P4 := P5.setX R5 (by decide) hep heb 3 (.bool true)
  have F4 := F5.trans (.setE (e := e) _ hBe 3 (.bool true))
  obtain ⟨b0, b1, b2, b3, b4, b5, bf⟩ := R2.cells
  have z2 := bf 2
  obtain ⟨d0, d1, d2, d3, d4, d5, df⟩ := R3.cells
  have y1 := df 1
  obtain ⟨e0, e1, e2, e3, e4, e5, ef⟩ := R5.cells
  have x3 := ef 3
  have HR4 := Lib.hid R4
  have HP4 := Lib.hid P4
  have HF4 := Lib.hid F4
  clear R2 R3 R5 R4 P2 P3 P5 P4 F2 F3 F5 F4 f2 bf df ef HRd HFd HPd a0 a1 a2 a3 a4 a5 k0 k1 k2 htw HXd
  go_wp2_with fail
  go_end0
  exact ⟨rfl, HR4.out, HP4.out, HF4.out⟩
set_option maxRecDepth 100000 in
set_option maxHeartbeats 4000000 in
theorem ref3_pop_no (hBm : B ≤ m) (hBe : B ≤ e) (hep : e ≠ p) (heb : e ≠ b) (hP : Pr p m b n D s L r w) (R : RefAt e false sl 3 got h nn w) (hu : U64 h) (hc : casA L adF h = false) (hn : U64 nn) (hL : L.length ≤ 4999) (h0 : 0 ≤ r.st) (h1 : r.st < 1000000) :
    Calls Tryz.prog 102 #[.pointer (some ⟨e, 0, none⟩), .pointer (some ⟨b, 0, none⟩)] w fun ee w' => ee = .returned (.tuple #[]) ∧ RefAt e false sl 1 got h nn w' ∧ Pr p m b n D s (casL L adF h (nextW h (wSlot nn))) (r.touch 3 adF (vals L adF) (vals (casL L adF h (nextW h (wSlot nn))) adF) false) w' ∧ Fx B p b q e w w' := by
  have hA : Below w.heap.size w (w.alloc (.cells #[.int .u8 0, .int .i64 0, .int .i64 0] 33)) := (Below.refl _ _).alloc (Nat.le_refl _) _
  obtain ⟨l0, l1, l2, lb⟩ := list_cells w
  have hBw : B ≤ w.heap.size := Nat.le_trans hBm hP.m_le
  have HF := Lib.hid (Fx.of_below (p := p) (b := b) (q := q) (e := e) hA hBw)
  have HP := Lib.hid (hP.below hA)
  have HR := Lib.hid (R.below hA)
  have HC := Lib.hid hc
  have hXe : w.heap.size ≠ e := by have := R.lt; omega
  have HL := Lib.hid hL
  have hlb : w.heap.size ≠ p ∧ w.heap.size ≠ b := by have := hP.lt; have := hP.pb; constructor <;> omega
  obtain ⟨hlp, hlb⟩ := hlb
  have HLB := Lib.hid lb
  obtain ⟨c0, c1, c2, c3, c4, c5, cf⟩ := HR.out.cells
  clear hP hc R hA hL lb cf
  go_enter Tryz.func102, Tryz.ntmps102
  go_wp2_with fail
  revert l0 l1 l2 HF HP HR HLB c0 c1 c2 c3 c4 c5
  generalize w.alloc (.cells #[.int .u8 0, .int .i64 0, .int .i64 0] 33) = wA
  intro l0 l1 l2 HF HP HR HLB c0 c1 c2 c3 c4 c5
  generalize w.heap.size = X at *
  ((with_reducible refine (asHead10_any h wA hu).mono ?_); rintro ee w1 ⟨rfl, rfl⟩)
  have z2 := (HR.out.cells).2.2.2.2.2.2 2
  have HR1 := Lib.hid (HR.out.set2 1)
  have HP1 := Lib.hid (HP.out.setX HR.out (by decide) hep heb 2 (.int .i64 1))
  have HF1 := Lib.hid (HF.out.trans (.setE (e := e) _ hBe 2 (.int .i64 1)))
  have HX1 := Lib.hid ((Below.heap_setCell w1 ⟨e, 2, none⟩ (.int .i64 1) X hXe).trans HLB.out)
  have htw := tag_wrap h
  go_wp2_with fail
  ((with_reducible refine (asHead10_any nn _ hn).mono ?_); rintro ee w1 ⟨rfl, rfl⟩)
  go_wp2_with fail
  revert HR1 HP1 HF1 HX1
  generalize w1.setCell ⟨e, 2, none⟩ (.int .i64 1) = w5
  intro HR1 HP1 HF1 HX1
  have HB := Lib.hid (Below.refl w5.heap.size w5).drew
  have HRd := Lib.hid (HR1.out.below HB.out)
  have HPd := Lib.hid (HP1.out.below HB.out)
  have HFd := Lib.hid (HF1.out.trans (.of_below HB.out (Nat.le_trans hBe (Nat.le_of_lt HR1.out.lt))))
  have HXd := Lib.hid (show w5.drew.heap[X]? = some (.cells #[.int .u8 0, .int .i64 0, .int .i64 0] 33 (0, 0)) from HX1.out)
  refine wp_region_still_tail 10 (by kernel_rfl) (by kernel_rfl) ?_
  change wpStill _ _ w5.drew (fun a' => wpList _ _ _ _ a' w5.drew) _ _
  clear HR HP HF HB HR1 HP1 HF1 HX1 z2
  revert HRd HPd HFd HXd
  generalize w5.drew = wd
  intro HRd HPd HFd HXd
  obtain ⟨a0, a1, a2, a3, a4, a5, af⟩ := HRd.out.cells
  have k0 := Joins.cell_of_block HXd.out 0
  have k1 := Joins.cell_of_block HXd.out 1
  have k2 := Joins.cell_of_block HXd.out 2
  simp only [List.getElem?_toArray, List.getElem?_cons_zero, List.getElem?_cons_succ] at k0 k1 k2
  clear l0 l1 l2 c0 c1 c2 c3 c4 c5 af
  simp only [List.take_succ_cons, List.take_zero, List.drop_succ_cons, List.drop_zero]
  iterate 9 still_step
  still_call (head16_any (wSlot nn) (fld h 16 48 + 1) wd (tag_u64 h))
  refine wpStill_nil ?_
  go_wp2_with fail
  ((with_reducible refine (cas_rF (v := headW (wSlot nn) (fld h 16 48 + 1)) HC.out HPd.out HL.out h0 h1).mono ?_); rintro ee w2 ⟨rfl, P2, f2⟩)
  have R2 := HRd.out.fr f2 hep heb
  have F2 := HFd.out.trans (.of_fr f2 hBm)
  have HR4 := Lib.hid R2
  have HP4 := Lib.hid P2
  have HF4 := Lib.hid F2
  clear R2 P2 F2 f2 HRd HFd HPd a0 a1 a2 a3 a4 a5 k0 k1 k2 htw HXd
  go_wp2_with fail
  go_end0
  exact ⟨rfl, HR4.out, HP4.out, HF4.out⟩
set_option maxRecDepth 100000 in
set_option maxHeartbeats 4000000 in
theorem ref3_push_yes (hBm : B ≤ m) (hBe : B ≤ e) (hep : e ≠ p) (heb : e ≠ b) (hP : Pr p m b n D s L r w) (R : RefAt e true sl 3 got h nn w) (hu : U64 h) (hc : casA L adF h = true) (hL : L.length ≤ 4999) (h0 : 0 ≤ r.st) (h1 : r.st < 1000000) :
    Calls Tryz.prog 102 #[.pointer (some ⟨e, 0, none⟩), .pointer (some ⟨b, 0, none⟩)] w fun ee w' => ee = .returned (.tuple #[]) ∧ RefAt e true sl 0 got h nn w' ∧ Pr p m b n D s (casL L adF h (nextW h sl)) (r.touch 3 adF (vals L adF) (vals (casL L adF h (nextW h sl)) adF) true) w' ∧ Fx B p b q e w w' := by
  have hA : Below w.heap.size w (w.alloc (.cells #[.int .u8 0, .int .i64 0, .int .i64 0] 33)) := (Below.refl _ _).alloc (Nat.le_refl _) _
  obtain ⟨l0, l1, l2, lb⟩ := list_cells w
  have hBw : B ≤ w.heap.size := Nat.le_trans hBm hP.m_le
  have HF := Lib.hid (Fx.of_below (p := p) (b := b) (q := q) (e := e) hA hBw)
  have HP := Lib.hid (hP.below hA)
  have HR := Lib.hid (R.below hA)
  have HC := Lib.hid hc
  have hXe : w.heap.size ≠ e := by have := R.lt; omega
  have HL := Lib.hid hL
  have hlb : w.heap.size ≠ p ∧ w.heap.size ≠ b := by have := hP.lt; have := hP.pb; constructor <;> omega
  obtain ⟨hlp, hlb⟩ := hlb
  have HLB := Lib.hid lb
  obtain ⟨c0, c1, c2, c3, c4, c5, cf⟩ := HR.out.cells
  clear hP hc R hA hL lb cf
  go_enter Tryz.func102, Tryz.ntmps102
  go_wp2_with fail
  revert l0 l1 l2 HF HP HR HLB c0 c1 c2 c3 c4 c5
  generalize w.alloc (.cells #[.int .u8 0, .int .i64 0, .int .i64 0] 33) = wA
  intro l0 l1 l2 HF HP HR HLB c0 c1 c2 c3 c4 c5
  generalize w.heap.size = X at *
  ((with_reducible refine (asHead10_any h wA hu).mono ?_); rintro ee w1 ⟨rfl, rfl⟩)
  have z2 := (HR.out.cells).2.2.2.2.2.2 2
  have HR1 := Lib.hid (HR.out.set2 1)
  have HP1 := Lib.hid (HP.out.setX HR.out (by decide) hep heb 2 (.int .i64 1))
  have HF1 := Lib.hid (HF.out.trans (.setE (e := e) _ hBe 2 (.int .i64 1)))
  have HX1 := Lib.hid ((Below.heap_setCell w1 ⟨e, 2, none⟩ (.int .i64 1) X hXe).trans HLB.out)
  have htw := tag_wrap h
  go_wp2_with fail
  revert HR1 HP1 HF1 HX1
  generalize w1.setCell ⟨e, 2, none⟩ (.int .i64 1) = w5
  intro HR1 HP1 HF1 HX1
  have HB := Lib.hid (Below.refl w5.heap.size w5).drew
  have HRd := Lib.hid (HR1.out.below HB.out)
  have HPd := Lib.hid (HP1.out.below HB.out)
  have HFd := Lib.hid (HF1.out.trans (.of_below HB.out (Nat.le_trans hBe (Nat.le_of_lt HR1.out.lt))))
  have HXd := Lib.hid (show w5.drew.heap[X]? = some (.cells #[.int .u8 0, .int .i64 0, .int .i64 0] 33 (0, 0)) from HX1.out)
  refine wp_region_still_tail 10 (by kernel_rfl) (by kernel_rfl) ?_
  change wpStill _ _ w5.drew (fun a' => wpList _ _ _ _ a' w5.drew) _ _
  clear HR HP HF HB HR1 HP1 HF1 HX1 z2
  revert HRd HPd HFd HXd
  generalize w5.drew = wd
  intro HRd HPd HFd HXd
  obtain ⟨a0, a1, a2, a3, a4, a5, af⟩ := HRd.out.cells
  have k0 := Joins.cell_of_block HXd.out 0
  have k1 := Joins.cell_of_block HXd.out 1
  have k2 := Joins.cell_of_block HXd.out 2
  simp only [List.getElem?_toArray, List.getElem?_cons_zero, List.getElem?_cons_succ] at k0 k1 k2
  clear l0 l1 l2 c0 c1 c2 c3 c4 c5 af
  simp only [List.take_succ_cons, List.take_zero, List.drop_succ_cons, List.drop_zero]
  iterate 9 still_step
  still_call (head16_any sl (fld h 16 48 + 1) wd (tag_u64 h))
  refine wpStill_nil ?_
  go_wp2_with fail
  ((with_reducible refine (cas_rF (v := headW sl (fld h 16 48 + 1)) HC.out HPd.out HL.out h0 h1).mono ?_); rintro ee w2 ⟨rfl, P2, f2⟩)
  have R2 := HRd.out.fr f2 hep heb
  have F2 := HFd.out.trans (.of_fr f2 hBm)
  have R4 := R2.set2 0
  have P4 := P2.setX R2 (by decide) hep heb 2 (.int .i64 0)
  have F4 := F2.trans (.setE (e := e) _ hBe 2 (.int .i64 0))
  obtain ⟨b0, b1, b2, b3, b4, b5, bf⟩ := R2.cells
  have z2 := bf 2
  obtain ⟨d0, d1, d2, d3, d4, d5, df⟩ := R4.cells
  have HR4 := Lib.hid R4
  have HP4 := Lib.hid P4
  have HF4 := Lib.hid F4
  clear R2 R4 P2 P4 F2 F4 f2 bf df HRd HFd HPd a0 a1 a2 a3 a4 a5 k0 k1 k2 htw HXd
  go_wp2_with fail
  go_end0
  exact ⟨rfl, HR4.out, HP4.out, HF4.out⟩
set_option maxRecDepth 100000 in
set_option maxHeartbeats 4000000 in
theorem ref3_push_no (hBm : B ≤ m) (hBe : B ≤ e) (hep : e ≠ p) (heb : e ≠ b) (hP : Pr p m b n D s L r w) (R : RefAt e true sl 3 got h nn w) (hu : U64 h) (hc : casA L adF h = false) (hL : L.length ≤ 4999) (h0 : 0 ≤ r.st) (h1 : r.st < 1000000) :
    Calls Tryz.prog 102 #[.pointer (some ⟨e, 0, none⟩), .pointer (some ⟨b, 0, none⟩)] w fun ee w' => ee = .returned (.tuple #[]) ∧ RefAt e true sl 1 got h nn w' ∧ Pr p m b n D s (casL L adF h (nextW h sl)) (r.touch 3 adF (vals L adF) (vals (casL L adF h (nextW h sl)) adF) false) w' ∧ Fx B p b q e w w' := by
  have hA : Below w.heap.size w (w.alloc (.cells #[.int .u8 0, .int .i64 0, .int .i64 0] 33)) := (Below.refl _ _).alloc (Nat.le_refl _) _
  obtain ⟨l0, l1, l2, lb⟩ := list_cells w
  have hBw : B ≤ w.heap.size := Nat.le_trans hBm hP.m_le
  have HF := Lib.hid (Fx.of_below (p := p) (b := b) (q := q) (e := e) hA hBw)
  have HP := Lib.hid (hP.below hA)
  have HR := Lib.hid (R.below hA)
  have HC := Lib.hid hc
  have hXe : w.heap.size ≠ e := by have := R.lt; omega
  have HL := Lib.hid hL
  have hlb : w.heap.size ≠ p ∧ w.heap.size ≠ b := by have := hP.lt; have := hP.pb; constructor <;> omega
  obtain ⟨hlp, hlb⟩ := hlb
  have HLB := Lib.hid lb
  obtain ⟨c0, c1, c2, c3, c4, c5, cf⟩ := HR.out.cells
  clear hP hc R hA hL lb cf
  go_enter Tryz.func102, Tryz.ntmps102
  go_wp2_with fail
  revert l0 l1 l2 HF HP HR HLB c0 c1 c2 c3 c4 c5
  generalize w.alloc (.cells #[.int .u8 0, .int .i64 0, .int .i64 0] 33) = wA
  intro l0 l1 l2 HF HP HR HLB c0 c1 c2 c3 c4 c5
  generalize w.heap.size = X at *
  ((with_reducible refine (asHead10_any h wA hu).mono ?_); rintro ee w1 ⟨rfl, rfl⟩)
  have z2 := (HR.out.cells).2.2.2.2.2.2 2
  have HR1 := Lib.hid (HR.out.set2 1)
  have HP1 := Lib.hid (HP.out.setX HR.out (by decide) hep heb 2 (.int .i64 1))
  have HF1 := Lib.hid (HF.out.trans (.setE (e := e) _ hBe 2 (.int .i64 1)))
  have HX1 := Lib.hid ((Below.heap_setCell w1 ⟨e, 2, none⟩ (.int .i64 1) X hXe).trans HLB.out)
  have htw := tag_wrap h
  go_wp2_with fail
  revert HR1 HP1 HF1 HX1
  generalize w1.setCell ⟨e, 2, none⟩ (.int .i64 1) = w5
  intro HR1 HP1 HF1 HX1
  have HB := Lib.hid (Below.refl w5.heap.size w5).drew
  have HRd := Lib.hid (HR1.out.below HB.out)
  have HPd := Lib.hid (HP1.out.below HB.out)
  have HFd := Lib.hid (HF1.out.trans (.of_below HB.out (Nat.le_trans hBe (Nat.le_of_lt HR1.out.lt))))
  have HXd := Lib.hid (show w5.drew.heap[X]? = some (.cells #[.int .u8 0, .int .i64 0, .int .i64 0] 33 (0, 0)) from HX1.out)
  refine wp_region_still_tail 10 (by kernel_rfl) (by kernel_rfl) ?_
  change wpStill _ _ w5.drew (fun a' => wpList _ _ _ _ a' w5.drew) _ _
  clear HR HP HF HB HR1 HP1 HF1 HX1 z2
  revert HRd HPd HFd HXd
  generalize w5.drew = wd
  intro HRd HPd HFd HXd
  obtain ⟨a0, a1, a2, a3, a4, a5, af⟩ := HRd.out.cells
  have k0 := Joins.cell_of_block HXd.out 0
  have k1 := Joins.cell_of_block HXd.out 1
  have k2 := Joins.cell_of_block HXd.out 2
  simp only [List.getElem?_toArray, List.getElem?_cons_zero, List.getElem?_cons_succ] at k0 k1 k2
  clear l0 l1 l2 c0 c1 c2 c3 c4 c5 af
  simp only [List.take_succ_cons, List.take_zero, List.drop_succ_cons, List.drop_zero]
  iterate 9 still_step
  still_call (head16_any sl (fld h 16 48 + 1) wd (tag_u64 h))
  refine wpStill_nil ?_
  go_wp2_with fail
  ((with_reducible refine (cas_rF (v := headW sl (fld h 16 48 + 1)) HC.out HPd.out HL.out h0 h1).mono ?_); rintro ee w2 ⟨rfl, P2, f2⟩)
  have R2 := HRd.out.fr f2 hep heb
  have F2 := HFd.out.trans (.of_fr f2 hBm)
  have HR4 := Lib.hid R2
  have HP4 := Lib.hid P2
  have HF4 := Lib.hid F2
  clear R2 P2 F2 f2 HRd HFd HPd a0 a1 a2 a3 a4 a5 k0 k1 k2 htw HXd
  go_wp2_with fail
  go_end0
  exact ⟨rfl, HR4.out, HP4.out, HF4.out⟩
end
end Go.Proofs.YtmjcbjcnmgleaaaGreatDoor
