/-
  The document's Free of layer 8: what each of its lines does; condition: both memories lie as they say, the operation as it says.
  The document's Alloc of layer 8: what each of its lines does; condition: both memories lie as they say, the operation as it says.
-/
import Derived.Test.YtlcbinckbkdgdaaGreatDoorA1
namespace Go.Proofs.YtlcbinckbkdgdaaGreatDoor
open Go.RowKit Go.Maps

/-- The cells of a Free of the document's. -/
def FrC (sl mo ln go w n : Int) (pa pu : Option Addr) : List Value := [.int .i64 sl, .int .u32 mo, .int .i64 ln, .int .u8 go, .int .u64 w, .int .u64 n, .pointer pa, .pointer pu]
section
variable {B p m b n K : Nat} {sl mo go pw pn : Int} {pa pu : Option Addr} {D : DataW Unit} {s r : Acc8} {L : List (Ad × Int)} {w w' : World}
theorem Bk.c8 {t : TypeId} {c0 c1 c2 c3 c4 c5 c6 c7 : Value} (k : Bk K t [c0, c1, c2, c3, c4, c5, c6, c7] w) : w.cell? ⟨K, 0, none⟩ = some c0 ∧ w.cell? ⟨K, 1, none⟩ = some c1 ∧ w.cell? ⟨K, 2, none⟩ = some c2 ∧ w.cell? ⟨K, 3, none⟩ = some c3 ∧ w.cell? ⟨K, 4, none⟩ = some c4 ∧ w.cell? ⟨K, 5, none⟩ = some c5 ∧ w.cell? ⟨K, 6, none⟩ = some c6 ∧ w.cell? ⟨K, 7, none⟩ = some c7 ∧ ∀ i, w.frozen? ⟨K, i, none⟩ = false :=
  ⟨k.cell 0, k.cell 1, k.cell 2, k.cell 3, k.cell 4, k.cell 5, k.cell 6, k.cell 7, k.free⟩
theorem RefAt.ne_prA {e : Nat} {psh got : Bool} {sl ln h nn : Int} (R : RefAt e psh sl ln got h nn w) (hP : Pr p m b n D s L r w) : e ≠ p ∧ e ≠ b := by
  obtain ⟨v, hr⟩ := hP.ref
  constructor
  · rintro rfl
    have := hP.prog.blk.symm.trans R
    simp at this
  · rintro rfl
    have := hr.blk.symm.trans R
    simp [rest8] at this
theorem u8_4 : U8 4 := by unfold U8; decide
theorem free_s {ln : Int} (k : Bk K 92 (FrC sl mo ln go pw pn pa pu) w) : w.cell? ⟨K, 0, none⟩ = some (.int .i64 sl) ∧ w.cell? ⟨K, 5, none⟩ = some (.int .u64 pn) := ⟨k.cell 0, k.cell 5⟩
set_option maxRecDepth 100000 in
set_option maxHeartbeats 4000000 in
theorem free_1 (hBm : B ≤ m) (hBK : B ≤ K) (hKp : K ≠ p) (hKb : K ≠ b) (hP : Pr p m b n D s L r w) (k : Bk K 92 (FrC sl mo 1 go pw pn pa pu) w) (hw : U64 pw) (hsl : 0 ≤ sl ∧ sl < 256) {v : Int} (hv : vals L (ad9 sl (i64_slot hsl) 0 f0w) = v) (hL : L.length ≤ 999) (h0 : 0 ≤ r.st) (h1 : r.st < 1000000) :
    Calls Tryz.prog 33 #[.pointer (some ⟨K, 0, none⟩), .pointer (some ⟨b, 0, none⟩)] w fun ee w' => ee = .returned (.tuple #[]) ∧ Bk K 92 (FrC sl mo 2 go v pn pa pu) w' ∧ Pr p m b n D s L (r.touch 1 (ad9 sl (i64_slot hsl) 0 f0w) v v false) w' ∧ FxL B p b [K] w w' := by
  have hBw : B ≤ w.heap.size := Nat.le_trans hBm hP.m_le
  have HK0 := Lib.hid k
  have HP0 := Lib.hid hP
  have HF0 := Lib.hid (FxL.of_below (p := p) (b := b) (E := [K]) (Below.refl w.heap.size w) hBw)
  obtain ⟨c0, c1, c2, c3, c4, c5, c6, c7, _⟩ := k.c8
  have HL := Lib.hid hL
  obtain ⟨hg1, hg2, hg3⟩ := seg_of hsl
  have HV := Lib.hid hv
  clear k hP hL hv
  go_enter Tryz.func33, Tryz.ntmps33
  go_wp2_with fail
  ((with_reducible refine (asHeader24_any pw w hw).mono ?_); rintro ee w1 ⟨rfl, rfl⟩)
  go_wp2_with fail
  ((with_reducible refine (ref_slotted sl 0 _).mono ?_); rintro ee x1 ⟨rfl, hb1⟩)
  have HK1 := Lib.hid (HK0.out.below hb1)
  have HP1 := Lib.hid (HP0.out.below hb1)
  have HF1 := Lib.hid (HF0.out.trans (.of_below hb1 (Nat.le_trans hBK (Nat.le_of_lt HK0.out.lt))))
  clear c0 c1 c2 c3 c4 c5 c6 c7
  clear HK0 HP0 HF0 hb1
  obtain ⟨c0, c1, c2, c3, c4, c5, c6, c7, _⟩ := HK1.out.c8
  go_wp2_with fail
  ((with_reducible refine (load_r9 sl 0 (i64_slot hsl) f0w HP1.out HL.out h0 h1).mono ?_); rintro ee x2 ⟨rfl, P2, f2⟩)
  have HK2 := Lib.hid (HK1.out.fr f2 (by decide) hKp hKb)
  have HP2 := Lib.hid P2
  have HF2 := Lib.hid (HF1.out.trans (.of_fr f2 hBm))
  clear c0 c1 c2 c3 c4 c5 c6 c7
  clear HK1 HP1 HF1 P2 f2
  obtain ⟨c0, c1, c2, c3, c4, c5, c6, c7, _⟩ := HK2.out.c8
  have hvv := HV.out
  rw [hvv] at HP2 ⊢
  clear hvv
  have z3 := HK2.out.free 4
  have HK3 := Lib.hid (HK2.out.set 4 (.int .u64 v) (cs' := FrC sl mo 1 go v pn pa pu) rfl)
  have HP3 := Lib.hid (HP2.out.setX HK2.out (by decide) hKp hKb 4 (.int .u64 v))
  have HF3 := Lib.hid (HF2.out.trans (.set (E := [K]) _ hBK (by simp) 4 (.int .u64 v)))
  obtain ⟨e30, e31, e32, e33, e34, e35, e36, e37, _⟩ := HK3.out.c8
  have z4 := HK3.out.free 2
  have HK4 := Lib.hid (HK3.out.set 2 (.int .i64 2) (cs' := FrC sl mo 2 go v pn pa pu) rfl)
  have HP4 := Lib.hid (HP3.out.setX HK3.out (by decide) hKp hKb 2 (.int .i64 2))
  have HF4 := Lib.hid (HF3.out.trans (.set (E := [K]) _ hBK (by simp) 2 (.int .i64 2)))
  obtain ⟨e40, e41, e42, e43, e44, e45, e46, e47, _⟩ := HK4.out.c8
  go_wp2_with fail
  go_end0
  exact ⟨rfl, HK4.out, HP4.out, HF4.out⟩
set_option maxRecDepth 100000 in
set_option maxHeartbeats 4000000 in
theorem free_2_gone (hBm : B ≤ m) (hBK : B ≤ K) (hKp : K ≠ p) (hKb : K ≠ b) (hP : Pr p m b n D s L r w) (k : Bk K 92 (FrC sl mo 2 go pw pn pa pu) w) (hw : U64 pw) (hsl : 0 ≤ sl ∧ sl < 256) (hge : mo ≤ fld pw 3 32) (hL : L.length ≤ 999) (h0 : 0 ≤ r.st) (h1 : r.st < 1000000) :
    Calls Tryz.prog 33 #[.pointer (some ⟨K, 0, none⟩), .pointer (some ⟨b, 0, none⟩)] w fun ee w' => ee = .returned (.tuple #[]) ∧ Bk K 92 (FrC sl mo 3 go pw pn pa pu) w' ∧ Pr p m b n D s (storeA L (ad9 sl (i64_slot hsl) 0 f0w) (headerW 4 (fld pw 3 32))) (r.touch 2 (ad9 sl (i64_slot hsl) 0 f0w) (vals L (ad9 sl (i64_slot hsl) 0 f0w)) (vals (storeA L (ad9 sl (i64_slot hsl) 0 f0w) (headerW 4 (fld pw 3 32))) (ad9 sl (i64_slot hsl) 0 f0w)) false) w' ∧ FxL B p b [K] w w' := by
  have hBw : B ≤ w.heap.size := Nat.le_trans hBm hP.m_le
  have HK0 := Lib.hid k
  have HP0 := Lib.hid hP
  have HF0 := Lib.hid (FxL.of_below (p := p) (b := b) (E := [K]) (Below.refl w.heap.size w) hBw)
  obtain ⟨c0, c1, c2, c3, c4, c5, c6, c7, _⟩ := k.c8
  have HL := Lib.hid hL
  obtain ⟨hg1, hg2, hg3⟩ := seg_of hsl
  clear k hP hL 
  go_enter Tryz.func33, Tryz.ntmps33
  go_wp2_with fail
  ((with_reducible refine (asHeader24_any pw w hw).mono ?_); rintro ee w1 ⟨rfl, rfl⟩)
  go_wp2_with fail
  ((with_reducible refine (ref_slotted sl 0 _).mono ?_); rintro ee x1 ⟨rfl, hb1⟩)
  have HK1 := Lib.hid (HK0.out.below hb1)
  have HP1 := Lib.hid (HP0.out.below hb1)
  have HF1 := Lib.hid (HF0.out.trans (.of_below hb1 (Nat.le_trans hBK (Nat.le_of_lt HK0.out.lt))))
  clear c0 c1 c2 c3 c4 c5 c6 c7
  clear HK0 HP0 HF0 hb1
  obtain ⟨c0, c1, c2, c3, c4, c5, c6, c7, _⟩ := HK1.out.c8
  go_wp2_with fail
  ((with_reducible refine (header28_any 4 (fld pw 3 32) _ u8_4 (gen_u64 pw)).mono ?_); rintro ee w9 ⟨rfl, rfl⟩)
  go_wp2_with fail
  ((with_reducible refine (store_r9 sl 0 (i64_slot hsl) f0w (headerW 4 (fld pw 3 32)) HP1.out HL.out h0 h1).mono ?_); rintro ee x2 ⟨rfl, P2, f2⟩)
  have HK2 := Lib.hid (HK1.out.fr f2 (by decide) hKp hKb)
  have HP2 := Lib.hid P2
  have HF2 := Lib.hid (HF1.out.trans (.of_fr f2 hBm))
  clear c0 c1 c2 c3 c4 c5 c6 c7
  clear HK1 HP1 HF1 P2 f2
  obtain ⟨c0, c1, c2, c3, c4, c5, c6, c7, _⟩ := HK2.out.c8
  have z3 := HK2.out.free 2
  have HK3 := Lib.hid (HK2.out.set 2 (.int .i64 3) (cs' := FrC sl mo 3 go pw pn pa pu) rfl)
  have HP3 := Lib.hid (HP2.out.setX HK2.out (by decide) hKp hKb 2 (.int .i64 3))
  have HF3 := Lib.hid (HF2.out.trans (.set (E := [K]) _ hBK (by simp) 2 (.int .i64 3)))
  obtain ⟨e30, e31, e32, e33, e34, e35, e36, e37, _⟩ := HK3.out.c8
  go_wp2_with fail
  go_end0
  exact ⟨rfl, HK3.out, HP3.out, HF3.out⟩
set_option maxRecDepth 100000 in
set_option maxHeartbeats 4000000 in
theorem free_2_free (hBm : B ≤ m) (hBK : B ≤ K) (hKp : K ≠ p) (hKb : K ≠ b) (hP : Pr p m b n D s L r w) (k : Bk K 92 (FrC sl mo 2 go pw pn pa pu) w) (hw : U64 pw) (hsl : 0 ≤ sl ∧ sl < 256) {g1 : Int} (hlt : fld pw 3 32 < mo) (hgw : IntKind.u32.wrap (fld pw 3 32 + 1) = g1) (hgu : U64 g1) (hL : L.length ≤ 999) (h0 : 0 ≤ r.st) (h1 : r.st < 1000000) :
    Calls Tryz.prog 33 #[.pointer (some ⟨K, 0, none⟩), .pointer (some ⟨b, 0, none⟩)] w fun ee w' => ee = .returned (.tuple #[]) ∧ Bk K 92 (FrC sl mo 5 go pw pn pa pu) w' ∧ Pr p m b n D s (storeA L (ad9 sl (i64_slot hsl) 0 f0w) (headerW 0 g1)) (r.touch 2 (ad9 sl (i64_slot hsl) 0 f0w) (vals L (ad9 sl (i64_slot hsl) 0 f0w)) (vals (storeA L (ad9 sl (i64_slot hsl) 0 f0w) (headerW 0 g1)) (ad9 sl (i64_slot hsl) 0 f0w)) false) w' ∧ FxL B p b [K] w w' := by
  have hBw : B ≤ w.heap.size := Nat.le_trans hBm hP.m_le
  have HK0 := Lib.hid k
  have HP0 := Lib.hid hP
  have HF0 := Lib.hid (FxL.of_below (p := p) (b := b) (E := [K]) (Below.refl w.heap.size w) hBw)
  obtain ⟨c0, c1, c2, c3, c4, c5, c6, c7, _⟩ := k.c8
  have HL := Lib.hid hL
  obtain ⟨hg1, hg2, hg3⟩ := seg_of hsl
  clear k hP hL 
  go_enter Tryz.func33, Tryz.ntmps33
  go_wp2_with fail
  ((with_reducible refine (asHeader24_any pw w hw).mono ?_); rintro ee w1 ⟨rfl, rfl⟩)
  go_wp2_with fail
  ((with_reducible refine (ref_slotted sl 0 _).mono ?_); rintro ee x1 ⟨rfl, hb1⟩)
  have HK1 := Lib.hid (HK0.out.below hb1)
  have HP1 := Lib.hid (HP0.out.below hb1)
  have HF1 := Lib.hid (HF0.out.trans (.of_below hb1 (Nat.le_trans hBK (Nat.le_of_lt HK0.out.lt))))
  clear c0 c1 c2 c3 c4 c5 c6 c7
  clear HK0 HP0 HF0 hb1
  obtain ⟨c0, c1, c2, c3, c4, c5, c6, c7, _⟩ := HK1.out.c8
  go_wp2_with fail
  ((with_reducible refine (header28_any 0 g1 _ u8_0 hgu).mono ?_); rintro ee w9 ⟨rfl, rfl⟩)
  go_wp2_with fail
  ((with_reducible refine (store_r9 sl 0 (i64_slot hsl) f0w (headerW 0 g1) HP1.out HL.out h0 h1).mono ?_); rintro ee x2 ⟨rfl, P2, f2⟩)
  have HK2 := Lib.hid (HK1.out.fr f2 (by decide) hKp hKb)
  have HP2 := Lib.hid P2
  have HF2 := Lib.hid (HF1.out.trans (.of_fr f2 hBm))
  clear c0 c1 c2 c3 c4 c5 c6 c7
  clear HK1 HP1 HF1 P2 f2
  obtain ⟨c0, c1, c2, c3, c4, c5, c6, c7, _⟩ := HK2.out.c8
  have z3 := HK2.out.free 2
  have HK3 := Lib.hid (HK2.out.set 2 (.int .i64 5) (cs' := FrC sl mo 5 go pw pn pa pu) rfl)
  have HP3 := Lib.hid (HP2.out.setX HK2.out (by decide) hKp hKb 2 (.int .i64 5))
  have HF3 := Lib.hid (HF2.out.trans (.set (E := [K]) _ hBK (by simp) 2 (.int .i64 5)))
  obtain ⟨e30, e31, e32, e33, e34, e35, e36, e37, _⟩ := HK3.out.c8
  go_wp2_with fail
  go_end0
  exact ⟨rfl, HK3.out, HP3.out, HF3.out⟩
set_option maxRecDepth 100000 in
set_option maxHeartbeats 4000000 in
theorem free_3 (hBm : B ≤ m) (hBK : B ≤ K) (hKp : K ≠ p) (hKb : K ≠ b) (hP : Pr p m b n D s L r w) (k : Bk K 92 (FrC sl mo 3 go pw pn pa pu) w) (hw : U64 pw) (hsl : 0 ≤ sl ∧ sl < 256) {v : Int} (hv : vals L (ad6 (sl / 8) (seg_of hsl).2.2 1 f1w) = v) (hL : L.length ≤ 999) (h0 : 0 ≤ r.st) (h1 : r.st < 1000000) :
    Calls Tryz.prog 33 #[.pointer (some ⟨K, 0, none⟩), .pointer (some ⟨b, 0, none⟩)] w fun ee w' => ee = .returned (.tuple #[]) ∧ Bk K 92 (FrC sl mo 4 go pw v pa pu) w' ∧ Pr p m b n D s L (r.touch 1 (ad6 (sl / 8) (seg_of hsl).2.2 1 f1w) v v false) w' ∧ FxL B p b [K] w w' := by
  have hBw : B ≤ w.heap.size := Nat.le_trans hBm hP.m_le
  have HK0 := Lib.hid k
  have HP0 := Lib.hid hP
  have HF0 := Lib.hid (FxL.of_below (p := p) (b := b) (E := [K]) (Below.refl w.heap.size w) hBw)
  obtain ⟨c0, c1, c2, c3, c4, c5, c6, c7, _⟩ := k.c8
  have HL := Lib.hid hL
  obtain ⟨hg1, hg2, hg3⟩ := seg_of hsl
  have HV := Lib.hid hv
  clear k hP hL hv
  go_enter Tryz.func33, Tryz.ntmps33
  go_wp2_with fail
  ((with_reducible refine (asHeader24_any pw w hw).mono ?_); rintro ee w1 ⟨rfl, rfl⟩)
  go_wp2_with fail
  ((with_reducible refine (ref_segment sl 1 (sl / 8) hg1 hg2 _).mono ?_); rintro ee x1 ⟨rfl, hb1⟩)
  have HK1 := Lib.hid (HK0.out.below hb1)
  have HP1 := Lib.hid (HP0.out.below hb1)
  have HF1 := Lib.hid (HF0.out.trans (.of_below hb1 (Nat.le_trans hBK (Nat.le_of_lt HK0.out.lt))))
  clear c0 c1 c2 c3 c4 c5 c6 c7
  clear HK0 HP0 HF0 hb1
  obtain ⟨c0, c1, c2, c3, c4, c5, c6, c7, _⟩ := HK1.out.c8
  go_wp2_with fail
  ((with_reducible refine (load_r6 (sl / 8) 1 (seg_of hsl).2.2 f1w HP1.out HL.out h0 h1).mono ?_); rintro ee x2 ⟨rfl, P2, f2⟩)
  have HK2 := Lib.hid (HK1.out.fr f2 (by decide) hKp hKb)
  have HP2 := Lib.hid P2
  have HF2 := Lib.hid (HF1.out.trans (.of_fr f2 hBm))
  clear c0 c1 c2 c3 c4 c5 c6 c7
  clear HK1 HP1 HF1 P2 f2
  obtain ⟨c0, c1, c2, c3, c4, c5, c6, c7, _⟩ := HK2.out.c8
  have hvv := HV.out
  rw [hvv] at HP2 ⊢
  clear hvv
  have z3 := HK2.out.free 5
  have HK3 := Lib.hid (HK2.out.set 5 (.int .u64 v) (cs' := FrC sl mo 3 go pw v pa pu) rfl)
  have HP3 := Lib.hid (HP2.out.setX HK2.out (by decide) hKp hKb 5 (.int .u64 v))
  have HF3 := Lib.hid (HF2.out.trans (.set (E := [K]) _ hBK (by simp) 5 (.int .u64 v)))
  obtain ⟨e30, e31, e32, e33, e34, e35, e36, e37, _⟩ := HK3.out.c8
  have z4 := HK3.out.free 2
  have HK4 := Lib.hid (HK3.out.set 2 (.int .i64 4) (cs' := FrC sl mo 4 go pw v pa pu) rfl)
  have HP4 := Lib.hid (HP3.out.setX HK3.out (by decide) hKp hKb 2 (.int .i64 4))
  have HF4 := Lib.hid (HF3.out.trans (.set (E := [K]) _ hBK (by simp) 2 (.int .i64 4)))
  obtain ⟨e40, e41, e42, e43, e44, e45, e46, e47, _⟩ := HK4.out.c8
  go_wp2_with fail
  go_end0
  exact ⟨rfl, HK4.out, HP4.out, HF4.out⟩
set_option maxRecDepth 100000 in
set_option maxHeartbeats 4000000 in
theorem free_4_yes (hBm : B ≤ m) (hBK : B ≤ K) (hKp : K ≠ p) (hKb : K ≠ b) (hP : Pr p m b n D s L r w) (k : Bk K 92 (FrC sl mo 4 go pw pn pa pu) w) (hw : U64 pw) (hsl : 0 ≤ sl ∧ sl < 256) {v : Int} (hv : IntKind.u64.wrap (pn + 1) = v) (hc : casA L (ad6 (sl / 8) (seg_of hsl).2.2 1 f1w) pn = true) (hL : L.length ≤ 999) (h0 : 0 ≤ r.st) (h1 : r.st < 1000000) :
    Calls Tryz.prog 33 #[.pointer (some ⟨K, 0, none⟩), .pointer (some ⟨b, 0, none⟩)] w fun ee w' => ee = .returned (.tuple #[]) ∧ Bk K 92 (FrC sl mo 0 4 pw pn pa pu) w' ∧ Pr p m b n D s (casL L (ad6 (sl / 8) (seg_of hsl).2.2 1 f1w) pn v) (r.touch 3 (ad6 (sl / 8) (seg_of hsl).2.2 1 f1w) (vals L (ad6 (sl / 8) (seg_of hsl).2.2 1 f1w)) (vals (casL L (ad6 (sl / 8) (seg_of hsl).2.2 1 f1w) pn v) (ad6 (sl / 8) (seg_of hsl).2.2 1 f1w)) true) w' ∧ FxL B p b [K] w w' := by
  have hBw : B ≤ w.heap.size := Nat.le_trans hBm hP.m_le
  have HK0 := Lib.hid k
  have HP0 := Lib.hid hP
  have HF0 := Lib.hid (FxL.of_below (p := p) (b := b) (E := [K]) (Below.refl w.heap.size w) hBw)
  obtain ⟨c0, c1, c2, c3, c4, c5, c6, c7, _⟩ := k.c8
  have HL := Lib.hid hL
  obtain ⟨hg1, hg2, hg3⟩ := seg_of hsl
  have HC := Lib.hid hc
  clear k hP hL hc
  go_enter Tryz.func33, Tryz.ntmps33
  go_wp2_with fail
  ((with_reducible refine (asHeader24_any pw w hw).mono ?_); rintro ee w1 ⟨rfl, rfl⟩)
  have z1 := HK0.out.free 2
  have HK1 := Lib.hid (HK0.out.set 2 (.int .i64 3) (cs' := FrC sl mo 3 go pw pn pa pu) rfl)
  have HP1 := Lib.hid (HP0.out.setX HK0.out (by decide) hKp hKb 2 (.int .i64 3))
  have HF1 := Lib.hid (HF0.out.trans (.set (E := [K]) _ hBK (by simp) 2 (.int .i64 3)))
  obtain ⟨e10, e11, e12, e13, e14, e15, e16, e17, _⟩ := HK1.out.c8
  go_wp2_with fail
  revert HK1 HP1 HF1 e10 e11 e12 e13 e14 e15 e16 e17
  generalize w1.setCell ⟨K, 2, none⟩ (.int .i64 3) = y1
  intro HK1 HP1 HF1 e10 e11 e12 e13 e14 e15 e16 e17
  have HKd := Lib.hid (HK1.out.below (Below.refl _ y1).drew)
  have HPd := Lib.hid (HP1.out.below (Below.refl _ y1).drew)
  have HFd := Lib.hid (HF1.out.trans (.of_below (Below.refl _ y1).drew (Nat.le_trans hBK (Nat.le_of_lt HK1.out.lt))))
  have hs0 := Lib.hid (free_s HKd.out)
  clear HK0 HP0 HF0 HK1 HP1 HF1 e10 e11 e12 e13 e14 e15 e16 e17 z1
  clear c0 c1 c2 c3 c4 c5 c6 c7
  go_region_held3 (fun w9 => w9.cell? ⟨K, 0, none⟩ = some (.int .i64 sl) ∧ w9.cell? ⟨K, 5, none⟩ = some (.int .u64 pn))
    (first | exact hs0.out | exact hs2.out | exact hs3.out | fail)
    (first
      | (go_at_call 54; with_reducible refine (ref_segment sl 1 (sl / 8) hg1 hg2 _).mono ?_; rintro ee x2 ⟨rfl, hb2⟩; have HK2 := Lib.hid (HKd.out.below hb2); have HP2 := Lib.hid (HPd.out.below hb2); have HF2 := Lib.hid (HFd.out.trans (.of_below hb2 (Nat.le_trans hBK (Nat.le_of_lt HKd.out.lt)))); have hs2 := Lib.hid (free_s HK2.out); clear hb2)
      | (go_at_call 59; with_reducible refine (cas_r6 (sl / 8) 1 (seg_of hsl).2.2 f1w HC.out HP2.out HL.out h0 h1).mono ?_; rintro ee x3 ⟨rfl, P3, f3⟩; have HK3 := Lib.hid (HK2.out.fr f3 (by decide) hKp hKb); have HP3 := Lib.hid P3; have HF3 := Lib.hid (HF2.out.trans (.of_fr f3 hBm)); have hs3 := Lib.hid (free_s HK3.out); clear P3 f3)
      | fail)
  obtain ⟨c0, c1, c2, c3, c4, c5, c6, c7, _⟩ := HK3.out.c8
  have z4 := HK3.out.free 2
  have HK4 := Lib.hid (HK3.out.set 2 (.int .i64 0) (cs' := FrC sl mo 0 go pw pn pa pu) rfl)
  have HP4 := Lib.hid (HP3.out.setX HK3.out (by decide) hKp hKb 2 (.int .i64 0))
  have HF4 := Lib.hid (HF3.out.trans (.set (E := [K]) _ hBK (by simp) 2 (.int .i64 0)))
  obtain ⟨e40, e41, e42, e43, e44, e45, e46, e47, _⟩ := HK4.out.c8
  have z5 := HK4.out.free 3
  have HK5 := Lib.hid (HK4.out.set 3 (.int .u8 4) (cs' := FrC sl mo 0 4 pw pn pa pu) rfl)
  have HP5 := Lib.hid (HP4.out.setX HK4.out (by decide) hKp hKb 3 (.int .u8 4))
  have HF5 := Lib.hid (HF4.out.trans (.set (E := [K]) _ hBK (by simp) 3 (.int .u8 4)))
  obtain ⟨e50, e51, e52, e53, e54, e55, e56, e57, _⟩ := HK5.out.c8
  go_wp2_with fail
  go_end0
  exact ⟨rfl, HK5.out, HP5.out, HF5.out⟩
set_option maxRecDepth 100000 in
set_option maxHeartbeats 4000000 in
theorem free_4_no (hBm : B ≤ m) (hBK : B ≤ K) (hKp : K ≠ p) (hKb : K ≠ b) (hP : Pr p m b n D s L r w) (k : Bk K 92 (FrC sl mo 4 go pw pn pa pu) w) (hw : U64 pw) (hsl : 0 ≤ sl ∧ sl < 256) {v : Int} (hv : IntKind.u64.wrap (pn + 1) = v) (hc : casA L (ad6 (sl / 8) (seg_of hsl).2.2 1 f1w) pn = false) (hL : L.length ≤ 999) (h0 : 0 ≤ r.st) (h1 : r.st < 1000000) :
    Calls Tryz.prog 33 #[.pointer (some ⟨K, 0, none⟩), .pointer (some ⟨b, 0, none⟩)] w fun ee w' => ee = .returned (.tuple #[]) ∧ Bk K 92 (FrC sl mo 3 go pw pn pa pu) w' ∧ Pr p m b n D s (casL L (ad6 (sl / 8) (seg_of hsl).2.2 1 f1w) pn v) (r.touch 3 (ad6 (sl / 8) (seg_of hsl).2.2 1 f1w) (vals L (ad6 (sl / 8) (seg_of hsl).2.2 1 f1w)) (vals (casL L (ad6 (sl / 8) (seg_of hsl).2.2 1 f1w) pn v) (ad6 (sl / 8) (seg_of hsl).2.2 1 f1w)) false) w' ∧ FxL B p b [K] w w' := by
  have hBw : B ≤ w.heap.size := Nat.le_trans hBm hP.m_le
  have HK0 := Lib.hid k
  have HP0 := Lib.hid hP
  have HF0 := Lib.hid (FxL.of_below (p := p) (b := b) (E := [K]) (Below.refl w.heap.size w) hBw)
  obtain ⟨c0, c1, c2, c3, c4, c5, c6, c7, _⟩ := k.c8
  have HL := Lib.hid hL
  obtain ⟨hg1, hg2, hg3⟩ := seg_of hsl
  have HC := Lib.hid hc
  clear k hP hL hc
  go_enter Tryz.func33, Tryz.ntmps33
  go_wp2_with fail
  ((with_reducible refine (asHeader24_any pw w hw).mono ?_); rintro ee w1 ⟨rfl, rfl⟩)
  have z1 := HK0.out.free 2
  have HK1 := Lib.hid (HK0.out.set 2 (.int .i64 3) (cs' := FrC sl mo 3 go pw pn pa pu) rfl)
  have HP1 := Lib.hid (HP0.out.setX HK0.out (by decide) hKp hKb 2 (.int .i64 3))
  have HF1 := Lib.hid (HF0.out.trans (.set (E := [K]) _ hBK (by simp) 2 (.int .i64 3)))
  obtain ⟨e10, e11, e12, e13, e14, e15, e16, e17, _⟩ := HK1.out.c8
  go_wp2_with fail
  revert HK1 HP1 HF1 e10 e11 e12 e13 e14 e15 e16 e17
  generalize w1.setCell ⟨K, 2, none⟩ (.int .i64 3) = y1
  intro HK1 HP1 HF1 e10 e11 e12 e13 e14 e15 e16 e17
  have HKd := Lib.hid (HK1.out.below (Below.refl _ y1).drew)
  have HPd := Lib.hid (HP1.out.below (Below.refl _ y1).drew)
  have HFd := Lib.hid (HF1.out.trans (.of_below (Below.refl _ y1).drew (Nat.le_trans hBK (Nat.le_of_lt HK1.out.lt))))
  have hs0 := Lib.hid (free_s HKd.out)
  clear HK0 HP0 HF0 HK1 HP1 HF1 e10 e11 e12 e13 e14 e15 e16 e17 z1
  clear c0 c1 c2 c3 c4 c5 c6 c7
  go_region_held3 (fun w9 => w9.cell? ⟨K, 0, none⟩ = some (.int .i64 sl) ∧ w9.cell? ⟨K, 5, none⟩ = some (.int .u64 pn))
    (first | exact hs0.out | exact hs2.out | exact hs3.out | fail)
    (first
      | (go_at_call 54; with_reducible refine (ref_segment sl 1 (sl / 8) hg1 hg2 _).mono ?_; rintro ee x2 ⟨rfl, hb2⟩; have HK2 := Lib.hid (HKd.out.below hb2); have HP2 := Lib.hid (HPd.out.below hb2); have HF2 := Lib.hid (HFd.out.trans (.of_below hb2 (Nat.le_trans hBK (Nat.le_of_lt HKd.out.lt)))); have hs2 := Lib.hid (free_s HK2.out); clear hb2)
      | (go_at_call 59; with_reducible refine (cas_r6 (sl / 8) 1 (seg_of hsl).2.2 f1w HC.out HP2.out HL.out h0 h1).mono ?_; rintro ee x3 ⟨rfl, P3, f3⟩; have HK3 := Lib.hid (HK2.out.fr f3 (by decide) hKp hKb); have HP3 := Lib.hid P3; have HF3 := Lib.hid (HF2.out.trans (.of_fr f3 hBm)); have hs3 := Lib.hid (free_s HK3.out); clear P3 f3)
      | fail)
  obtain ⟨c0, c1, c2, c3, c4, c5, c6, c7, _⟩ := HK3.out.c8
  go_wp2_with fail
  go_end0
  exact ⟨rfl, HK3.out, HP3.out, HF3.out⟩
set_option maxRecDepth 100000 in
set_option maxHeartbeats 4000000 in
theorem free_5_park (hBm : B ≤ m) (hBK : B ≤ K) (hKp : K ≠ p) (hKb : K ≠ b) (hP : Pr p m b n D s L r w) (k : Bk K 92 (FrC sl mo 5 go pw pn pa pu) w) (hw : U64 pw) (hsl : 0 ≤ sl ∧ sl < 256) {v : Int} (hv : vals L (ad6 (sl / 8) (seg_of hsl).2.2 0 f0w) = v) (hv1 : v = 2) (hL : L.length ≤ 999) (h0 : 0 ≤ r.st) (h1 : r.st < 1000000) :
    Calls Tryz.prog 33 #[.pointer (some ⟨K, 0, none⟩), .pointer (some ⟨b, 0, none⟩)] w fun ee w' => ee = .returned (.tuple #[]) ∧ (∃ en kn, Bk K 92 (FrC sl mo 6 go pw pn (some ⟨kn, 0, none⟩) (some ⟨en, 0, none⟩)) w' ∧ RefAt en true sl 1 false 0 0 w' ∧ Bk kn 96 (PkC sl 1 false 0 0 none) w' ∧ w.heap.size ≤ en ∧ en < kn) ∧ Pr p m b n D s L (r.touch 1 (ad6 (sl / 8) (seg_of hsl).2.2 0 f0w) v v false) w' ∧ FxL B p b [K] w w' := by
  have hBw : B ≤ w.heap.size := Nat.le_trans hBm hP.m_le
  have HK0 := Lib.hid k
  have HP0 := Lib.hid hP
  have HF0 := Lib.hid (FxL.of_below (p := p) (b := b) (E := [K]) (Below.refl w.heap.size w) hBw)
  obtain ⟨c0, c1, c2, c3, c4, c5, c6, c7, _⟩ := k.c8
  have HL := Lib.hid hL
  obtain ⟨hg1, hg2, hg3⟩ := seg_of hsl
  have HV := Lib.hid hv
  have HV1 := Lib.hid hv1
  clear k hP hL hv hv1
  go_enter Tryz.func33, Tryz.ntmps33
  go_wp2_with fail
  ((with_reducible refine (asHeader24_any pw w hw).mono ?_); rintro ee w1 ⟨rfl, rfl⟩)
  have z1 := HK0.out.free 2
  have HK1 := Lib.hid (HK0.out.set 2 (.int .i64 7) (cs' := FrC sl mo 7 go pw pn pa pu) rfl)
  have HP1 := Lib.hid (HP0.out.setX HK0.out (by decide) hKp hKb 2 (.int .i64 7))
  have HF1 := Lib.hid (HF0.out.trans (.set (E := [K]) _ hBK (by simp) 2 (.int .i64 7)))
  obtain ⟨e10, e11, e12, e13, e14, e15, e16, e17, _⟩ := HK1.out.c8
  go_wp2_with fail
  ((with_reducible refine (ref_newPush sl hsl.1 hsl.2 _).mono ?_); rintro ee x2 ⟨rfl, RN, hb2, hs2⟩)
  have HK2 := Lib.hid (HK1.out.below hb2)
  have HP2 := Lib.hid (HP1.out.below hb2)
  have HF2 := Lib.hid (HF1.out.trans (.of_below hb2 (Nat.le_trans hBK (Nat.le_of_lt HK1.out.lt))))
  have hKe := HK1.out.lt
  have hle := HF1.out.low.size
  generalize hen : (w1.setCell ⟨K, 2, none⟩ (.int .i64 7)).heap.size = en at *
  have hwe : w1.heap.size ≤ en := by rw [← hen]; simp [World.setCell]
  have HN2 := Lib.hid RN
  clear RN hb2 hs2 hen hle HK0 HP0 HF0 HK1 HP1 HF1 z1 e10 e11 e12 e13 e14 e15 e16 e17 c0 c1 c2 c3 c4 c5 c6 c7
  obtain ⟨c0, c1, c2, c3, c4, c5, c6, c7, _⟩ := HK2.out.c8
  have z3 := HK2.out.free 7
  have HK3 := Lib.hid (HK2.out.set 7 (.pointer (some ⟨en, 0, none⟩)) (cs' := FrC sl mo 7 go pw pn pa (some ⟨en, 0, none⟩)) rfl)
  have HP3 := Lib.hid (HP2.out.setX HK2.out (by decide) hKp hKb 7 (.pointer (some ⟨en, 0, none⟩)))
  have HF3 := Lib.hid (HF2.out.trans (.set (E := [K]) _ hBK (by simp) 7 (.pointer (some ⟨en, 0, none⟩))))
  obtain ⟨e30, e31, e32, e33, e34, e35, e36, e37, _⟩ := HK3.out.c8
  have HN3 := Lib.hid (HN2.out.same (Below.heap_setCell x2 ⟨K, 7, none⟩ (.pointer (some ⟨en, 0, none⟩)) en (show en ≠ K by omega)))
  go_wp2_with fail
  ((with_reducible refine (ref_segment sl 0 (sl / 8) hg1 hg2 _).mono ?_); rintro ee x4 ⟨rfl, hb4⟩)
  have HK4 := Lib.hid (HK3.out.below hb4)
  have HP4 := Lib.hid (HP3.out.below hb4)
  have HF4 := Lib.hid (HF3.out.trans (.of_below hb4 (Nat.le_trans hBK (Nat.le_of_lt HK3.out.lt))))
  have HN4 := Lib.hid (HN3.out.below hb4)
  clear c0 c1 c2 c3 c4 c5 c6 c7
  clear HK3 HP3 HF3 hb4
  obtain ⟨c0, c1, c2, c3, c4, c5, c6, c7, _⟩ := HK4.out.c8
  go_wp2_with fail
  ((with_reducible refine (load_r6 (sl / 8) 0 (seg_of hsl).2.2 f0w HP4.out HL.out h0 h1).mono ?_); rintro ee x5 ⟨rfl, P5, f5⟩)
  have HK5 := Lib.hid (HK4.out.fr f5 (by decide) hKp hKb)
  have HP5 := Lib.hid P5
  have HF5 := Lib.hid (HF4.out.trans (.of_fr f5 hBm))
  have HN5 := Lib.hid (HN4.out.fr f5 (HN4.out.ne_prA HP4.out).1 (HN4.out.ne_prA HP4.out).2)
  clear c0 c1 c2 c3 c4 c5 c6 c7
  clear HK4 HP4 HF4 HN4 P5 f5
  obtain ⟨c0, c1, c2, c3, c4, c5, c6, c7, _⟩ := HK5.out.c8
  have hvv := HV.out
  rw [hvv] at HP5 ⊢
  clear hvv
  have hv1 := HV1.out
  subst hv1
  have z6 := HK5.out.free 2
  have HK6 := Lib.hid (HK5.out.set 2 (.int .i64 6) (cs' := FrC sl mo 6 go pw pn pa (some ⟨en, 0, none⟩)) rfl)
  have HP6 := Lib.hid (HP5.out.setX HK5.out (by decide) hKp hKb 2 (.int .i64 6))
  have HF6 := Lib.hid (HF5.out.trans (.set (E := [K]) _ hBK (by simp) 2 (.int .i64 6)))
  obtain ⟨e60, e61, e62, e63, e64, e65, e66, e67, _⟩ := HK6.out.c8
  have HN6 := Lib.hid (HN5.out.same (Below.heap_setCell x5 ⟨K, 2, none⟩ (.int .i64 6) en (show en ≠ K by omega)))
  go_wp2_with fail
  ((with_reducible refine (newPark_good sl hsl.1 (by omega) _).mono ?_); rintro ee x7 ⟨rfl, kN, hb7, hs7⟩)
  have HK7 := Lib.hid (HK6.out.below hb7)
  have HP7 := Lib.hid (HP6.out.below hb7)
  have HF7 := Lib.hid (HF6.out.trans (.of_below hb7 (Nat.le_trans hBK (Nat.le_of_lt HK6.out.lt))))
  have HN7 := Lib.hid (HN6.out.below hb7)
  have hKk := HK6.out.lt
  have hek := HN6.out.lt
  generalize (x5.setCell ⟨K, 2, none⟩ (.int .i64 6)).heap.size = kn at *
  have HM7 := Lib.hid kN
  clear kN hb7 hs7 e60 e61 e62 e63 e64 e65 e66 e67 c0 c1 c2 c3 c4 c5 c6 c7
  obtain ⟨c0, c1, c2, c3, c4, c5, c6, c7, _⟩ := HK7.out.c8
  have z8 := HK7.out.free 6
  have HK8 := Lib.hid (HK7.out.set 6 (.pointer (some ⟨kn, 0, none⟩)) (cs' := FrC sl mo 6 go pw pn (some ⟨kn, 0, none⟩) (some ⟨en, 0, none⟩)) rfl)
  have HP8 := Lib.hid (HP7.out.setX HK7.out (by decide) hKp hKb 6 (.pointer (some ⟨kn, 0, none⟩)))
  have HF8 := Lib.hid (HF7.out.trans (.set (E := [K]) _ hBK (by simp) 6 (.pointer (some ⟨kn, 0, none⟩))))
  obtain ⟨e80, e81, e82, e83, e84, e85, e86, e87, _⟩ := HK8.out.c8
  have HN8 := Lib.hid (HN7.out.same (Below.heap_setCell x7 ⟨K, 6, none⟩ (.pointer (some ⟨kn, 0, none⟩)) en (show en ≠ K by omega)))
  have HM8 := Lib.hid (HM7.out.same (Below.heap_setCell x7 ⟨K, 6, none⟩ (.pointer (some ⟨kn, 0, none⟩)) kn (show kn ≠ K by omega)))
  go_wp2_with fail
  go_end0
  exact ⟨rfl, ⟨en, kn, HK8.out, HN8.out, HM8.out, hwe, hek⟩, HP8.out, HF8.out⟩
set_option maxRecDepth 100000 in
set_option maxHeartbeats 4000000 in
theorem free_5_push (hBm : B ≤ m) (hBK : B ≤ K) (hKp : K ≠ p) (hKb : K ≠ b) (hP : Pr p m b n D s L r w) (k : Bk K 92 (FrC sl mo 5 go pw pn pa pu) w) (hw : U64 pw) (hsl : 0 ≤ sl ∧ sl < 256) {v : Int} (hv : vals L (ad6 (sl / 8) (seg_of hsl).2.2 0 f0w) = v) (hv1 : v ≠ 2) (hL : L.length ≤ 999) (h0 : 0 ≤ r.st) (h1 : r.st < 1000000) :
    Calls Tryz.prog 33 #[.pointer (some ⟨K, 0, none⟩), .pointer (some ⟨b, 0, none⟩)] w fun ee w' => ee = .returned (.tuple #[]) ∧ (∃ en, Bk K 92 (FrC sl mo 7 go pw pn pa (some ⟨en, 0, none⟩)) w' ∧ RefAt en true sl 1 false 0 0 w' ∧ w.heap.size ≤ en) ∧ Pr p m b n D s L (r.touch 1 (ad6 (sl / 8) (seg_of hsl).2.2 0 f0w) v v false) w' ∧ FxL B p b [K] w w' := by
  have hBw : B ≤ w.heap.size := Nat.le_trans hBm hP.m_le
  have HK0 := Lib.hid k
  have HP0 := Lib.hid hP
  have HF0 := Lib.hid (FxL.of_below (p := p) (b := b) (E := [K]) (Below.refl w.heap.size w) hBw)
  obtain ⟨c0, c1, c2, c3, c4, c5, c6, c7, _⟩ := k.c8
  have HL := Lib.hid hL
  obtain ⟨hg1, hg2, hg3⟩ := seg_of hsl
  have HV := Lib.hid hv
  have hne : (v == 2) = false := by simpa using hv1
  clear k hP hL hv
  go_enter Tryz.func33, Tryz.ntmps33
  go_wp2_with fail
  ((with_reducible refine (asHeader24_any pw w hw).mono ?_); rintro ee w1 ⟨rfl, rfl⟩)
  have z1 := HK0.out.free 2
  have HK1 := Lib.hid (HK0.out.set 2 (.int .i64 7) (cs' := FrC sl mo 7 go pw pn pa pu) rfl)
  have HP1 := Lib.hid (HP0.out.setX HK0.out (by decide) hKp hKb 2 (.int .i64 7))
  have HF1 := Lib.hid (HF0.out.trans (.set (E := [K]) _ hBK (by simp) 2 (.int .i64 7)))
  obtain ⟨e10, e11, e12, e13, e14, e15, e16, e17, _⟩ := HK1.out.c8
  go_wp2_with fail
  ((with_reducible refine (ref_newPush sl hsl.1 hsl.2 _).mono ?_); rintro ee x2 ⟨rfl, RN, hb2, hs2⟩)
  have HK2 := Lib.hid (HK1.out.below hb2)
  have HP2 := Lib.hid (HP1.out.below hb2)
  have HF2 := Lib.hid (HF1.out.trans (.of_below hb2 (Nat.le_trans hBK (Nat.le_of_lt HK1.out.lt))))
  have hKe := HK1.out.lt
  have hle := HF1.out.low.size
  generalize hen : (w1.setCell ⟨K, 2, none⟩ (.int .i64 7)).heap.size = en at *
  have hwe : w1.heap.size ≤ en := by rw [← hen]; simp [World.setCell]
  have HN2 := Lib.hid RN
  clear RN hb2 hs2 hen hle HK0 HP0 HF0 HK1 HP1 HF1 z1 e10 e11 e12 e13 e14 e15 e16 e17 c0 c1 c2 c3 c4 c5 c6 c7
  obtain ⟨c0, c1, c2, c3, c4, c5, c6, c7, _⟩ := HK2.out.c8
  have z3 := HK2.out.free 7
  have HK3 := Lib.hid (HK2.out.set 7 (.pointer (some ⟨en, 0, none⟩)) (cs' := FrC sl mo 7 go pw pn pa (some ⟨en, 0, none⟩)) rfl)
  have HP3 := Lib.hid (HP2.out.setX HK2.out (by decide) hKp hKb 7 (.pointer (some ⟨en, 0, none⟩)))
  have HF3 := Lib.hid (HF2.out.trans (.set (E := [K]) _ hBK (by simp) 7 (.pointer (some ⟨en, 0, none⟩))))
  obtain ⟨e30, e31, e32, e33, e34, e35, e36, e37, _⟩ := HK3.out.c8
  have HN3 := Lib.hid (HN2.out.same (Below.heap_setCell x2 ⟨K, 7, none⟩ (.pointer (some ⟨en, 0, none⟩)) en (show en ≠ K by omega)))
  go_wp2_with fail
  ((with_reducible refine (ref_segment sl 0 (sl / 8) hg1 hg2 _).mono ?_); rintro ee x4 ⟨rfl, hb4⟩)
  have HK4 := Lib.hid (HK3.out.below hb4)
  have HP4 := Lib.hid (HP3.out.below hb4)
  have HF4 := Lib.hid (HF3.out.trans (.of_below hb4 (Nat.le_trans hBK (Nat.le_of_lt HK3.out.lt))))
  have HN4 := Lib.hid (HN3.out.below hb4)
  clear c0 c1 c2 c3 c4 c5 c6 c7
  clear HK3 HP3 HF3 hb4
  obtain ⟨c0, c1, c2, c3, c4, c5, c6, c7, _⟩ := HK4.out.c8
  go_wp2_with fail
  ((with_reducible refine (load_r6 (sl / 8) 0 (seg_of hsl).2.2 f0w HP4.out HL.out h0 h1).mono ?_); rintro ee x5 ⟨rfl, P5, f5⟩)
  have HK5 := Lib.hid (HK4.out.fr f5 (by decide) hKp hKb)
  have HP5 := Lib.hid P5
  have HF5 := Lib.hid (HF4.out.trans (.of_fr f5 hBm))
  have HN5 := Lib.hid (HN4.out.fr f5 (HN4.out.ne_prA HP4.out).1 (HN4.out.ne_prA HP4.out).2)
  clear c0 c1 c2 c3 c4 c5 c6 c7
  clear HK4 HP4 HF4 HN4 P5 f5
  obtain ⟨c0, c1, c2, c3, c4, c5, c6, c7, _⟩ := HK5.out.c8
  have hvv := HV.out
  rw [hvv] at HP5 ⊢
  clear hvv
  go_wp2_with fail
  go_end0
  exact ⟨rfl, ⟨en, HK5.out, HN5.out, hwe⟩, HP5.out, HF5.out⟩
set_option maxRecDepth 100000 in
set_option maxHeartbeats 4000000 in
theorem free_7_end {e : Nat} {psh got : Bool} {sl' ln' h nn : Int} {L' : List (Ad × Int)} {r' : Acc8} (hBK : B ≤ K) (hKp : K ≠ p) (hKb : K ≠ b) (hKe : K ≠ e) (k : Bk K 92 (FrC sl mo 7 go pw pn pa (some ⟨e, 0, none⟩)) w) (hw : U64 pw) (hz : ln' = 0) 
    (hstep : Calls Tryz.prog 52 #[.pointer (some ⟨e, 0, none⟩), .pointer (some ⟨b, 0, none⟩)] w fun ee Y => ee = .returned (.tuple #[]) ∧ RefAt e psh sl' ln' got h nn Y ∧ Pr p m b n D s L' r' Y ∧ Fx B p b p e w Y) :
    Calls Tryz.prog 33 #[.pointer (some ⟨K, 0, none⟩), .pointer (some ⟨b, 0, none⟩)] w fun ee w' => ee = .returned (.tuple #[]) ∧ Bk K 92 (FrC sl mo 0 go pw pn pa (some ⟨e, 0, none⟩)) w' ∧ RefAt e psh sl' ln' got h nn w' ∧ Pr p m b n D s L' r' w' ∧ FxL B p b [K, e] w w' := by
  have HK0 := Lib.hid k
  have HST := Lib.hid hstep
  obtain ⟨c0, c1, c2, c3, c4, c5, c6, c7, _⟩ := k.c8
  have HZ := Lib.hid hz
  clear k hstep hz
  go_enter Tryz.func33, Tryz.ntmps33
  go_wp2_with fail
  ((with_reducible refine (asHeader24_any pw w hw).mono ?_); rintro ee w1 ⟨rfl, rfl⟩)
  go_wp2_with fail
  (refine (HST.out).mono ?_; rintro ee x1 ⟨rfl, R1, P1, f1⟩)
  have HF1 := Lib.hid (show FxL B p b [K, e] w1 x1 from ⟨f1.low, fun x cs t fr hx ht h1 h2 h3 => f1.far x cs t fr hx ht h1 h2 h1 (fun k => h3 (by simp [k]))⟩)
  have HK1 := Lib.hid (show Bk K 92 (FrC sl mo 7 go pw pn pa (some ⟨e, 0, none⟩)) x1 from f1.far K _ _ _ HK0.out (by decide) hKp hKb hKp hKe)
  have HR1 := Lib.hid R1
  have HP1 := Lib.hid P1
  have r2 := R1.cells.2.2.1
  rw [HZ.out] at r2
  clear R1 P1 f1 HST HK0 c0 c1 c2 c3 c4 c5 c6 c7
  obtain ⟨c0, c1, c2, c3, c4, c5, c6, c7, _⟩ := HK1.out.c8
  have z1 := HK1.out.free 2
  have HK2 := Lib.hid (HK1.out.set 2 (.int .i64 0) (cs' := FrC sl mo 0 go pw pn pa (some ⟨e, 0, none⟩)) rfl)
  have HP2 := Lib.hid (HP1.out.setX HK1.out (by decide) hKp hKb 2 (.int .i64 0))
  have HF2 := Lib.hid (HF1.out.trans (.set (E := [K, e]) _ hBK (by simp) 2 (.int .i64 0)))
  have HR2 := Lib.hid (HR1.out.same (Below.heap_setCell x1 ⟨K, 2, none⟩ (.int .i64 0) e (Ne.symm hKe)))
  go_wp2_with fail
  go_end0
  exact ⟨rfl, HK2.out, HR2.out, HP2.out, HF2.out⟩
set_option maxRecDepth 100000 in
set_option maxHeartbeats 4000000 in
theorem free_7_on {e : Nat} {psh got : Bool} {sl' ln' h nn : Int} {L' : List (Ad × Int)} {r' : Acc8} (_ : B ≤ K) (hKp : K ≠ p) (hKb : K ≠ b) (hKe : K ≠ e) (k : Bk K 92 (FrC sl mo 7 go pw pn pa (some ⟨e, 0, none⟩)) w) (hw : U64 pw) (hz : ln' ≠ 0) 
    (hstep : Calls Tryz.prog 52 #[.pointer (some ⟨e, 0, none⟩), .pointer (some ⟨b, 0, none⟩)] w fun ee Y => ee = .returned (.tuple #[]) ∧ RefAt e psh sl' ln' got h nn Y ∧ Pr p m b n D s L' r' Y ∧ Fx B p b p e w Y) :
    Calls Tryz.prog 33 #[.pointer (some ⟨K, 0, none⟩), .pointer (some ⟨b, 0, none⟩)] w fun ee w' => ee = .returned (.tuple #[]) ∧ Bk K 92 (FrC sl mo 7 go pw pn pa (some ⟨e, 0, none⟩)) w' ∧ RefAt e psh sl' ln' got h nn w' ∧ Pr p m b n D s L' r' w' ∧ FxL B p b [K, e] w w' := by
  have HK0 := Lib.hid k
  have HST := Lib.hid hstep
  obtain ⟨c0, c1, c2, c3, c4, c5, c6, c7, _⟩ := k.c8
  have hzb : (ln' == 0) = false := by simpa using hz
  have HZ := Lib.hid hz
  clear k hstep hz
  go_enter Tryz.func33, Tryz.ntmps33
  go_wp2_with fail
  ((with_reducible refine (asHeader24_any pw w hw).mono ?_); rintro ee w1 ⟨rfl, rfl⟩)
  go_wp2_with fail
  (refine (HST.out).mono ?_; rintro ee x1 ⟨rfl, R1, P1, f1⟩)
  have HF1 := Lib.hid (show FxL B p b [K, e] w1 x1 from ⟨f1.low, fun x cs t fr hx ht h1 h2 h3 => f1.far x cs t fr hx ht h1 h2 h1 (fun k => h3 (by simp [k]))⟩)
  have HK1 := Lib.hid (show Bk K 92 (FrC sl mo 7 go pw pn pa (some ⟨e, 0, none⟩)) x1 from f1.far K _ _ _ HK0.out (by decide) hKp hKb hKp hKe)
  have HR1 := Lib.hid R1
  have HP1 := Lib.hid P1
  have r2 := R1.cells.2.2.1
  clear R1 P1 f1 HST HK0 c0 c1 c2 c3 c4 c5 c6 c7
  obtain ⟨c0, c1, c2, c3, c4, c5, c6, c7, _⟩ := HK1.out.c8
  go_wp2_with fail
  go_end0
  exact ⟨rfl, HK1.out, HR1.out, HP1.out, HF1.out⟩
set_option maxRecDepth 100000 in
set_option maxHeartbeats 4000000 in
theorem free_6_on {kn : Nat} {E : List Nat} {R : Option Addr → World → Prop} {sl' ln' w9 n9 : Int} {st' : Bool} {L' : List (Ad × Int)} {r' : Acc8} (_ : B ≤ K) (hKp : K ≠ p) (hKb : K ≠ b) (hKE : K ∉ E) (_ : kn ≠ K) (k : Bk K 92 (FrC sl mo 6 go pw pn (some ⟨kn, 0, none⟩) pu) w) (hw : U64 pw) (hz : ln' ≠ 0) (_ : ∀ a X i v, R a X → R a (X.setCell ⟨K, i, none⟩ v))
    (hstep : Calls Tryz.prog 35 #[.pointer (some ⟨kn, 0, none⟩), .pointer (some ⟨b, 0, none⟩)] w fun ee Y => ee = .returned (.tuple #[]) ∧ (∃ pu9, Bk kn 96 (PkC sl' ln' st' w9 n9 pu9) Y ∧ R pu9 Y) ∧ Pr p m b n D s L' r' Y ∧ FxL B p b E w Y) :
    Calls Tryz.prog 33 #[.pointer (some ⟨K, 0, none⟩), .pointer (some ⟨b, 0, none⟩)] w fun ee w' => ee = .returned (.tuple #[]) ∧ Bk K 92 (FrC sl mo 6 go pw pn (some ⟨kn, 0, none⟩) pu) w' ∧ (∃ pu9, Bk kn 96 (PkC sl' ln' st' w9 n9 pu9) w' ∧ R pu9 w') ∧ Pr p m b n D s L' r' w' ∧ FxL B p b (K :: E) w w' := by
  have HK0 := Lib.hid k
  have HST := Lib.hid hstep
  obtain ⟨c0, c1, c2, c3, c4, c5, c6, c7, _⟩ := k.c8
  have hzb : (ln' == 0) = false := by simpa using hz
  have HZ := Lib.hid hz
  clear k hstep hz
  go_enter Tryz.func33, Tryz.ntmps33
  go_wp2_with fail
  ((with_reducible refine (asHeader24_any pw w hw).mono ?_); rintro ee w1 ⟨rfl, rfl⟩)
  go_wp2_with fail
  (refine (HST.out).mono ?_; rintro ee x1 ⟨rfl, ⟨pu9, M1, R1⟩, P1, f1⟩)
  have HF1 := Lib.hid (f1.more (E' := K :: E) (fun x hx => List.mem_cons_of_mem _ hx))
  have HK1 := Lib.hid (show Bk K 92 (FrC sl mo 6 go pw pn (some ⟨kn, 0, none⟩) pu) x1 from f1.far K _ _ _ HK0.out (by decide) hKp hKb hKE)
  have HR1 := Lib.hid R1
  have HP1 := Lib.hid P1
  have HM1 := Lib.hid M1
  have r1 := M1.cell 1
  have r2 := M1.cell 2
  simp only [PkC, List.getElem?_cons_zero, List.getElem?_cons_succ] at r1 r2
  clear R1 P1 M1 f1 HST HK0 c0 c1 c2 c3 c4 c5 c6 c7
  obtain ⟨c0, c1, c2, c3, c4, c5, c6, c7, _⟩ := HK1.out.c8
  go_wp2_with fail
  go_end0
  exact ⟨rfl, HK1.out, ⟨_, HM1.out, HR1.out⟩, HP1.out, HF1.out⟩
set_option maxRecDepth 100000 in
set_option maxHeartbeats 4000000 in
theorem free_6_free {kn : Nat} {E : List Nat} {R : Option Addr → World → Prop} {sl' ln' w9 n9 : Int} {st' : Bool} {L' : List (Ad × Int)} {r' : Acc8} (hBK : B ≤ K) (hKp : K ≠ p) (hKb : K ≠ b) (hKE : K ∉ E) (hKk : kn ≠ K) (k : Bk K 92 (FrC sl mo 6 go pw pn (some ⟨kn, 0, none⟩) pu) w) (hw : U64 pw) (hz : ln' = 0) (hst : st' = false) (hR : ∀ a X i v, R a X → R a (X.setCell ⟨K, i, none⟩ v))
    (hstep : Calls Tryz.prog 35 #[.pointer (some ⟨kn, 0, none⟩), .pointer (some ⟨b, 0, none⟩)] w fun ee Y => ee = .returned (.tuple #[]) ∧ (∃ pu9, Bk kn 96 (PkC sl' ln' st' w9 n9 pu9) Y ∧ R pu9 Y) ∧ Pr p m b n D s L' r' Y ∧ FxL B p b E w Y) :
    Calls Tryz.prog 33 #[.pointer (some ⟨K, 0, none⟩), .pointer (some ⟨b, 0, none⟩)] w fun ee w' => ee = .returned (.tuple #[]) ∧ Bk K 92 (FrC sl mo 0 go pw pn (some ⟨kn, 0, none⟩) pu) w' ∧ (∃ pu9, Bk kn 96 (PkC sl' ln' st' w9 n9 pu9) w' ∧ R pu9 w') ∧ Pr p m b n D s L' r' w' ∧ FxL B p b (K :: E) w w' := by
  have HK0 := Lib.hid k
  have HST := Lib.hid hstep
  obtain ⟨c0, c1, c2, c3, c4, c5, c6, c7, _⟩ := k.c8
  have HZ := Lib.hid hz
  clear k hstep hz
  go_enter Tryz.func33, Tryz.ntmps33
  go_wp2_with fail
  ((with_reducible refine (asHeader24_any pw w hw).mono ?_); rintro ee w1 ⟨rfl, rfl⟩)
  go_wp2_with fail
  (refine (HST.out).mono ?_; rintro ee x1 ⟨rfl, ⟨pu9, M1, R1⟩, P1, f1⟩)
  have HF1 := Lib.hid (f1.more (E' := K :: E) (fun x hx => List.mem_cons_of_mem _ hx))
  have HK1 := Lib.hid (show Bk K 92 (FrC sl mo 6 go pw pn (some ⟨kn, 0, none⟩) pu) x1 from f1.far K _ _ _ HK0.out (by decide) hKp hKb hKE)
  have HR1 := Lib.hid R1
  have HP1 := Lib.hid P1
  have HM1 := Lib.hid M1
  have r1 := M1.cell 1
  have r2 := M1.cell 2
  simp only [PkC, List.getElem?_cons_zero, List.getElem?_cons_succ] at r1 r2
  rw [HZ.out] at r1
  have HSTT := Lib.hid hst
  rw [hst] at r2
  clear hst
  clear R1 P1 M1 f1 HST HK0 c0 c1 c2 c3 c4 c5 c6 c7
  obtain ⟨c0, c1, c2, c3, c4, c5, c6, c7, _⟩ := HK1.out.c8
  have z1 := HK1.out.free 2
  have HK2 := Lib.hid (HK1.out.set 2 (.int .i64 0) (cs' := FrC sl mo 0 go pw pn (some ⟨kn, 0, none⟩) pu) rfl)
  have HP2 := Lib.hid (HP1.out.setX HK1.out (by decide) hKp hKb 2 (.int .i64 0))
  have HF2 := Lib.hid (HF1.out.trans (.set (E := K :: E) _ hBK (by simp) 2 (.int .i64 0)))
  have HR2 := Lib.hid (hR _ _ 2 (.int .i64 0) HR1.out)
  have HM2 := Lib.hid (HM1.out.same (Below.heap_setCell x1 ⟨K, 2, none⟩ (.int .i64 0) kn hKk))
  have q2 := HM2.out.cell 2
  simp only [PkC, List.getElem?_cons_zero, List.getElem?_cons_succ] at q2
  rw [HSTT.out] at q2
  obtain ⟨e20, e21, e22, e23, e24, e25, e26, e27, _⟩ := HK2.out.c8
  go_wp2_with fail
  go_end0
  exact ⟨rfl, HK2.out, ⟨_, HM2.out, HR2.out⟩, HP2.out, HF2.out⟩
set_option maxRecDepth 100000 in
set_option maxHeartbeats 4000000 in
theorem free_6_parked {kn : Nat} {E : List Nat} {R : Option Addr → World → Prop} {sl' ln' w9 n9 : Int} {st' : Bool} {L' : List (Ad × Int)} {r' : Acc8} (hBK : B ≤ K) (hKp : K ≠ p) (hKb : K ≠ b) (hKE : K ∉ E) (hKk : kn ≠ K) (k : Bk K 92 (FrC sl mo 6 go pw pn (some ⟨kn, 0, none⟩) pu) w) (hw : U64 pw) (hz : ln' = 0) (hst : st' = true) (hR : ∀ a X i v, R a X → R a (X.setCell ⟨K, i, none⟩ v))
    (hstep : Calls Tryz.prog 35 #[.pointer (some ⟨kn, 0, none⟩), .pointer (some ⟨b, 0, none⟩)] w fun ee Y => ee = .returned (.tuple #[]) ∧ (∃ pu9, Bk kn 96 (PkC sl' ln' st' w9 n9 pu9) Y ∧ R pu9 Y) ∧ Pr p m b n D s L' r' Y ∧ FxL B p b E w Y) :
    Calls Tryz.prog 33 #[.pointer (some ⟨K, 0, none⟩), .pointer (some ⟨b, 0, none⟩)] w fun ee w' => ee = .returned (.tuple #[]) ∧ Bk K 92 (FrC sl mo 0 3 pw pn (some ⟨kn, 0, none⟩) pu) w' ∧ (∃ pu9, Bk kn 96 (PkC sl' ln' st' w9 n9 pu9) w' ∧ R pu9 w') ∧ Pr p m b n D s L' r' w' ∧ FxL B p b (K :: E) w w' := by
  have HK0 := Lib.hid k
  have HST := Lib.hid hstep
  obtain ⟨c0, c1, c2, c3, c4, c5, c6, c7, _⟩ := k.c8
  have HZ := Lib.hid hz
  clear k hstep hz
  go_enter Tryz.func33, Tryz.ntmps33
  go_wp2_with fail
  ((with_reducible refine (asHeader24_any pw w hw).mono ?_); rintro ee w1 ⟨rfl, rfl⟩)
  go_wp2_with fail
  (refine (HST.out).mono ?_; rintro ee x1 ⟨rfl, ⟨pu9, M1, R1⟩, P1, f1⟩)
  have HF1 := Lib.hid (f1.more (E' := K :: E) (fun x hx => List.mem_cons_of_mem _ hx))
  have HK1 := Lib.hid (show Bk K 92 (FrC sl mo 6 go pw pn (some ⟨kn, 0, none⟩) pu) x1 from f1.far K _ _ _ HK0.out (by decide) hKp hKb hKE)
  have HR1 := Lib.hid R1
  have HP1 := Lib.hid P1
  have HM1 := Lib.hid M1
  have r1 := M1.cell 1
  have r2 := M1.cell 2
  simp only [PkC, List.getElem?_cons_zero, List.getElem?_cons_succ] at r1 r2
  rw [HZ.out] at r1
  have HSTT := Lib.hid hst
  rw [hst] at r2
  clear hst
  clear R1 P1 M1 f1 HST HK0 c0 c1 c2 c3 c4 c5 c6 c7
  obtain ⟨c0, c1, c2, c3, c4, c5, c6, c7, _⟩ := HK1.out.c8
  have z1 := HK1.out.free 2
  have HK2 := Lib.hid (HK1.out.set 2 (.int .i64 0) (cs' := FrC sl mo 0 go pw pn (some ⟨kn, 0, none⟩) pu) rfl)
  have HP2 := Lib.hid (HP1.out.setX HK1.out (by decide) hKp hKb 2 (.int .i64 0))
  have HF2 := Lib.hid (HF1.out.trans (.set (E := K :: E) _ hBK (by simp) 2 (.int .i64 0)))
  have HR2 := Lib.hid (hR _ _ 2 (.int .i64 0) HR1.out)
  have HM2 := Lib.hid (HM1.out.same (Below.heap_setCell x1 ⟨K, 2, none⟩ (.int .i64 0) kn hKk))
  have q2 := HM2.out.cell 2
  simp only [PkC, List.getElem?_cons_zero, List.getElem?_cons_succ] at q2
  rw [HSTT.out] at q2
  obtain ⟨e20, e21, e22, e23, e24, e25, e26, e27, _⟩ := HK2.out.c8
  have z2 := HK2.out.free 3
  have HK3 := Lib.hid (HK2.out.set 3 (.int .u8 3) (cs' := FrC sl mo 0 3 pw pn (some ⟨kn, 0, none⟩) pu) rfl)
  have HP3 := Lib.hid (HP2.out.setX HK2.out (by decide) hKp hKb 3 (.int .u8 3))
  have HF3 := Lib.hid (HF2.out.trans (.set (E := K :: E) _ hBK (by simp) 3 (.int .u8 3)))
  have HR3 := Lib.hid (hR _ _ 3 (.int .u8 3) HR2.out)
  have HM3 := Lib.hid (HM2.out.same (Below.heap_setCell _ ⟨K, 3, none⟩ (.int .u8 3) kn hKk))
  go_wp2_with fail
  go_end0
  exact ⟨rfl, HK3.out, ⟨_, HM3.out, HR3.out⟩, HP3.out, HF3.out⟩
set_option maxRecDepth 100000 in
theorem free_0 (k : Bk K 92 (FrC sl mo 0 go pw pn pa pu) w) (hw : U64 pw) : Calls Tryz.prog 33 #[.pointer (some ⟨K, 0, none⟩), .pointer (some ⟨b, 0, none⟩)] w fun ee w' => ee = .returned (.tuple #[]) ∧ w = w' := by
  obtain ⟨c0, c1, c2, c3, c4, c5, c6, c7, _⟩ := k.c8
  clear k
  go_enter Tryz.func33, Tryz.ntmps33
  go_wp2_with fail
  ((with_reducible refine (asHeader24_any pw w hw).mono ?_); rintro ee w1 ⟨rfl, rfl⟩)
  go_wp2_with fail
  go_end0
  exact ⟨rfl, rfl⟩
theorem newFree_good (t mo : Int) (h0 : 0 ≤ t) (h1 : t ≤ 255) (w : World) : Calls Tryz.prog 9 #[.int .i64 t, .int .u32 mo] w fun ee w' => ee = .returned (.pointer (some ⟨w.heap.size, 0, none⟩)) ∧ Bk w.heap.size 92 (FrC t mo 1 0 0 0 none none) w' ∧ Below w.heap.size w w' ∧ w'.heap.size = w.heap.size + 1 := by
  go_enter Tryz.func9, Tryz.ntmps9
  go_wp2
  go_ret
  exact ⟨rfl, Bk.new _ _ _, (Below.refl _ _).alloc (Nat.le_refl _) _, by simp⟩
theorem newFree_low (t mo : Int) (h0 : t < 0) (w : World) : Calls Tryz.prog 9 #[.int .i64 t, .int .u32 mo] w fun ee w' => ee = .returned (.pointer (some ⟨w.heap.size, 0, none⟩)) ∧ Bk w.heap.size 92 (FrC 0 0 0 0 0 0 none none) w' ∧ Below w.heap.size w w' ∧ w'.heap.size = w.heap.size + 1 := by
  go_enter Tryz.func9, Tryz.ntmps9
  go_wp2
  go_ret
  exact ⟨rfl, Bk.new _ _ _, (Below.refl _ _).alloc (Nat.le_refl _) _, by simp⟩
theorem newFree_high (t mo : Int) (h0 : 255 < t) (h1 : 0 ≤ t) (w : World) : Calls Tryz.prog 9 #[.int .i64 t, .int .u32 mo] w fun ee w' => ee = .returned (.pointer (some ⟨w.heap.size, 0, none⟩)) ∧ Bk w.heap.size 92 (FrC 0 0 0 0 0 0 none none) w' ∧ Below w.heap.size w w' ∧ w'.heap.size = w.heap.size + 1 := by
  go_enter Tryz.func9, Tryz.ntmps9
  go_wp2
  go_ret
  exact ⟨rfl, Bk.new _ _ _, (Below.refl _ _).alloc (Nat.le_refl _) _, by simp⟩
end
end Go.Proofs.YtlcbinckbkdgdaaGreatDoor
namespace Go.Proofs.YtlcbinckbkdgdaaGreatDoor
open Go.RowKit Go.Maps

/-- The cells of an Alloc of the document's. -/
def AlC (ln sl ge : Int) (mk go : Bool) (pp pa : Option Addr) (e w : Int) : List Value := [.int .i64 ln, .int .i64 sl, .int .u32 ge, .bool mk, .bool go, .pointer pp, .pointer pa, .int .u64 e, .int .u64 w]
section
variable {B p m b n K : Nat} {sl ge pe pw : Int} {mk go : Bool} {pp pa : Option Addr} {D : DataW Unit} {s r : Acc8} {L : List (Ad × Int)} {w w' : World}
theorem Bk.c9 {t : TypeId} {c0 c1 c2 c3 c4 c5 c6 c7 c8 : Value} (k : Bk K t [c0, c1, c2, c3, c4, c5, c6, c7, c8] w) : w.cell? ⟨K, 0, none⟩ = some c0 ∧ w.cell? ⟨K, 1, none⟩ = some c1 ∧ w.cell? ⟨K, 2, none⟩ = some c2 ∧ w.cell? ⟨K, 3, none⟩ = some c3 ∧ w.cell? ⟨K, 4, none⟩ = some c4 ∧ w.cell? ⟨K, 5, none⟩ = some c5 ∧ w.cell? ⟨K, 6, none⟩ = some c6 ∧ w.cell? ⟨K, 7, none⟩ = some c7 ∧ w.cell? ⟨K, 8, none⟩ = some c8 ∧ ∀ i, w.frozen? ⟨K, i, none⟩ = false :=
  ⟨k.cell 0, k.cell 1, k.cell 2, k.cell 3, k.cell 4, k.cell 5, k.cell 6, k.cell 7, k.cell 8, k.free⟩
theorem u8_1 : U8 1 := by unfold U8; decide
theorem alloc_s {ln : Int} (k : Bk K 84 (AlC ln sl ge mk go pp pa pe pw) w) : w.cell? ⟨K, 1, none⟩ = some (.int .i64 sl) ∧ w.cell? ⟨K, 2, none⟩ = some (.int .u32 ge) ∧ w.cell? ⟨K, 7, none⟩ = some (.int .u64 pe) := ⟨k.cell 1, k.cell 2, k.cell 7⟩
theorem load_rE (h : Pr p m b n D s L r w) (hL : L.length ≤ 999) (h0 : 0 ≤ r.st) (h1 : r.st < 1000000) :
    Calls Tryz.prog 53 #[.pointer (some ⟨b, 0, none⟩), .agg #[.int .u8 2, .int .i64 0, .int .i64 0]] w fun ee w' => ee = .returned (.int .u64 (vals L adE)) ∧ Pr p m b n D s L (r.touch 1 adE (vals L adE) (vals L adE) false) w' ∧ Fr p m b w w' := load_r adE h hL h0 h1
set_option maxRecDepth 100000 in
set_option maxHeartbeats 4000000 in
theorem alloc_4 (hBm : B ≤ m) (hBK : B ≤ K) (hKp : K ≠ p) (hKb : K ≠ b) (hP : Pr p m b n D s L r w) (k : Bk K 84 (AlC 4 sl ge mk go pp pa pe pw) w) (hsl : 0 ≤ sl ∧ sl < 256) {v : Int} (hv : vals L adE = v) (hL : L.length ≤ 999) (h0 : 0 ≤ r.st) (h1 : r.st < 1000000) :
    Calls Tryz.prog 29 #[.pointer (some ⟨K, 0, none⟩), .pointer (some ⟨b, 0, none⟩)] w fun ee w' => ee = .returned (.tuple #[]) ∧ Bk K 84 (AlC 5 sl ge mk go pp pa v pw) w' ∧ Pr p m b n D s L (r.touch 1 adE v v false) w' ∧ FxL B p b [K] w w' := by
  have hBw : B ≤ w.heap.size := Nat.le_trans hBm hP.m_le
  have HK0 := Lib.hid k
  have HP0 := Lib.hid hP
  have HF0 := Lib.hid (FxL.of_below (p := p) (b := b) (E := [K]) (Below.refl w.heap.size w) hBw)
  obtain ⟨c0, c1, c2, c3, c4, c5, c6, c7, c8, _⟩ := k.c9
  have HL := Lib.hid hL
  obtain ⟨hg1, hg2, hg3⟩ := seg_of hsl
  have HV := Lib.hid hv
  clear k hP hL hv
  go_enter Tryz.func29, Tryz.ntmps29
  go_wp2_with fail
  ((with_reducible refine (load_rE HP0.out HL.out h0 h1).mono ?_); rintro ee x1 ⟨rfl, P1, f1⟩)
  have HK1 := Lib.hid (HK0.out.fr f1 (by decide) hKp hKb)
  have HP1 := Lib.hid P1
  have HF1 := Lib.hid (HF0.out.trans (.of_fr f1 hBm))
  clear c0 c1 c2 c3 c4 c5 c6 c7 c8
  clear HK0 HP0 HF0 P1 f1
  obtain ⟨c0, c1, c2, c3, c4, c5, c6, c7, c8, _⟩ := HK1.out.c9
  have hvv := HV.out
  rw [hvv] at HP1 ⊢
  clear hvv
  have z2 := HK1.out.free 7
  have HK2 := Lib.hid (HK1.out.set 7 (.int .u64 v) (cs' := AlC 4 sl ge mk go pp pa v pw) rfl)
  have HP2 := Lib.hid (HP1.out.setX HK1.out (by decide) hKp hKb 7 (.int .u64 v))
  have HF2 := Lib.hid (HF1.out.trans (.set (E := [K]) _ hBK (by simp) 7 (.int .u64 v)))
  obtain ⟨e20, e21, e22, e23, e24, e25, e26, e27, e28, _⟩ := HK2.out.c9
  have z3 := HK2.out.free 0
  have HK3 := Lib.hid (HK2.out.set 0 (.int .i64 5) (cs' := AlC 5 sl ge mk go pp pa v pw) rfl)
  have HP3 := Lib.hid (HP2.out.setX HK2.out (by decide) hKp hKb 0 (.int .i64 5))
  have HF3 := Lib.hid (HF2.out.trans (.set (E := [K]) _ hBK (by simp) 0 (.int .i64 5)))
  obtain ⟨e30, e31, e32, e33, e34, e35, e36, e37, e38, _⟩ := HK3.out.c9
  go_wp2_with fail
  go_end0
  exact ⟨rfl, HK3.out, HP3.out, HF3.out⟩
set_option maxRecDepth 100000 in
set_option maxHeartbeats 4000000 in
theorem alloc_6 (hBm : B ≤ m) (hBK : B ≤ K) (hKp : K ≠ p) (hKb : K ≠ b) (hP : Pr p m b n D s L r w) (k : Bk K 84 (AlC 6 sl ge mk go pp pa pe pw) w) (hsl : 0 ≤ sl ∧ sl < 256) {v : Int} (hv : vals L (ad9 sl (i64_slot hsl) 0 f0w) = v) (hL : L.length ≤ 999) (h0 : 0 ≤ r.st) (h1 : r.st < 1000000) :
    Calls Tryz.prog 29 #[.pointer (some ⟨K, 0, none⟩), .pointer (some ⟨b, 0, none⟩)] w fun ee w' => ee = .returned (.tuple #[]) ∧ Bk K 84 (AlC 7 sl ge mk go pp pa pe v) w' ∧ Pr p m b n D s L (r.touch 1 (ad9 sl (i64_slot hsl) 0 f0w) v v false) w' ∧ FxL B p b [K] w w' := by
  have hBw : B ≤ w.heap.size := Nat.le_trans hBm hP.m_le
  have HK0 := Lib.hid k
  have HP0 := Lib.hid hP
  have HF0 := Lib.hid (FxL.of_below (p := p) (b := b) (E := [K]) (Below.refl w.heap.size w) hBw)
  obtain ⟨c0, c1, c2, c3, c4, c5, c6, c7, c8, _⟩ := k.c9
  have HL := Lib.hid hL
  obtain ⟨hg1, hg2, hg3⟩ := seg_of hsl
  have HV := Lib.hid hv
  clear k hP hL hv
  go_enter Tryz.func29, Tryz.ntmps29
  go_wp2_with fail
  ((with_reducible refine (ref_slotted sl 0 _).mono ?_); rintro ee x1 ⟨rfl, hb1⟩)
  have HK1 := Lib.hid (HK0.out.below hb1)
  have HP1 := Lib.hid (HP0.out.below hb1)
  have HF1 := Lib.hid (HF0.out.trans (.of_below hb1 (Nat.le_trans hBK (Nat.le_of_lt HK0.out.lt))))
  clear c0 c1 c2 c3 c4 c5 c6 c7 c8
  clear HK0 HP0 HF0 hb1
  obtain ⟨c0, c1, c2, c3, c4, c5, c6, c7, c8, _⟩ := HK1.out.c9
  go_wp2_with fail
  ((with_reducible refine (load_r9 sl 0 (i64_slot hsl) f0w HP1.out HL.out h0 h1).mono ?_); rintro ee x2 ⟨rfl, P2, f2⟩)
  have HK2 := Lib.hid (HK1.out.fr f2 (by decide) hKp hKb)
  have HP2 := Lib.hid P2
  have HF2 := Lib.hid (HF1.out.trans (.of_fr f2 hBm))
  clear c0 c1 c2 c3 c4 c5 c6 c7 c8
  clear HK1 HP1 HF1 P2 f2
  obtain ⟨c0, c1, c2, c3, c4, c5, c6, c7, c8, _⟩ := HK2.out.c9
  have hvv := HV.out
  rw [hvv] at HP2 ⊢
  clear hvv
  have z3 := HK2.out.free 8
  have HK3 := Lib.hid (HK2.out.set 8 (.int .u64 v) (cs' := AlC 6 sl ge mk go pp pa pe v) rfl)
  have HP3 := Lib.hid (HP2.out.setX HK2.out (by decide) hKp hKb 8 (.int .u64 v))
  have HF3 := Lib.hid (HF2.out.trans (.set (E := [K]) _ hBK (by simp) 8 (.int .u64 v)))
  obtain ⟨e30, e31, e32, e33, e34, e35, e36, e37, e38, _⟩ := HK3.out.c9
  have z4 := HK3.out.free 0
  have HK4 := Lib.hid (HK3.out.set 0 (.int .i64 7) (cs' := AlC 7 sl ge mk go pp pa pe v) rfl)
  have HP4 := Lib.hid (HP3.out.setX HK3.out (by decide) hKp hKb 0 (.int .i64 7))
  have HF4 := Lib.hid (HF3.out.trans (.set (E := [K]) _ hBK (by simp) 0 (.int .i64 7)))
  obtain ⟨e40, e41, e42, e43, e44, e45, e46, e47, e48, _⟩ := HK4.out.c9
  go_wp2_with fail
  go_end0
  exact ⟨rfl, HK4.out, HP4.out, HF4.out⟩
set_option maxRecDepth 100000 in
set_option maxHeartbeats 4000000 in
theorem alloc_5 (hBm : B ≤ m) (hBK : B ≤ K) (hKp : K ≠ p) (hKb : K ≠ b) (hP : Pr p m b n D s L r w) (k : Bk K 84 (AlC 5 sl ge mk go pp pa pe pw) w) (hsl : 0 ≤ sl ∧ sl < 256) (hL : L.length ≤ 999) (h0 : 0 ≤ r.st) (h1 : r.st < 1000000) :
    Calls Tryz.prog 29 #[.pointer (some ⟨K, 0, none⟩), .pointer (some ⟨b, 0, none⟩)] w fun ee w' => ee = .returned (.tuple #[]) ∧ Bk K 84 (AlC 6 sl ge mk go pp pa pe pw) w' ∧ Pr p m b n D s (storeA L (ad9 sl (i64_slot hsl) 1 f1w) pe) (r.touch 2 (ad9 sl (i64_slot hsl) 1 f1w) (vals L (ad9 sl (i64_slot hsl) 1 f1w)) (vals (storeA L (ad9 sl (i64_slot hsl) 1 f1w) pe) (ad9 sl (i64_slot hsl) 1 f1w)) false) w' ∧ FxL B p b [K] w w' := by
  have hBw : B ≤ w.heap.size := Nat.le_trans hBm hP.m_le
  have HK0 := Lib.hid k
  have HP0 := Lib.hid hP
  have HF0 := Lib.hid (FxL.of_below (p := p) (b := b) (E := [K]) (Below.refl w.heap.size w) hBw)
  obtain ⟨c0, c1, c2, c3, c4, c5, c6, c7, c8, _⟩ := k.c9
  have HL := Lib.hid hL
  obtain ⟨hg1, hg2, hg3⟩ := seg_of hsl
  clear k hP hL 
  go_enter Tryz.func29, Tryz.ntmps29
  go_wp2_with fail
  have HKd := Lib.hid (HK0.out.below (Below.refl _ w).drew)
  have HPd := Lib.hid (HP0.out.below (Below.refl _ w).drew)
  have HFd := Lib.hid (HF0.out.trans (.of_below (Below.refl _ w).drew (Nat.le_trans hBK (Nat.le_of_lt HK0.out.lt))))
  have hs0 := Lib.hid (alloc_s HKd.out)
  clear HK0 HP0 HF0 
  clear c0 c1 c2 c3 c4 c5 c6 c7 c8
  go_region_held3 (fun w9 => w9.cell? ⟨K, 1, none⟩ = some (.int .i64 sl) ∧ w9.cell? ⟨K, 2, none⟩ = some (.int .u32 ge) ∧ w9.cell? ⟨K, 7, none⟩ = some (.int .u64 pe))
    (first | exact hs0.out | exact hs8.out | exact hs9.out | fail)
    (first
      | (go_at_call 55; with_reducible refine (ref_slotted sl 1 _).mono ?_; rintro ee x8 ⟨rfl, hb8⟩; have HK8 := Lib.hid (HKd.out.below hb8); have HP8 := Lib.hid (HPd.out.below hb8); have HF8 := Lib.hid (HFd.out.trans (.of_below hb8 (Nat.le_trans hBK (Nat.le_of_lt HKd.out.lt)))); have hs8 := Lib.hid (alloc_s HK8.out); clear hb8)
      | (go_at_call 28; with_reducible refine (store_r9 sl 1 (i64_slot hsl) f1w pe HP8.out HL.out h0 h1).mono ?_; rintro ee x9 ⟨rfl, P9, f9⟩; have HK9 := Lib.hid (HK8.out.fr f9 (by decide) hKp hKb); have HP9 := Lib.hid P9; have HF9 := Lib.hid (HF8.out.trans (.of_fr f9 hBm)); have hs9 := Lib.hid (alloc_s HK9.out); clear P9 f9)
      | fail)
  obtain ⟨c0, c1, c2, c3, c4, c5, c6, c7, c8, _⟩ := HK9.out.c9
  have z10 := HK9.out.free 0
  have HK10 := Lib.hid (HK9.out.set 0 (.int .i64 6) (cs' := AlC 6 sl ge mk go pp pa pe pw) rfl)
  have HP10 := Lib.hid (HP9.out.setX HK9.out (by decide) hKp hKb 0 (.int .i64 6))
  have HF10 := Lib.hid (HF9.out.trans (.set (E := [K]) _ hBK (by simp) 0 (.int .i64 6)))
  obtain ⟨e100, e101, e102, e103, e104, e105, e106, e107, e108, _⟩ := HK10.out.c9
  go_wp2_with fail
  go_end0
  exact ⟨rfl, HK10.out, HP10.out, HF10.out⟩
set_option maxRecDepth 100000 in
set_option maxHeartbeats 4000000 in
theorem alloc_7 (hBm : B ≤ m) (hBK : B ≤ K) (hKp : K ≠ p) (hKb : K ≠ b) (hP : Pr p m b n D s L r w) (k : Bk K 84 (AlC 7 sl ge mk go pp pa pe pw) w) (hsl : 0 ≤ sl ∧ sl < 256) (hw : U64 pw) (hL : L.length ≤ 999) (h0 : 0 ≤ r.st) (h1 : r.st < 1000000) :
    Calls Tryz.prog 29 #[.pointer (some ⟨K, 0, none⟩), .pointer (some ⟨b, 0, none⟩)] w fun ee w' => ee = .returned (.tuple #[]) ∧ Bk K 84 (AlC 0 sl (fld pw 3 32) mk true pp pa pe pw) w' ∧ Pr p m b n D s (storeA L (ad9 sl (i64_slot hsl) 0 f0w) (headerW 1 (fld pw 3 32))) (r.touch 2 (ad9 sl (i64_slot hsl) 0 f0w) (vals L (ad9 sl (i64_slot hsl) 0 f0w)) (vals (storeA L (ad9 sl (i64_slot hsl) 0 f0w) (headerW 1 (fld pw 3 32))) (ad9 sl (i64_slot hsl) 0 f0w)) false) w' ∧ FxL B p b [K] w w' := by
  have hBw : B ≤ w.heap.size := Nat.le_trans hBm hP.m_le
  have HK0 := Lib.hid k
  have HP0 := Lib.hid hP
  have HF0 := Lib.hid (FxL.of_below (p := p) (b := b) (E := [K]) (Below.refl w.heap.size w) hBw)
  obtain ⟨c0, c1, c2, c3, c4, c5, c6, c7, c8, _⟩ := k.c9
  have HL := Lib.hid hL
  obtain ⟨hg1, hg2, hg3⟩ := seg_of hsl
  clear k hP hL 
  go_enter Tryz.func29, Tryz.ntmps29
  go_wp2_with fail
  ((with_reducible refine (asHeader24_any pw w hw).mono ?_); rintro ee w1 ⟨rfl, rfl⟩)
  have z1 := HK0.out.free 2
  have HK1 := Lib.hid (HK0.out.set 2 (.int .u32 (fld pw 3 32)) (cs' := AlC 7 sl (fld pw 3 32) mk go pp pa pe pw) rfl)
  have HP1 := Lib.hid (HP0.out.setX HK0.out (by decide) hKp hKb 2 (.int .u32 (fld pw 3 32)))
  have HF1 := Lib.hid (HF0.out.trans (.set (E := [K]) _ hBK (by simp) 2 (.int .u32 (fld pw 3 32))))
  obtain ⟨e10, e11, e12, e13, e14, e15, e16, e17, e18, _⟩ := HK1.out.c9
  go_wp2_with fail
  revert HK1 HP1 HF1 e10 e11 e12 e13 e14 e15 e16 e17 e18
  generalize w1.setCell ⟨K, 2, none⟩ (.int .u32 (fld pw 3 32)) = y1
  intro HK1 HP1 HF1 e10 e11 e12 e13 e14 e15 e16 e17 e18
  have HKd := Lib.hid (HK1.out.below (Below.refl _ y1).drew)
  have HPd := Lib.hid (HP1.out.below (Below.refl _ y1).drew)
  have HFd := Lib.hid (HF1.out.trans (.of_below (Below.refl _ y1).drew (Nat.le_trans hBK (Nat.le_of_lt HK1.out.lt))))
  have hs0 := Lib.hid (alloc_s HKd.out)
  clear HK1 HP1 HF1 e10 e11 e12 e13 e14 e15 e16 e17 e18 z1
  clear c0 c1 c2 c3 c4 c5 c6 c7 c8
  go_region_held3 (fun w9 => w9.cell? ⟨K, 1, none⟩ = some (.int .i64 sl) ∧ w9.cell? ⟨K, 2, none⟩ = some (.int .u32 (fld pw 3 32)) ∧ w9.cell? ⟨K, 7, none⟩ = some (.int .u64 pe))
    (first | exact hs0.out | exact hs8.out | exact hs9.out | fail)
    (first
      | (go_at_call 55; with_reducible refine (ref_slotted sl 0 _).mono ?_; rintro ee x8 ⟨rfl, hb8⟩; have HK8 := Lib.hid (HKd.out.below hb8); have HP8 := Lib.hid (HPd.out.below hb8); have HF8 := Lib.hid (HFd.out.trans (.of_below hb8 (Nat.le_trans hBK (Nat.le_of_lt HKd.out.lt)))); have hs8 := Lib.hid (alloc_s HK8.out); clear hb8)
      | (go_at_call 57; with_reducible refine (header28_any 1 (fld pw 3 32) _ u8_1 (gen_u64 pw)).mono ?_; rintro ee xh ⟨rfl, rfl⟩)
      | (go_at_call 28; with_reducible refine (store_r9 sl 0 (i64_slot hsl) f0w (headerW 1 (fld pw 3 32)) HP8.out HL.out h0 h1).mono ?_; rintro ee x9 ⟨rfl, P9, f9⟩; have HK9 := Lib.hid (HK8.out.fr f9 (by decide) hKp hKb); have HP9 := Lib.hid P9; have HF9 := Lib.hid (HF8.out.trans (.of_fr f9 hBm)); have hs9 := Lib.hid (alloc_s HK9.out); clear P9 f9)
      | fail)
  obtain ⟨c0, c1, c2, c3, c4, c5, c6, c7, c8, _⟩ := HK9.out.c9
  have z10 := HK9.out.free 4
  have HK10 := Lib.hid (HK9.out.set 4 (.bool true) (cs' := AlC 7 sl (fld pw 3 32) mk true pp pa pe pw) rfl)
  have HP10 := Lib.hid (HP9.out.setX HK9.out (by decide) hKp hKb 4 (.bool true))
  have HF10 := Lib.hid (HF9.out.trans (.set (E := [K]) _ hBK (by simp) 4 (.bool true)))
  obtain ⟨e100, e101, e102, e103, e104, e105, e106, e107, e108, _⟩ := HK10.out.c9
  have z11 := HK10.out.free 0
  have HK11 := Lib.hid (HK10.out.set 0 (.int .i64 0) (cs' := AlC 0 sl (fld pw 3 32) mk true pp pa pe pw) rfl)
  have HP11 := Lib.hid (HP10.out.setX HK10.out (by decide) hKp hKb 0 (.int .i64 0))
  have HF11 := Lib.hid (HF10.out.trans (.set (E := [K]) _ hBK (by simp) 0 (.int .i64 0)))
  obtain ⟨e110, e111, e112, e113, e114, e115, e116, e117, e118, _⟩ := HK11.out.c9
  go_wp2_with fail
  go_end0
  exact ⟨rfl, HK11.out, HP11.out, HF11.out⟩
set_option maxRecDepth 100000 in
set_option maxHeartbeats 4000000 in
theorem alloc_2_park (hBm : B ≤ m) (hBK : B ≤ K) (hKp : K ≠ p) (hKb : K ≠ b) (hP : Pr p m b n D s L r w) (k : Bk K 84 (AlC 2 sl ge mk go pp pa pe pw) w) (hsl : 0 ≤ sl ∧ sl < 256) {v : Int} (hv : vals L (ad6 (sl / 8) (seg_of hsl).2.2 0 f0w) = v) (hv1 : v = 2) (hL : L.length ≤ 999) (h0 : 0 ≤ r.st) (h1 : r.st < 1000000) :
    Calls Tryz.prog 29 #[.pointer (some ⟨K, 0, none⟩), .pointer (some ⟨b, 0, none⟩)] w fun ee w' => ee = .returned (.tuple #[]) ∧ (∃ kn, Bk K 84 (AlC 3 sl ge mk go pp (some ⟨kn, 0, none⟩) pe pw) w' ∧ Bk kn 96 (PkC sl 1 false 0 0 none) w' ∧ w.heap.size ≤ kn) ∧ Pr p m b n D s L (r.touch 1 (ad6 (sl / 8) (seg_of hsl).2.2 0 f0w) v v false) w' ∧ FxL B p b [K] w w' := by
  have hBw : B ≤ w.heap.size := Nat.le_trans hBm hP.m_le
  have HK0 := Lib.hid k
  have HP0 := Lib.hid hP
  have HF0 := Lib.hid (FxL.of_below (p := p) (b := b) (E := [K]) (Below.refl w.heap.size w) hBw)
  obtain ⟨c0, c1, c2, c3, c4, c5, c6, c7, c8, _⟩ := k.c9
  have HL := Lib.hid hL
  obtain ⟨hg1, hg2, hg3⟩ := seg_of hsl
  have HV := Lib.hid hv
  have HV1 := Lib.hid hv1
  clear k hP hL hv hv1
  go_enter Tryz.func29, Tryz.ntmps29
  have z1 := HK0.out.free 0
  have HK1 := Lib.hid (HK0.out.set 0 (.int .i64 4) (cs' := AlC 4 sl ge mk go pp pa pe pw) rfl)
  have HP1 := Lib.hid (HP0.out.setX HK0.out (by decide) hKp hKb 0 (.int .i64 4))
  have HF1 := Lib.hid (HF0.out.trans (.set (E := [K]) _ hBK (by simp) 0 (.int .i64 4)))
  obtain ⟨e10, e11, e12, e13, e14, e15, e16, e17, e18, _⟩ := HK1.out.c9
  go_wp2_with fail
  ((with_reducible refine (ref_segment sl 0 (sl / 8) hg1 hg2 _).mono ?_); rintro ee x2 ⟨rfl, hb2⟩)
  have HK2 := Lib.hid (HK1.out.below hb2)
  have HP2 := Lib.hid (HP1.out.below hb2)
  have HF2 := Lib.hid (HF1.out.trans (.of_below hb2 (Nat.le_trans hBK (Nat.le_of_lt HK1.out.lt))))
  clear c0 c1 c2 c3 c4 c5 c6 c7 c8
  clear HK1 HP1 HF1 hb2
  obtain ⟨c0, c1, c2, c3, c4, c5, c6, c7, c8, _⟩ := HK2.out.c9
  go_wp2_with fail
  ((with_reducible refine (load_r6 (sl / 8) 0 (seg_of hsl).2.2 f0w HP2.out HL.out h0 h1).mono ?_); rintro ee x3 ⟨rfl, P3, f3⟩)
  have HK3 := Lib.hid (HK2.out.fr f3 (by decide) hKp hKb)
  have HP3 := Lib.hid P3
  have HF3 := Lib.hid (HF2.out.trans (.of_fr f3 hBm))
  clear c0 c1 c2 c3 c4 c5 c6 c7 c8
  clear HK2 HP2 HF2 P3 f3
  obtain ⟨c0, c1, c2, c3, c4, c5, c6, c7, c8, _⟩ := HK3.out.c9
  have hvv := HV.out
  rw [hvv] at HP3 ⊢
  clear hvv
  have hv1 := HV1.out
  subst hv1
  have z4 := HK3.out.free 0
  have HK4 := Lib.hid (HK3.out.set 0 (.int .i64 3) (cs' := AlC 3 sl ge mk go pp pa pe pw) rfl)
  have HP4 := Lib.hid (HP3.out.setX HK3.out (by decide) hKp hKb 0 (.int .i64 3))
  have HF4 := Lib.hid (HF3.out.trans (.set (E := [K]) _ hBK (by simp) 0 (.int .i64 3)))
  obtain ⟨e40, e41, e42, e43, e44, e45, e46, e47, e48, _⟩ := HK4.out.c9
  have hwk := HF4.out.low.size
  go_wp2_with fail
  ((with_reducible refine (newPark_good sl hsl.1 (by omega) _).mono ?_); rintro ee x7 ⟨rfl, kN, hb7, hs7⟩)
  have HK7 := Lib.hid (HK4.out.below hb7)
  have HP7 := Lib.hid (HP4.out.below hb7)
  have HF7 := Lib.hid (HF4.out.trans (.of_below hb7 (Nat.le_trans hBK (Nat.le_of_lt HK4.out.lt))))
  have hKk := HK4.out.lt
  generalize (x3.setCell ⟨K, 0, none⟩ (.int .i64 3)).heap.size = kn at *
  have HM7 := Lib.hid kN
  clear kN hb7 hs7 e40 e41 e42 e43 e44 e45 e46 e47 e48 c0 c1 c2 c3 c4 c5 c6 c7 c8
  obtain ⟨c0, c1, c2, c3, c4, c5, c6, c7, c8, _⟩ := HK7.out.c9
  have z8 := HK7.out.free 6
  have HK8 := Lib.hid (HK7.out.set 6 (.pointer (some ⟨kn, 0, none⟩)) (cs' := AlC 3 sl ge mk go pp (some ⟨kn, 0, none⟩) pe pw) rfl)
  have HP8 := Lib.hid (HP7.out.setX HK7.out (by decide) hKp hKb 6 (.pointer (some ⟨kn, 0, none⟩)))
  have HF8 := Lib.hid (HF7.out.trans (.set (E := [K]) _ hBK (by simp) 6 (.pointer (some ⟨kn, 0, none⟩))))
  obtain ⟨e80, e81, e82, e83, e84, e85, e86, e87, e88, _⟩ := HK8.out.c9
  have HM8 := Lib.hid (HM7.out.same (Below.heap_setCell x7 ⟨K, 6, none⟩ (.pointer (some ⟨kn, 0, none⟩)) kn (show kn ≠ K by omega)))
  go_wp2_with fail
  go_end0
  exact ⟨rfl, ⟨kn, HK8.out, HM8.out, hwk⟩, HP8.out, HF8.out⟩
set_option maxRecDepth 100000 in
set_option maxHeartbeats 4000000 in
theorem alloc_2_on (hBm : B ≤ m) (hBK : B ≤ K) (hKp : K ≠ p) (hKb : K ≠ b) (hP : Pr p m b n D s L r w) (k : Bk K 84 (AlC 2 sl ge mk go pp pa pe pw) w) (hsl : 0 ≤ sl ∧ sl < 256) {v : Int} (hv : vals L (ad6 (sl / 8) (seg_of hsl).2.2 0 f0w) = v) (hv1 : v ≠ 2) (hL : L.length ≤ 999) (h0 : 0 ≤ r.st) (h1 : r.st < 1000000) :
    Calls Tryz.prog 29 #[.pointer (some ⟨K, 0, none⟩), .pointer (some ⟨b, 0, none⟩)] w fun ee w' => ee = .returned (.tuple #[]) ∧ Bk K 84 (AlC 4 sl ge mk go pp pa pe pw) w' ∧ Pr p m b n D s L (r.touch 1 (ad6 (sl / 8) (seg_of hsl).2.2 0 f0w) v v false) w' ∧ FxL B p b [K] w w' := by
  have hBw : B ≤ w.heap.size := Nat.le_trans hBm hP.m_le
  have HK0 := Lib.hid k
  have HP0 := Lib.hid hP
  have HF0 := Lib.hid (FxL.of_below (p := p) (b := b) (E := [K]) (Below.refl w.heap.size w) hBw)
  obtain ⟨c0, c1, c2, c3, c4, c5, c6, c7, c8, _⟩ := k.c9
  have HL := Lib.hid hL
  obtain ⟨hg1, hg2, hg3⟩ := seg_of hsl
  have HV := Lib.hid hv
  have hne : (v == 2) = false := by simpa using hv1
  clear k hP hL hv
  go_enter Tryz.func29, Tryz.ntmps29
  have z1 := HK0.out.free 0
  have HK1 := Lib.hid (HK0.out.set 0 (.int .i64 4) (cs' := AlC 4 sl ge mk go pp pa pe pw) rfl)
  have HP1 := Lib.hid (HP0.out.setX HK0.out (by decide) hKp hKb 0 (.int .i64 4))
  have HF1 := Lib.hid (HF0.out.trans (.set (E := [K]) _ hBK (by simp) 0 (.int .i64 4)))
  obtain ⟨e10, e11, e12, e13, e14, e15, e16, e17, e18, _⟩ := HK1.out.c9
  go_wp2_with fail
  ((with_reducible refine (ref_segment sl 0 (sl / 8) hg1 hg2 _).mono ?_); rintro ee x2 ⟨rfl, hb2⟩)
  have HK2 := Lib.hid (HK1.out.below hb2)
  have HP2 := Lib.hid (HP1.out.below hb2)
  have HF2 := Lib.hid (HF1.out.trans (.of_below hb2 (Nat.le_trans hBK (Nat.le_of_lt HK1.out.lt))))
  clear c0 c1 c2 c3 c4 c5 c6 c7 c8
  clear HK1 HP1 HF1 hb2
  obtain ⟨c0, c1, c2, c3, c4, c5, c6, c7, c8, _⟩ := HK2.out.c9
  go_wp2_with fail
  ((with_reducible refine (load_r6 (sl / 8) 0 (seg_of hsl).2.2 f0w HP2.out HL.out h0 h1).mono ?_); rintro ee x3 ⟨rfl, P3, f3⟩)
  have HK3 := Lib.hid (HK2.out.fr f3 (by decide) hKp hKb)
  have HP3 := Lib.hid P3
  have HF3 := Lib.hid (HF2.out.trans (.of_fr f3 hBm))
  clear c0 c1 c2 c3 c4 c5 c6 c7 c8
  clear HK2 HP2 HF2 P3 f3
  obtain ⟨c0, c1, c2, c3, c4, c5, c6, c7, c8, _⟩ := HK3.out.c9
  have hvv := HV.out
  rw [hvv] at HP3 ⊢
  clear hvv
  go_wp2_with fail
  go_end0
  exact ⟨rfl, HK3.out, HP3.out, HF3.out⟩
set_option maxRecDepth 100000 in
set_option maxHeartbeats 4000000 in
theorem alloc_1_on {e : Nat} {psh got : Bool} {sl' ln' h nn : Int} {L' : List (Ad × Int)} {r' : Acc8} (_ : B ≤ K) (hKp : K ≠ p) (hKb : K ≠ b) (hKe : K ≠ e) (k : Bk K 84 (AlC 1 sl ge mk go (some ⟨e, 0, none⟩) pa pe pw) w) (hz : ln' ≠ 0) 
    (hstep : Calls Tryz.prog 52 #[.pointer (some ⟨e, 0, none⟩), .pointer (some ⟨b, 0, none⟩)] w fun ee Y => ee = .returned (.tuple #[]) ∧ RefAt e psh sl' ln' got h nn Y ∧ Pr p m b n D s L' r' Y ∧ Fx B p b p e w Y) :
    Calls Tryz.prog 29 #[.pointer (some ⟨K, 0, none⟩), .pointer (some ⟨b, 0, none⟩)] w fun ee w' => ee = .returned (.tuple #[]) ∧ Bk K 84 (AlC 1 sl ge mk go (some ⟨e, 0, none⟩) pa pe pw) w' ∧ RefAt e psh sl' ln' got h nn w' ∧ Pr p m b n D s L' r' w' ∧ FxL B p b [K, e] w w' := by
  have HK0 := Lib.hid k
  have HST := Lib.hid hstep
  obtain ⟨c0, c1, c2, c3, c4, c5, c6, c7, c8, _⟩ := k.c9
  have hzb : (ln' == 0) = false := by simpa using hz
  have HZ := Lib.hid hz
  clear k hstep hz
  go_enter Tryz.func29, Tryz.ntmps29
  go_wp2_with fail
  (refine (HST.out).mono ?_; rintro ee x1 ⟨rfl, R1, P1, f1⟩)
  have HF1 := Lib.hid (show FxL B p b [K, e] w x1 from ⟨f1.low, fun x cs t fr hx ht h1 h2 h3 => f1.far x cs t fr hx ht h1 h2 h1 (fun k => h3 (by simp [k]))⟩)
  have HK1 := Lib.hid (show Bk K 84 (AlC 1 sl ge mk go (some ⟨e, 0, none⟩) pa pe pw) x1 from f1.far K _ _ _ HK0.out (by decide) hKp hKb hKp hKe)
  have HR1 := Lib.hid R1
  have HP1 := Lib.hid P1
  have r2 := R1.cells.2.2.1
  clear R1 P1 f1 HST HK0 c0 c1 c2 c3 c4 c5 c6 c7 c8
  obtain ⟨c0, c1, c2, c3, c4, c5, c6, c7, c8, _⟩ := HK1.out.c9
  go_wp2_with fail
  go_end0
  exact ⟨rfl, HK1.out, HR1.out, HP1.out, HF1.out⟩
set_option maxRecDepth 100000 in
set_option maxHeartbeats 4000000 in
theorem alloc_1_none {e : Nat} {psh got : Bool} {sl' ln' h nn : Int} {L' : List (Ad × Int)} {r' : Acc8} (hBK : B ≤ K) (hKp : K ≠ p) (hKb : K ≠ b) (hKe : K ≠ e) (k : Bk K 84 (AlC 1 sl ge mk go (some ⟨e, 0, none⟩) pa pe pw) w) (hz : ln' = 0) (hgo : got = false) 
    (hstep : Calls Tryz.prog 52 #[.pointer (some ⟨e, 0, none⟩), .pointer (some ⟨b, 0, none⟩)] w fun ee Y => ee = .returned (.tuple #[]) ∧ RefAt e psh sl' ln' got h nn Y ∧ Pr p m b n D s L' r' Y ∧ Fx B p b p e w Y) :
    Calls Tryz.prog 29 #[.pointer (some ⟨K, 0, none⟩), .pointer (some ⟨b, 0, none⟩)] w fun ee w' => ee = .returned (.tuple #[]) ∧ Bk K 84 (AlC 0 sl ge mk go (some ⟨e, 0, none⟩) pa pe pw) w' ∧ RefAt e psh sl' ln' got h nn w' ∧ Pr p m b n D s L' r' w' ∧ FxL B p b [K, e] w w' := by
  have HK0 := Lib.hid k
  have HST := Lib.hid hstep
  obtain ⟨c0, c1, c2, c3, c4, c5, c6, c7, c8, _⟩ := k.c9
  have HZ := Lib.hid hz
  have HGO := Lib.hid hgo
  clear k hstep hz hgo
  go_enter Tryz.func29, Tryz.ntmps29
  go_wp2_with fail
  (refine (HST.out).mono ?_; rintro ee x1 ⟨rfl, R1, P1, f1⟩)
  have HF1 := Lib.hid (show FxL B p b [K, e] w x1 from ⟨f1.low, fun x cs t fr hx ht h1 h2 h3 => f1.far x cs t fr hx ht h1 h2 h1 (fun k => h3 (by simp [k]))⟩)
  have HK1 := Lib.hid (show Bk K 84 (AlC 1 sl ge mk go (some ⟨e, 0, none⟩) pa pe pw) x1 from f1.far K _ _ _ HK0.out (by decide) hKp hKb hKp hKe)
  have HR1 := Lib.hid R1
  have HP1 := Lib.hid P1
  have r2 := R1.cells.2.2.1
  rw [HZ.out] at r2
  clear R1 P1 f1 HST HK0 c0 c1 c2 c3 c4 c5 c6 c7 c8
  obtain ⟨c0, c1, c2, c3, c4, c5, c6, c7, c8, _⟩ := HK1.out.c9
  have z1 := HK1.out.free 0
  have HK2 := Lib.hid (HK1.out.set 0 (.int .i64 0) (cs' := AlC 0 sl ge mk go (some ⟨e, 0, none⟩) pa pe pw) rfl)
  have HP2 := Lib.hid (HP1.out.setX HK1.out (by decide) hKp hKb 0 (.int .i64 0))
  have HF2 := Lib.hid (HF1.out.trans (.set (E := [K, e]) _ hBK (by simp) 0 (.int .i64 0)))
  have HR2 := Lib.hid (HR1.out.same (Below.heap_setCell x1 ⟨K, 0, none⟩ (.int .i64 0) e (Ne.symm hKe)))
  have q3 := HR2.out.cells.2.2.2.1
  have q1 := HR2.out.cells.2.1
  rw [HGO.out] at q3
  obtain ⟨e20, e21, e22, e23, e24, e25, e26, e27, e28, _⟩ := HK2.out.c9
  go_wp2_with fail
  go_end0
  exact ⟨rfl, HK2.out, HR2.out, HP2.out, HF2.out⟩
set_option maxRecDepth 100000 in
set_option maxHeartbeats 4000000 in
theorem alloc_1_got {e : Nat} {psh got : Bool} {sl' ln' h nn : Int} {L' : List (Ad × Int)} {r' : Acc8} (hBK : B ≤ K) (hKp : K ≠ p) (hKb : K ≠ b) (hKe : K ≠ e) (k : Bk K 84 (AlC 1 sl ge mk go (some ⟨e, 0, none⟩) pa pe pw) w) (hz : ln' = 0) (hgo : got = true) 
    (hstep : Calls Tryz.prog 52 #[.pointer (some ⟨e, 0, none⟩), .pointer (some ⟨b, 0, none⟩)] w fun ee Y => ee = .returned (.tuple #[]) ∧ RefAt e psh sl' ln' got h nn Y ∧ Pr p m b n D s L' r' Y ∧ Fx B p b p e w Y) :
    Calls Tryz.prog 29 #[.pointer (some ⟨K, 0, none⟩), .pointer (some ⟨b, 0, none⟩)] w fun ee w' => ee = .returned (.tuple #[]) ∧ Bk K 84 (AlC 2 sl' ge mk go (some ⟨e, 0, none⟩) pa pe pw) w' ∧ RefAt e psh sl' ln' got h nn w' ∧ Pr p m b n D s L' r' w' ∧ FxL B p b [K, e] w w' := by
  have HK0 := Lib.hid k
  have HST := Lib.hid hstep
  obtain ⟨c0, c1, c2, c3, c4, c5, c6, c7, c8, _⟩ := k.c9
  have HZ := Lib.hid hz
  have HGO := Lib.hid hgo
  clear k hstep hz hgo
  go_enter Tryz.func29, Tryz.ntmps29
  go_wp2_with fail
  (refine (HST.out).mono ?_; rintro ee x1 ⟨rfl, R1, P1, f1⟩)
  have HF1 := Lib.hid (show FxL B p b [K, e] w x1 from ⟨f1.low, fun x cs t fr hx ht h1 h2 h3 => f1.far x cs t fr hx ht h1 h2 h1 (fun k => h3 (by simp [k]))⟩)
  have HK1 := Lib.hid (show Bk K 84 (AlC 1 sl ge mk go (some ⟨e, 0, none⟩) pa pe pw) x1 from f1.far K _ _ _ HK0.out (by decide) hKp hKb hKp hKe)
  have HR1 := Lib.hid R1
  have HP1 := Lib.hid P1
  have r2 := R1.cells.2.2.1
  rw [HZ.out] at r2
  clear R1 P1 f1 HST HK0 c0 c1 c2 c3 c4 c5 c6 c7 c8
  obtain ⟨c0, c1, c2, c3, c4, c5, c6, c7, c8, _⟩ := HK1.out.c9
  have z1 := HK1.out.free 0
  have HK2 := Lib.hid (HK1.out.set 0 (.int .i64 0) (cs' := AlC 0 sl ge mk go (some ⟨e, 0, none⟩) pa pe pw) rfl)
  have HP2 := Lib.hid (HP1.out.setX HK1.out (by decide) hKp hKb 0 (.int .i64 0))
  have HF2 := Lib.hid (HF1.out.trans (.set (E := [K, e]) _ hBK (by simp) 0 (.int .i64 0)))
  have HR2 := Lib.hid (HR1.out.same (Below.heap_setCell x1 ⟨K, 0, none⟩ (.int .i64 0) e (Ne.symm hKe)))
  have q3 := HR2.out.cells.2.2.2.1
  have q1 := HR2.out.cells.2.1
  rw [HGO.out] at q3
  obtain ⟨e20, e21, e22, e23, e24, e25, e26, e27, e28, _⟩ := HK2.out.c9
  have z2 := HK2.out.free 1
  have HK3 := Lib.hid (HK2.out.set 1 (.int .i64 sl') (cs' := AlC 0 sl' ge mk go (some ⟨e, 0, none⟩) pa pe pw) rfl)
  have HP3 := Lib.hid (HP2.out.setX HK2.out (by decide) hKp hKb 1 (.int .i64 sl'))
  have HF3 := Lib.hid (HF2.out.trans (.set (E := [K, e]) _ hBK (by simp) 1 (.int .i64 sl')))
  have HR3 := Lib.hid (HR2.out.same (Below.heap_setCell _ ⟨K, 1, none⟩ (.int .i64 sl') e (Ne.symm hKe)))
  obtain ⟨e30, e31, e32, e33, e34, e35, e36, e37, e38, _⟩ := HK3.out.c9
  have z3 := HK3.out.free 0
  have HK4 := Lib.hid (HK3.out.set 0 (.int .i64 2) (cs' := AlC 2 sl' ge mk go (some ⟨e, 0, none⟩) pa pe pw) rfl)
  have HP4 := Lib.hid (HP3.out.setX HK3.out (by decide) hKp hKb 0 (.int .i64 2))
  have HF4 := Lib.hid (HF3.out.trans (.set (E := [K, e]) _ hBK (by simp) 0 (.int .i64 2)))
  have HR4 := Lib.hid (HR3.out.same (Below.heap_setCell _ ⟨K, 0, none⟩ (.int .i64 2) e (Ne.symm hKe)))
  go_wp2_with fail
  go_end0
  exact ⟨rfl, HK4.out, HR4.out, HP4.out, HF4.out⟩
set_option maxRecDepth 100000 in
set_option maxHeartbeats 4000000 in
theorem alloc_3_on {kn : Nat} {E : List Nat} {R : Option Addr → World → Prop} {sl' ln' w9 n9 : Int} {st' : Bool} {L' : List (Ad × Int)} {r' : Acc8} (_ : B ≤ K) (hKp : K ≠ p) (hKb : K ≠ b) (hKE : K ∉ E) (_ : kn ≠ K) (k : Bk K 84 (AlC 3 sl ge mk go pp (some ⟨kn, 0, none⟩) pe pw) w) (hz : ln' ≠ 0) (_ : ∀ a X i v, R a X → R a (X.setCell ⟨K, i, none⟩ v)) (_ : ∀ a X Y, R a X → Below X.heap.size X Y → R a Y)
    (hstep : Calls Tryz.prog 35 #[.pointer (some ⟨kn, 0, none⟩), .pointer (some ⟨b, 0, none⟩)] w fun ee Y => ee = .returned (.tuple #[]) ∧ (∃ pu9, Bk kn 96 (PkC sl' ln' st' w9 n9 pu9) Y ∧ R pu9 Y) ∧ Pr p m b n D s L' r' Y ∧ FxL B p b E w Y) :
    Calls Tryz.prog 29 #[.pointer (some ⟨K, 0, none⟩), .pointer (some ⟨b, 0, none⟩)] w fun ee w' => ee = .returned (.tuple #[]) ∧ Bk K 84 (AlC 3 sl ge mk go pp (some ⟨kn, 0, none⟩) pe pw) w' ∧ (∃ pu9, Bk kn 96 (PkC sl' ln' st' w9 n9 pu9) w' ∧ R pu9 w') ∧ Pr p m b n D s L' r' w' ∧ FxL B p b (K :: E) w w' := by
  have HK0 := Lib.hid k
  have HST := Lib.hid hstep
  obtain ⟨c0, c1, c2, c3, c4, c5, c6, c7, c8, _⟩ := k.c9
  have hzb : (ln' == 0) = false := by simpa using hz
  have HZ := Lib.hid hz
  clear k hstep hz
  go_enter Tryz.func29, Tryz.ntmps29
  go_wp2_with fail
  (refine (HST.out).mono ?_; rintro ee x1 ⟨rfl, ⟨pu9, M1, R1⟩, P1, f1⟩)
  have HF1 := Lib.hid (f1.more (E' := K :: E) (fun x hx => List.mem_cons_of_mem _ hx))
  have HK1 := Lib.hid (show Bk K 84 (AlC 3 sl ge mk go pp (some ⟨kn, 0, none⟩) pe pw) x1 from f1.far K _ _ _ HK0.out (by decide) hKp hKb hKE)
  have HR1 := Lib.hid R1
  have HP1 := Lib.hid P1
  have HM1 := Lib.hid M1
  have r1 := M1.cell 1
  simp only [PkC, List.getElem?_cons_zero, List.getElem?_cons_succ] at r1
  clear R1 P1 M1 f1 HST HK0 c0 c1 c2 c3 c4 c5 c6 c7 c8
  obtain ⟨c0, c1, c2, c3, c4, c5, c6, c7, c8, _⟩ := HK1.out.c9
  go_wp2_with fail
  go_end0
  exact ⟨rfl, HK1.out, ⟨_, HM1.out, HR1.out⟩, HP1.out, HF1.out⟩
set_option maxRecDepth 100000 in
set_option maxHeartbeats 4000000 in
theorem alloc_3_back {kn : Nat} {E : List Nat} {R : Option Addr → World → Prop} {sl' ln' w9 n9 : Int} {st' : Bool} {L' : List (Ad × Int)} {r' : Acc8} (hBK : B ≤ K) (hKp : K ≠ p) (hKb : K ≠ b) (hKE : K ∉ E) (hKk : kn ≠ K) (k : Bk K 84 (AlC 3 sl ge mk go pp (some ⟨kn, 0, none⟩) pe pw) w) (hz : ln' = 0) (hR : ∀ a X i v, R a X → R a (X.setCell ⟨K, i, none⟩ v)) (hR2 : ∀ a X Y, R a X → Below X.heap.size X Y → R a Y)
    (hstep : Calls Tryz.prog 35 #[.pointer (some ⟨kn, 0, none⟩), .pointer (some ⟨b, 0, none⟩)] w fun ee Y => ee = .returned (.tuple #[]) ∧ (∃ pu9, Bk kn 96 (PkC sl' ln' st' w9 n9 pu9) Y ∧ R pu9 Y) ∧ Pr p m b n D s L' r' Y ∧ FxL B p b E w Y) :
    Calls Tryz.prog 29 #[.pointer (some ⟨K, 0, none⟩), .pointer (some ⟨b, 0, none⟩)] w fun ee w' => ee = .returned (.tuple #[]) ∧ (∃ e, Bk K 84 (AlC 1 sl ge mk go (some ⟨e, 0, none⟩) (some ⟨kn, 0, none⟩) pe pw) w' ∧ RefAt e false 0 1 false 0 0 w' ∧ w.heap.size ≤ e) ∧ (∃ pu9, Bk kn 96 (PkC sl' ln' st' w9 n9 pu9) w' ∧ R pu9 w') ∧ Pr p m b n D s L' r' w' ∧ FxL B p b (K :: E) w w' := by
  have HK0 := Lib.hid k
  have HST := Lib.hid hstep
  obtain ⟨c0, c1, c2, c3, c4, c5, c6, c7, c8, _⟩ := k.c9
  have HZ := Lib.hid hz
  clear k hstep hz
  go_enter Tryz.func29, Tryz.ntmps29
  go_wp2_with fail
  (refine (HST.out).mono ?_; rintro ee x1 ⟨rfl, ⟨pu9, M1, R1⟩, P1, f1⟩)
  have HF1 := Lib.hid (f1.more (E' := K :: E) (fun x hx => List.mem_cons_of_mem _ hx))
  have HK1 := Lib.hid (show Bk K 84 (AlC 3 sl ge mk go pp (some ⟨kn, 0, none⟩) pe pw) x1 from f1.far K _ _ _ HK0.out (by decide) hKp hKb hKE)
  have HR1 := Lib.hid R1
  have HP1 := Lib.hid P1
  have HM1 := Lib.hid M1
  have r1 := M1.cell 1
  simp only [PkC, List.getElem?_cons_zero, List.getElem?_cons_succ] at r1
  rw [HZ.out] at r1
  clear R1 P1 M1 f1 HST HK0 c0 c1 c2 c3 c4 c5 c6 c7 c8
  obtain ⟨c0, c1, c2, c3, c4, c5, c6, c7, c8, _⟩ := HK1.out.c9
  have z1 := HK1.out.free 0
  have HK2 := Lib.hid (HK1.out.set 0 (.int .i64 1) (cs' := AlC 1 sl ge mk go pp (some ⟨kn, 0, none⟩) pe pw) rfl)
  have HP2 := Lib.hid (HP1.out.setX HK1.out (by decide) hKp hKb 0 (.int .i64 1))
  have HF2 := Lib.hid (HF1.out.trans (.set (E := K :: E) _ hBK (by simp) 0 (.int .i64 1)))
  have HR2 := Lib.hid (hR _ _ 0 (.int .i64 1) HR1.out)
  have HM2 := Lib.hid (HM1.out.same (Below.heap_setCell x1 ⟨K, 0, none⟩ (.int .i64 1) kn hKk))
  obtain ⟨e20, e21, e22, e23, e24, e25, e26, e27, e28, _⟩ := HK2.out.c9
  have hwe := HF2.out.low.size
  go_wp2_with fail
  ((with_reducible refine (ref_newPop _).mono ?_); rintro ee x3 ⟨rfl, RN, hb3, hs3⟩)
  have HK3 := Lib.hid (HK2.out.below hb3)
  have HP3 := Lib.hid (HP2.out.below hb3)
  have HF3 := Lib.hid (HF2.out.trans (.of_below hb3 (Nat.le_trans hBK (Nat.le_of_lt HK2.out.lt))))
  have HR3 := Lib.hid (hR2 _ _ _ HR2.out hb3)
  have HM3 := Lib.hid (HM2.out.below hb3)
  have hKe := HK2.out.lt
  generalize (x1.setCell ⟨K, 0, none⟩ (.int .i64 1)).heap.size = e at *
  have HN3 := Lib.hid RN
  clear RN hb3 hs3 c0 c1 c2 c3 c4 c5 c6 c7 c8 e20 e21 e22 e23 e24 e25 e26 e27 e28
  obtain ⟨c0, c1, c2, c3, c4, c5, c6, c7, c8, _⟩ := HK3.out.c9
  have z3 := HK3.out.free 5
  have HK4 := Lib.hid (HK3.out.set 5 (.pointer (some ⟨e, 0, none⟩)) (cs' := AlC 1 sl ge mk go (some ⟨e, 0, none⟩) (some ⟨kn, 0, none⟩) pe pw) rfl)
  have HP4 := Lib.hid (HP3.out.setX HK3.out (by decide) hKp hKb 5 (.pointer (some ⟨e, 0, none⟩)))
  have HF4 := Lib.hid (HF3.out.trans (.set (E := K :: E) _ hBK (by simp) 5 (.pointer (some ⟨e, 0, none⟩))))
  have HR4 := Lib.hid (hR _ _ 5 (.pointer (some ⟨e, 0, none⟩)) HR3.out)
  have HM4 := Lib.hid (HM3.out.same (Below.heap_setCell x3 ⟨K, 5, none⟩ (.pointer (some ⟨e, 0, none⟩)) kn hKk))
  have HN4 := Lib.hid (HN3.out.same (Below.heap_setCell x3 ⟨K, 5, none⟩ (.pointer (some ⟨e, 0, none⟩)) e (show e ≠ K by omega)))
  go_wp2_with fail
  go_end0
  exact ⟨rfl, ⟨e, HK4.out, HN4.out, hwe⟩, ⟨_, HM4.out, HR4.out⟩, HP4.out, HF4.out⟩
set_option maxRecDepth 100000 in
theorem alloc_0 (k : Bk K 84 (AlC 0 sl ge mk go pp pa pe pw) w) : Calls Tryz.prog 29 #[.pointer (some ⟨K, 0, none⟩), .pointer (some ⟨b, 0, none⟩)] w fun ee w' => ee = .returned (.tuple #[]) ∧ w = w' := by
  obtain ⟨c0, c1, c2, c3, c4, c5, c6, c7, c8, _⟩ := k.c9
  clear k
  go_enter Tryz.func29, Tryz.ntmps29
  go_wp2_with fail
  go_end0
  exact ⟨rfl, rfl⟩
theorem refNewAlloc_any (w : World) : Calls Tryz.prog 7 #[] w fun ee w' => ∃ e K, ee = .returned (.pointer (some ⟨K, 0, none⟩)) ∧ RefAt e false 0 1 false 0 0 w' ∧ Bk K 84 (AlC 1 0 0 false false (some ⟨e, 0, none⟩) none 0 0) w' ∧ Below w.heap.size w w' ∧ w.heap.size ≤ e ∧ e < K := by
  go_enter Tryz.func7, Tryz.ntmps7
  go_wp2_with fail
  ((with_reducible refine (ref_newPop w).mono ?_); rintro ee x1 ⟨rfl, RN, hb1, hs1⟩)
  have HN := Lib.hid RN
  have HB := Lib.hid hb1
  have hlt := RN.lt
  clear RN hb1 hs1
  go_wp2_with fail
  go_ret
  exact ⟨w.heap.size, x1.heap.size, rfl, HN.out.below ((Below.refl _ _).alloc (Nat.le_refl _) _), Bk.new _ _ _, HB.out.trans ((Below.refl _ _).alloc HB.out.size _), Nat.le_refl _, hlt⟩
end
end Go.Proofs.YtlcbinckbkdgdaaGreatDoor
