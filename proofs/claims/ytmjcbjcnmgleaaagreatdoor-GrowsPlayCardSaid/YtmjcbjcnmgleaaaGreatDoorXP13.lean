/-
  The document's Park of layer 8: what each of its lines does; condition: both memories lie as they say, the operation as it says.
-/
import Derived.Test.YtmjcbjcnmgleaaaGreatDoorXP12
namespace Go.Proofs.YtmjcbjcnmgleaaaGreatDoor
open Go.RowKit Go.Maps
def PkC (sl ln : Int) (st : Bool) (w n : Int) (pu : Option Addr) : List Value := [.int .i64 sl, .int .i64 ln, .bool st, .int .u64 w, .int .u64 n, .pointer pu]
section
variable {B p m b n K : Nat} {sl pw pn : Int} {st : Bool} {pu : Option Addr} {D : DataW Unit} {s r : Acc8} {L : List (Ad × Int)} {w w' : World}
theorem load_r9 (t f : Int) (ht : I64w t) (hf : (Lit.int .i64 f).wf = true) (h : Pr p m b n D s L r w) (hL : L.length ≤ 4999) (h0 : 0 ≤ r.st) (h1 : r.st < 1000000) :
    Calls Tryz.prog 67 #[.pointer (some ⟨b, 0, none⟩), .agg #[.int .u8 9, .int .i64 t, .int .i64 f]] w fun ee w' => ee = .returned (.int .u64 (vals L (ad9 t ht f hf))) ∧ Pr p m b n D s L (r.touch 1 (ad9 t ht f hf) (vals L (ad9 t ht f hf)) (vals L (ad9 t ht f hf)) false) w' ∧ Fr p m b w w' := load_r (ad9 t ht f hf) h hL h0 h1
theorem load_r6 (t f : Int) (ht : I64w t) (hf : (Lit.int .i64 f).wf = true) (h : Pr p m b n D s L r w) (hL : L.length ≤ 4999) (h0 : 0 ≤ r.st) (h1 : r.st < 1000000) :
    Calls Tryz.prog 67 #[.pointer (some ⟨b, 0, none⟩), .agg #[.int .u8 6, .int .i64 t, .int .i64 f]] w fun ee w' => ee = .returned (.int .u64 (vals L (ad6 t ht f hf))) ∧ Pr p m b n D s L (r.touch 1 (ad6 t ht f hf) (vals L (ad6 t ht f hf)) (vals L (ad6 t ht f hf)) false) w' ∧ Fr p m b w w' := load_r (ad6 t ht f hf) h hL h0 h1
theorem store_r9 (t f : Int) (ht : I64w t) (hf : (Lit.int .i64 f).wf = true) (v : Int) (h : Pr p m b n D s L r w) (hL : L.length ≤ 4999) (h0 : 0 ≤ r.st) (h1 : r.st < 1000000) :
    Calls Tryz.prog 33 #[.pointer (some ⟨b, 0, none⟩), .agg #[.int .u8 9, .int .i64 t, .int .i64 f], .int .u64 v] w fun ee w' => ee = .returned (.tuple #[]) ∧ Pr p m b n D s (storeA L (ad9 t ht f hf) v) (r.touch 2 (ad9 t ht f hf) (vals L (ad9 t ht f hf)) (vals (storeA L (ad9 t ht f hf) v) (ad9 t ht f hf)) false) w' ∧ Fr p m b w w' := store_r (ad9 t ht f hf) v h hL h0 h1
theorem cas_r9 (t f : Int) (ht : I64w t) (hf : (Lit.int .i64 f).wf = true) {u v : Int} {c : Bool} (hc : casA L (ad9 t ht f hf) u = c) (h : Pr p m b n D s L r w) (hL : L.length ≤ 4999) (h0 : 0 ≤ r.st) (h1 : r.st < 1000000) :
    Calls Tryz.prog 70 #[.pointer (some ⟨b, 0, none⟩), .agg #[.int .u8 9, .int .i64 t, .int .i64 f], .int .u64 u, .int .u64 v] w fun ee w' => ee = .returned (.bool c) ∧ Pr p m b n D s (casL L (ad9 t ht f hf) u v) (r.touch 3 (ad9 t ht f hf) (vals L (ad9 t ht f hf)) (vals (casL L (ad9 t ht f hf) u v) (ad9 t ht f hf)) c) w' ∧ Fr p m b w w' := by
  subst hc
  exact cas_r (ad9 t ht f hf) u v h hL h0 h1
theorem cas_r6 (t f : Int) (ht : I64w t) (hf : (Lit.int .i64 f).wf = true) {u v : Int} {c : Bool} (hc : casA L (ad6 t ht f hf) u = c) (h : Pr p m b n D s L r w) (hL : L.length ≤ 4999) (h0 : 0 ≤ r.st) (h1 : r.st < 1000000) :
    Calls Tryz.prog 70 #[.pointer (some ⟨b, 0, none⟩), .agg #[.int .u8 6, .int .i64 t, .int .i64 f], .int .u64 u, .int .u64 v] w fun ee w' => ee = .returned (.bool c) ∧ Pr p m b n D s (casL L (ad6 t ht f hf) u v) (r.touch 3 (ad6 t ht f hf) (vals L (ad6 t ht f hf)) (vals (casL L (ad6 t ht f hf) u v) (ad6 t ht f hf)) c) w' ∧ Fr p m b w w' := by
  subst hc
  exact cas_r (ad6 t ht f hf) u v h hL h0 h1
theorem i64_slot {t : Int} (h : 0 ≤ t ∧ t < 256) : I64w t := i64w_in (by omega) (by omega)
theorem seg_of {t : Int} (h : 0 ≤ t ∧ t < 256) : Int.tdiv t 8 = t / 8 ∧ IntKind.i64.wrap (t / 8) = t / 8 ∧ I64w (t / 8) := by
  refine ⟨Int.tdiv_eq_ediv_of_nonneg h.1, ?_, i64w_in (by omega) (by omega)⟩
  simp [IntKind.wrap, IntKind.bits, IntKind.signed]
  omega
theorem f0w : (Lit.int .i64 0).wf = true := by decide
theorem f1w : (Lit.int .i64 1).wf = true := by decide
theorem gen_u64 (x : Int) : U64 (fld x 3 32) := by
  have h1 := fld_nonneg x 3 32
  have h2 := fld_lt x 3 32
  have h3 : (2 : Int) ^ 32 = 4294967296 := by decide
  rw [h3] at h2
  exact ⟨by omega, by omega⟩
theorem park_s {ln : Int} (k : Bk K 180 (PkC sl ln st pw pn pu) w) : w.cell? ⟨K, 0, none⟩ = some (.int .i64 sl) ∧ w.cell? ⟨K, 4, none⟩ = some (.int .u64 pn) := ⟨k.cell 0, k.cell 4⟩
theorem u8_3 : U8 3 := by unfold U8; decide
theorem u8_0 : U8 0 := by unfold U8; decide
theorem Bk.c6 {t : TypeId} {c0 c1 c2 c3 c4 c5 : Value} (k : Bk K t [c0, c1, c2, c3, c4, c5] w) : w.cell? ⟨K, 0, none⟩ = some c0 ∧ w.cell? ⟨K, 1, none⟩ = some c1 ∧ w.cell? ⟨K, 2, none⟩ = some c2 ∧ w.cell? ⟨K, 3, none⟩ = some c3 ∧ w.cell? ⟨K, 4, none⟩ = some c4 ∧ w.cell? ⟨K, 5, none⟩ = some c5 ∧ ∀ i, w.frozen? ⟨K, i, none⟩ = false :=
  ⟨k.cell 0, k.cell 1, k.cell 2, k.cell 3, k.cell 4, k.cell 5, k.free⟩
set_option maxRecDepth 100000 in
set_option maxHeartbeats 4000000 in
theorem park_1 (hBm : B ≤ m) (hBK : B ≤ K) (hKp : K ≠ p) (hKb : K ≠ b) (hP : Pr p m b n D s L r w) (k : Bk K 180 (PkC sl 1 st pw pn pu) w) (hw : U64 pw) (hsl : 0 ≤ sl ∧ sl < 256) {v : Int} (hv : vals L (ad9 sl (i64_slot hsl) 0 f0w) = v) (hL : L.length ≤ 4999) (h0 : 0 ≤ r.st) (h1 : r.st < 1000000) :
    Calls Tryz.prog 105 #[.pointer (some ⟨K, 0, none⟩), .pointer (some ⟨b, 0, none⟩)] w fun ee w' => ee = .returned (.tuple #[]) ∧ Bk K 180 (PkC sl 2 st v pn pu) w' ∧ Pr p m b n D s L (r.touch 1 (ad9 sl (i64_slot hsl) 0 f0w) v v false) w' ∧ FxL B p b [K] w w' := by
  have hBw : B ≤ w.heap.size := Nat.le_trans hBm hP.m_le
  have HK0 := Lib.hid k
  have HP0 := Lib.hid hP
  have HF0 := Lib.hid (FxL.of_below (p := p) (b := b) (E := [K]) (Below.refl w.heap.size w) hBw)
  obtain ⟨c0, c1, c2, c3, c4, c5, _⟩ := k.c6
  have HL := Lib.hid hL
  obtain ⟨hg1, hg2, hg3⟩ := seg_of hsl
  have HV := Lib.hid hv
  clear k hP hL hv
  go_enter Tryz.func105, Tryz.ntmps105
  go_wp2_with fail
  ((with_reducible refine (asHeader24_any pw w hw).mono ?_); rintro ee w1 ⟨rfl, rfl⟩)
  go_wp2_with fail
  ((with_reducible refine (ref_slotted sl 0 _).mono ?_); rintro ee x1 ⟨rfl, hb1⟩)
  have HK1 := Lib.hid (HK0.out.below hb1)
  have HP1 := Lib.hid (HP0.out.below hb1)
  have HF1 := Lib.hid (HF0.out.trans (.of_below hb1 (Nat.le_trans hBK (Nat.le_of_lt HK0.out.lt))))
  clear c0 c1 c2 c3 c4 c5
  clear HK0 HP0 HF0 hb1
  obtain ⟨c0, c1, c2, c3, c4, c5, _⟩ := HK1.out.c6
  go_wp2_with fail
  ((with_reducible refine (load_r9 sl 0 (i64_slot hsl) f0w HP1.out HL.out h0 h1).mono ?_); rintro ee x2 ⟨rfl, P2, f2⟩)
  have HK2 := Lib.hid (HK1.out.fr f2 (by decide) hKp hKb)
  have HP2 := Lib.hid P2
  have HF2 := Lib.hid (HF1.out.trans (.of_fr f2 hBm))
  clear c0 c1 c2 c3 c4 c5
  clear HK1 HP1 HF1 P2 f2
  obtain ⟨c0, c1, c2, c3, c4, c5, _⟩ := HK2.out.c6
  have hvv := HV.out
  rw [hvv] at HP2 ⊢
  clear hvv
  have z3 := HK2.out.free 3
  have HK3 := Lib.hid (HK2.out.set 3 (.int .u64 v) (cs' := PkC sl 1 st v pn pu) rfl)
  have HP3 := Lib.hid (HP2.out.setX HK2.out (by decide) hKp hKb 3 (.int .u64 v))
  have HF3 := Lib.hid (HF2.out.trans (.set (E := [K]) _ hBK (by simp) 3 (.int .u64 v)))
  obtain ⟨e30, e31, e32, e33, e34, e35, _⟩ := HK3.out.c6
  have z4 := HK3.out.free 1
  have HK4 := Lib.hid (HK3.out.set 1 (.int .i64 2) (cs' := PkC sl 2 st v pn pu) rfl)
  have HP4 := Lib.hid (HP3.out.setX HK3.out (by decide) hKp hKb 1 (.int .i64 2))
  have HF4 := Lib.hid (HF3.out.trans (.set (E := [K]) _ hBK (by simp) 1 (.int .i64 2)))
  obtain ⟨e40, e41, e42, e43, e44, e45, _⟩ := HK4.out.c6
  go_wp2_with fail
  go_end0
  exact ⟨rfl, HK4.out, HP4.out, HF4.out⟩
set_option maxRecDepth 100000 in
set_option maxHeartbeats 4000000 in
theorem park_2 (hBm : B ≤ m) (hBK : B ≤ K) (hKp : K ≠ p) (hKb : K ≠ b) (hP : Pr p m b n D s L r w) (k : Bk K 180 (PkC sl 2 st pw pn pu) w) (hw : U64 pw) (hsl : 0 ≤ sl ∧ sl < 256) (hL : L.length ≤ 4999) (h0 : 0 ≤ r.st) (h1 : r.st < 1000000) :
    Calls Tryz.prog 105 #[.pointer (some ⟨K, 0, none⟩), .pointer (some ⟨b, 0, none⟩)] w fun ee w' => ee = .returned (.tuple #[]) ∧ Bk K 180 (PkC sl 3 st pw pn pu) w' ∧ Pr p m b n D s (storeA L (ad9 sl (i64_slot hsl) 0 f0w) (headerW 3 (fld pw 3 32))) (r.touch 2 (ad9 sl (i64_slot hsl) 0 f0w) (vals L (ad9 sl (i64_slot hsl) 0 f0w)) (vals (storeA L (ad9 sl (i64_slot hsl) 0 f0w) (headerW 3 (fld pw 3 32))) (ad9 sl (i64_slot hsl) 0 f0w)) false) w' ∧ FxL B p b [K] w w' := by
  have hBw : B ≤ w.heap.size := Nat.le_trans hBm hP.m_le
  have HK0 := Lib.hid k
  have HP0 := Lib.hid hP
  have HF0 := Lib.hid (FxL.of_below (p := p) (b := b) (E := [K]) (Below.refl w.heap.size w) hBw)
  obtain ⟨c0, c1, c2, c3, c4, c5, _⟩ := k.c6
  have HL := Lib.hid hL
  obtain ⟨hg1, hg2, hg3⟩ := seg_of hsl
  clear k hP hL 
  go_enter Tryz.func105, Tryz.ntmps105
  go_wp2_with fail
  ((with_reducible refine (asHeader24_any pw w hw).mono ?_); rintro ee w1 ⟨rfl, rfl⟩)
  go_wp2_with fail
  ((with_reducible refine (ref_slotted sl 0 _).mono ?_); rintro ee x1 ⟨rfl, hb1⟩)
  have HK1 := Lib.hid (HK0.out.below hb1)
  have HP1 := Lib.hid (HP0.out.below hb1)
  have HF1 := Lib.hid (HF0.out.trans (.of_below hb1 (Nat.le_trans hBK (Nat.le_of_lt HK0.out.lt))))
  clear c0 c1 c2 c3 c4 c5
  clear HK0 HP0 HF0 hb1
  obtain ⟨c0, c1, c2, c3, c4, c5, _⟩ := HK1.out.c6
  go_wp2_with fail
  ((with_reducible refine (header28_any 3 (fld pw 3 32) _ u8_3 (gen_u64 pw)).mono ?_); rintro ee w9 ⟨rfl, rfl⟩)
  go_wp2_with fail
  ((with_reducible refine (store_r9 sl 0 (i64_slot hsl) f0w (headerW 3 (fld pw 3 32)) HP1.out HL.out h0 h1).mono ?_); rintro ee x2 ⟨rfl, P2, f2⟩)
  have HK2 := Lib.hid (HK1.out.fr f2 (by decide) hKp hKb)
  have HP2 := Lib.hid P2
  have HF2 := Lib.hid (HF1.out.trans (.of_fr f2 hBm))
  clear c0 c1 c2 c3 c4 c5
  clear HK1 HP1 HF1 P2 f2
  obtain ⟨c0, c1, c2, c3, c4, c5, _⟩ := HK2.out.c6
  have z3 := HK2.out.free 1
  have HK3 := Lib.hid (HK2.out.set 1 (.int .i64 3) (cs' := PkC sl 3 st pw pn pu) rfl)
  have HP3 := Lib.hid (HP2.out.setX HK2.out (by decide) hKp hKb 1 (.int .i64 3))
  have HF3 := Lib.hid (HF2.out.trans (.set (E := [K]) _ hBK (by simp) 1 (.int .i64 3)))
  obtain ⟨e30, e31, e32, e33, e34, e35, _⟩ := HK3.out.c6
  go_wp2_with fail
  go_end0
  exact ⟨rfl, HK3.out, HP3.out, HF3.out⟩
set_option maxRecDepth 100000 in
set_option maxHeartbeats 4000000 in
theorem park_3 (hBm : B ≤ m) (hBK : B ≤ K) (hKp : K ≠ p) (hKb : K ≠ b) (hP : Pr p m b n D s L r w) (k : Bk K 180 (PkC sl 3 st pw pn pu) w) (hw : U64 pw) (hsl : 0 ≤ sl ∧ sl < 256) {v : Int} (hv : vals L (ad6 (sl / 8) (seg_of hsl).2.2 1 f1w) = v) (hL : L.length ≤ 4999) (h0 : 0 ≤ r.st) (h1 : r.st < 1000000) :
    Calls Tryz.prog 105 #[.pointer (some ⟨K, 0, none⟩), .pointer (some ⟨b, 0, none⟩)] w fun ee w' => ee = .returned (.tuple #[]) ∧ Bk K 180 (PkC sl 4 st pw v pu) w' ∧ Pr p m b n D s L (r.touch 1 (ad6 (sl / 8) (seg_of hsl).2.2 1 f1w) v v false) w' ∧ FxL B p b [K] w w' := by
  have hBw : B ≤ w.heap.size := Nat.le_trans hBm hP.m_le
  have HK0 := Lib.hid k
  have HP0 := Lib.hid hP
  have HF0 := Lib.hid (FxL.of_below (p := p) (b := b) (E := [K]) (Below.refl w.heap.size w) hBw)
  obtain ⟨c0, c1, c2, c3, c4, c5, _⟩ := k.c6
  have HL := Lib.hid hL
  obtain ⟨hg1, hg2, hg3⟩ := seg_of hsl
  have HV := Lib.hid hv
  clear k hP hL hv
  go_enter Tryz.func105, Tryz.ntmps105
  go_wp2_with fail
  ((with_reducible refine (asHeader24_any pw w hw).mono ?_); rintro ee w1 ⟨rfl, rfl⟩)
  go_wp2_with fail
  ((with_reducible refine (ref_segment sl 1 (sl / 8) hg1 hg2 _).mono ?_); rintro ee x1 ⟨rfl, hb1⟩)
  have HK1 := Lib.hid (HK0.out.below hb1)
  have HP1 := Lib.hid (HP0.out.below hb1)
  have HF1 := Lib.hid (HF0.out.trans (.of_below hb1 (Nat.le_trans hBK (Nat.le_of_lt HK0.out.lt))))
  clear c0 c1 c2 c3 c4 c5
  clear HK0 HP0 HF0 hb1
  obtain ⟨c0, c1, c2, c3, c4, c5, _⟩ := HK1.out.c6
  go_wp2_with fail
  ((with_reducible refine (load_r6 (sl / 8) 1 (seg_of hsl).2.2 f1w HP1.out HL.out h0 h1).mono ?_); rintro ee x2 ⟨rfl, P2, f2⟩)
  have HK2 := Lib.hid (HK1.out.fr f2 (by decide) hKp hKb)
  have HP2 := Lib.hid P2
  have HF2 := Lib.hid (HF1.out.trans (.of_fr f2 hBm))
  clear c0 c1 c2 c3 c4 c5
  clear HK1 HP1 HF1 P2 f2
  obtain ⟨c0, c1, c2, c3, c4, c5, _⟩ := HK2.out.c6
  have hvv := HV.out
  rw [hvv] at HP2 ⊢
  clear hvv
  have z3 := HK2.out.free 4
  have HK3 := Lib.hid (HK2.out.set 4 (.int .u64 v) (cs' := PkC sl 3 st pw v pu) rfl)
  have HP3 := Lib.hid (HP2.out.setX HK2.out (by decide) hKp hKb 4 (.int .u64 v))
  have HF3 := Lib.hid (HF2.out.trans (.set (E := [K]) _ hBK (by simp) 4 (.int .u64 v)))
  obtain ⟨e30, e31, e32, e33, e34, e35, _⟩ := HK3.out.c6
  have z4 := HK3.out.free 1
  have HK4 := Lib.hid (HK3.out.set 1 (.int .i64 4) (cs' := PkC sl 4 st pw v pu) rfl)
  have HP4 := Lib.hid (HP3.out.setX HK3.out (by decide) hKp hKb 1 (.int .i64 4))
  have HF4 := Lib.hid (HF3.out.trans (.set (E := [K]) _ hBK (by simp) 1 (.int .i64 4)))
  obtain ⟨e40, e41, e42, e43, e44, e45, _⟩ := HK4.out.c6
  go_wp2_with fail
  go_end0
  exact ⟨rfl, HK4.out, HP4.out, HF4.out⟩
set_option maxRecDepth 100000 in
set_option maxHeartbeats 4000000 in
theorem park_6 (hBm : B ≤ m) (hBK : B ≤ K) (hKp : K ≠ p) (hKb : K ≠ b) (hP : Pr p m b n D s L r w) (k : Bk K 180 (PkC sl 6 st pw pn pu) w) (hw : U64 pw) (hsl : 0 ≤ sl ∧ sl < 256) {v : Int} (hv : vals L (ad6 (sl / 8) (seg_of hsl).2.2 1 f1w) = v) (hL : L.length ≤ 4999) (h0 : 0 ≤ r.st) (h1 : r.st < 1000000) :
    Calls Tryz.prog 105 #[.pointer (some ⟨K, 0, none⟩), .pointer (some ⟨b, 0, none⟩)] w fun ee w' => ee = .returned (.tuple #[]) ∧ Bk K 180 (PkC sl 7 st pw v pu) w' ∧ Pr p m b n D s L (r.touch 1 (ad6 (sl / 8) (seg_of hsl).2.2 1 f1w) v v false) w' ∧ FxL B p b [K] w w' := by
  have hBw : B ≤ w.heap.size := Nat.le_trans hBm hP.m_le
  have HK0 := Lib.hid k
  have HP0 := Lib.hid hP
  have HF0 := Lib.hid (FxL.of_below (p := p) (b := b) (E := [K]) (Below.refl w.heap.size w) hBw)
  obtain ⟨c0, c1, c2, c3, c4, c5, _⟩ := k.c6
  have HL := Lib.hid hL
  obtain ⟨hg1, hg2, hg3⟩ := seg_of hsl
  have HV := Lib.hid hv
  clear k hP hL hv
  go_enter Tryz.func105, Tryz.ntmps105
  go_wp2_with fail
  ((with_reducible refine (asHeader24_any pw w hw).mono ?_); rintro ee w1 ⟨rfl, rfl⟩)
  go_wp2_with fail
  ((with_reducible refine (ref_segment sl 1 (sl / 8) hg1 hg2 _).mono ?_); rintro ee x1 ⟨rfl, hb1⟩)
  have HK1 := Lib.hid (HK0.out.below hb1)
  have HP1 := Lib.hid (HP0.out.below hb1)
  have HF1 := Lib.hid (HF0.out.trans (.of_below hb1 (Nat.le_trans hBK (Nat.le_of_lt HK0.out.lt))))
  clear c0 c1 c2 c3 c4 c5
  clear HK0 HP0 HF0 hb1
  obtain ⟨c0, c1, c2, c3, c4, c5, _⟩ := HK1.out.c6
  go_wp2_with fail
  ((with_reducible refine (load_r6 (sl / 8) 1 (seg_of hsl).2.2 f1w HP1.out HL.out h0 h1).mono ?_); rintro ee x2 ⟨rfl, P2, f2⟩)
  have HK2 := Lib.hid (HK1.out.fr f2 (by decide) hKp hKb)
  have HP2 := Lib.hid P2
  have HF2 := Lib.hid (HF1.out.trans (.of_fr f2 hBm))
  clear c0 c1 c2 c3 c4 c5
  clear HK1 HP1 HF1 P2 f2
  obtain ⟨c0, c1, c2, c3, c4, c5, _⟩ := HK2.out.c6
  have hvv := HV.out
  rw [hvv] at HP2 ⊢
  clear hvv
  have z3 := HK2.out.free 4
  have HK3 := Lib.hid (HK2.out.set 4 (.int .u64 v) (cs' := PkC sl 6 st pw v pu) rfl)
  have HP3 := Lib.hid (HP2.out.setX HK2.out (by decide) hKp hKb 4 (.int .u64 v))
  have HF3 := Lib.hid (HF2.out.trans (.set (E := [K]) _ hBK (by simp) 4 (.int .u64 v)))
  obtain ⟨e30, e31, e32, e33, e34, e35, _⟩ := HK3.out.c6
  have z4 := HK3.out.free 1
  have HK4 := Lib.hid (HK3.out.set 1 (.int .i64 7) (cs' := PkC sl 7 st pw v pu) rfl)
  have HP4 := Lib.hid (HP3.out.setX HK3.out (by decide) hKp hKb 1 (.int .i64 7))
  have HF4 := Lib.hid (HF3.out.trans (.set (E := [K]) _ hBK (by simp) 1 (.int .i64 7)))
  obtain ⟨e40, e41, e42, e43, e44, e45, _⟩ := HK4.out.c6
  go_wp2_with fail
  go_end0
  exact ⟨rfl, HK4.out, HP4.out, HF4.out⟩
set_option maxRecDepth 100000 in
set_option maxHeartbeats 4000000 in
theorem park_11 (hBm : B ≤ m) (hBK : B ≤ K) (hKp : K ≠ p) (hKb : K ≠ b) (hP : Pr p m b n D s L r w) (k : Bk K 180 (PkC sl 11 st pw pn pu) w) (hw : U64 pw) (hsl : 0 ≤ sl ∧ sl < 256) {v : Int} (hv : vals L (ad6 (sl / 8) (seg_of hsl).2.2 1 f1w) = v) (hL : L.length ≤ 4999) (h0 : 0 ≤ r.st) (h1 : r.st < 1000000) :
    Calls Tryz.prog 105 #[.pointer (some ⟨K, 0, none⟩), .pointer (some ⟨b, 0, none⟩)] w fun ee w' => ee = .returned (.tuple #[]) ∧ Bk K 180 (PkC sl 12 st pw v pu) w' ∧ Pr p m b n D s L (r.touch 1 (ad6 (sl / 8) (seg_of hsl).2.2 1 f1w) v v false) w' ∧ FxL B p b [K] w w' := by
  have hBw : B ≤ w.heap.size := Nat.le_trans hBm hP.m_le
  have HK0 := Lib.hid k
  have HP0 := Lib.hid hP
  have HF0 := Lib.hid (FxL.of_below (p := p) (b := b) (E := [K]) (Below.refl w.heap.size w) hBw)
  obtain ⟨c0, c1, c2, c3, c4, c5, _⟩ := k.c6
  have HL := Lib.hid hL
  obtain ⟨hg1, hg2, hg3⟩ := seg_of hsl
  have HV := Lib.hid hv
  clear k hP hL hv
  go_enter Tryz.func105, Tryz.ntmps105
  go_wp2_with fail
  ((with_reducible refine (asHeader24_any pw w hw).mono ?_); rintro ee w1 ⟨rfl, rfl⟩)
  go_wp2_with fail
  ((with_reducible refine (ref_segment sl 1 (sl / 8) hg1 hg2 _).mono ?_); rintro ee x1 ⟨rfl, hb1⟩)
  have HK1 := Lib.hid (HK0.out.below hb1)
  have HP1 := Lib.hid (HP0.out.below hb1)
  have HF1 := Lib.hid (HF0.out.trans (.of_below hb1 (Nat.le_trans hBK (Nat.le_of_lt HK0.out.lt))))
  clear c0 c1 c2 c3 c4 c5
  clear HK0 HP0 HF0 hb1
  obtain ⟨c0, c1, c2, c3, c4, c5, _⟩ := HK1.out.c6
  go_wp2_with fail
  ((with_reducible refine (load_r6 (sl / 8) 1 (seg_of hsl).2.2 f1w HP1.out HL.out h0 h1).mono ?_); rintro ee x2 ⟨rfl, P2, f2⟩)
  have HK2 := Lib.hid (HK1.out.fr f2 (by decide) hKp hKb)
  have HP2 := Lib.hid P2
  have HF2 := Lib.hid (HF1.out.trans (.of_fr f2 hBm))
  clear c0 c1 c2 c3 c4 c5
  clear HK1 HP1 HF1 P2 f2
  obtain ⟨c0, c1, c2, c3, c4, c5, _⟩ := HK2.out.c6
  have hvv := HV.out
  rw [hvv] at HP2 ⊢
  clear hvv
  have z3 := HK2.out.free 4
  have HK3 := Lib.hid (HK2.out.set 4 (.int .u64 v) (cs' := PkC sl 11 st pw v pu) rfl)
  have HP3 := Lib.hid (HP2.out.setX HK2.out (by decide) hKp hKb 4 (.int .u64 v))
  have HF3 := Lib.hid (HF2.out.trans (.set (E := [K]) _ hBK (by simp) 4 (.int .u64 v)))
  obtain ⟨e30, e31, e32, e33, e34, e35, _⟩ := HK3.out.c6
  have z4 := HK3.out.free 1
  have HK4 := Lib.hid (HK3.out.set 1 (.int .i64 12) (cs' := PkC sl 12 st pw v pu) rfl)
  have HP4 := Lib.hid (HP3.out.setX HK3.out (by decide) hKp hKb 1 (.int .i64 12))
  have HF4 := Lib.hid (HF3.out.trans (.set (E := [K]) _ hBK (by simp) 1 (.int .i64 12)))
  obtain ⟨e40, e41, e42, e43, e44, e45, _⟩ := HK4.out.c6
  go_wp2_with fail
  go_end0
  exact ⟨rfl, HK4.out, HP4.out, HF4.out⟩
set_option maxRecDepth 100000 in
set_option maxHeartbeats 4000000 in
theorem park_5_stays (hBm : B ≤ m) (hBK : B ≤ K) (hKp : K ≠ p) (hKb : K ≠ b) (hP : Pr p m b n D s L r w) (k : Bk K 180 (PkC sl 5 st pw pn pu) w) (hw : U64 pw) (hsl : 0 ≤ sl ∧ sl < 256) {v : Int} (hv : vals L (ad6 (sl / 8) (seg_of hsl).2.2 0 f0w) = v) (hv1 : v ≠ 1) (hL : L.length ≤ 4999) (h0 : 0 ≤ r.st) (h1 : r.st < 1000000) :
    Calls Tryz.prog 105 #[.pointer (some ⟨K, 0, none⟩), .pointer (some ⟨b, 0, none⟩)] w fun ee w' => ee = .returned (.tuple #[]) ∧ Bk K 180 (PkC sl 0 true pw pn pu) w' ∧ Pr p m b n D s L (r.touch 1 (ad6 (sl / 8) (seg_of hsl).2.2 0 f0w) v v false) w' ∧ FxL B p b [K] w w' := by
  have hBw : B ≤ w.heap.size := Nat.le_trans hBm hP.m_le
  have HK0 := Lib.hid k
  have HP0 := Lib.hid hP
  have HF0 := Lib.hid (FxL.of_below (p := p) (b := b) (E := [K]) (Below.refl w.heap.size w) hBw)
  obtain ⟨c0, c1, c2, c3, c4, c5, _⟩ := k.c6
  have HL := Lib.hid hL
  obtain ⟨hg1, hg2, hg3⟩ := seg_of hsl
  have HV := Lib.hid hv
  have hne : (v == 1) = false := by simpa using hv1
  clear k hP hL hv
  go_enter Tryz.func105, Tryz.ntmps105
  go_wp2_with fail
  ((with_reducible refine (asHeader24_any pw w hw).mono ?_); rintro ee w1 ⟨rfl, rfl⟩)
  have z1 := HK0.out.free 1
  have HK1 := Lib.hid (HK0.out.set 1 (.int .i64 6) (cs' := PkC sl 6 st pw pn pu) rfl)
  have HP1 := Lib.hid (HP0.out.setX HK0.out (by decide) hKp hKb 1 (.int .i64 6))
  have HF1 := Lib.hid (HF0.out.trans (.set (E := [K]) _ hBK (by simp) 1 (.int .i64 6)))
  obtain ⟨e10, e11, e12, e13, e14, e15, _⟩ := HK1.out.c6
  go_wp2_with fail
  ((with_reducible refine (ref_segment sl 0 (sl / 8) hg1 hg2 _).mono ?_); rintro ee x2 ⟨rfl, hb2⟩)
  have HK2 := Lib.hid (HK1.out.below hb2)
  have HP2 := Lib.hid (HP1.out.below hb2)
  have HF2 := Lib.hid (HF1.out.trans (.of_below hb2 (Nat.le_trans hBK (Nat.le_of_lt HK1.out.lt))))
  clear c0 c1 c2 c3 c4 c5
  clear HK1 HP1 HF1 hb2
  obtain ⟨c0, c1, c2, c3, c4, c5, _⟩ := HK2.out.c6
  go_wp2_with fail
  ((with_reducible refine (load_r6 (sl / 8) 0 (seg_of hsl).2.2 f0w HP2.out HL.out h0 h1).mono ?_); rintro ee x3 ⟨rfl, P3, f3⟩)
  have HK3 := Lib.hid (HK2.out.fr f3 (by decide) hKp hKb)
  have HP3 := Lib.hid P3
  have HF3 := Lib.hid (HF2.out.trans (.of_fr f3 hBm))
  clear c0 c1 c2 c3 c4 c5
  clear HK2 HP2 HF2 P3 f3
  obtain ⟨c0, c1, c2, c3, c4, c5, _⟩ := HK3.out.c6
  have hvv := HV.out
  rw [hvv] at HP3 ⊢
  clear hvv
  have z4 := HK3.out.free 1
  have HK4 := Lib.hid (HK3.out.set 1 (.int .i64 0) (cs' := PkC sl 0 st pw pn pu) rfl)
  have HP4 := Lib.hid (HP3.out.setX HK3.out (by decide) hKp hKb 1 (.int .i64 0))
  have HF4 := Lib.hid (HF3.out.trans (.set (E := [K]) _ hBK (by simp) 1 (.int .i64 0)))
  obtain ⟨e40, e41, e42, e43, e44, e45, _⟩ := HK4.out.c6
  have z5 := HK4.out.free 2
  have HK5 := Lib.hid (HK4.out.set 2 (.bool true) (cs' := PkC sl 0 true pw pn pu) rfl)
  have HP5 := Lib.hid (HP4.out.setX HK4.out (by decide) hKp hKb 2 (.bool true))
  have HF5 := Lib.hid (HF4.out.trans (.set (E := [K]) _ hBK (by simp) 2 (.bool true)))
  obtain ⟨e50, e51, e52, e53, e54, e55, _⟩ := HK5.out.c6
  go_wp2_with fail
  go_end0
  exact ⟨rfl, HK5.out, HP5.out, HF5.out⟩
set_option maxRecDepth 100000 in
set_option maxHeartbeats 4000000 in
theorem park_5_on (hBm : B ≤ m) (hBK : B ≤ K) (hKp : K ≠ p) (hKb : K ≠ b) (hP : Pr p m b n D s L r w) (k : Bk K 180 (PkC sl 5 st pw pn pu) w) (hw : U64 pw) (hsl : 0 ≤ sl ∧ sl < 256) {v : Int} (hv : vals L (ad6 (sl / 8) (seg_of hsl).2.2 0 f0w) = v) (hv1 : v = 1) (hL : L.length ≤ 4999) (h0 : 0 ≤ r.st) (h1 : r.st < 1000000) :
    Calls Tryz.prog 105 #[.pointer (some ⟨K, 0, none⟩), .pointer (some ⟨b, 0, none⟩)] w fun ee w' => ee = .returned (.tuple #[]) ∧ Bk K 180 (PkC sl 6 st pw pn pu) w' ∧ Pr p m b n D s L (r.touch 1 (ad6 (sl / 8) (seg_of hsl).2.2 0 f0w) v v false) w' ∧ FxL B p b [K] w w' := by
  have hBw : B ≤ w.heap.size := Nat.le_trans hBm hP.m_le
  have HK0 := Lib.hid k
  have HP0 := Lib.hid hP
  have HF0 := Lib.hid (FxL.of_below (p := p) (b := b) (E := [K]) (Below.refl w.heap.size w) hBw)
  obtain ⟨c0, c1, c2, c3, c4, c5, _⟩ := k.c6
  have HL := Lib.hid hL
  obtain ⟨hg1, hg2, hg3⟩ := seg_of hsl
  have HV := Lib.hid hv
  have HV1 := Lib.hid hv1
  clear k hP hL hv hv1
  go_enter Tryz.func105, Tryz.ntmps105
  go_wp2_with fail
  ((with_reducible refine (asHeader24_any pw w hw).mono ?_); rintro ee w1 ⟨rfl, rfl⟩)
  have z1 := HK0.out.free 1
  have HK1 := Lib.hid (HK0.out.set 1 (.int .i64 6) (cs' := PkC sl 6 st pw pn pu) rfl)
  have HP1 := Lib.hid (HP0.out.setX HK0.out (by decide) hKp hKb 1 (.int .i64 6))
  have HF1 := Lib.hid (HF0.out.trans (.set (E := [K]) _ hBK (by simp) 1 (.int .i64 6)))
  obtain ⟨e10, e11, e12, e13, e14, e15, _⟩ := HK1.out.c6
  go_wp2_with fail
  ((with_reducible refine (ref_segment sl 0 (sl / 8) hg1 hg2 _).mono ?_); rintro ee x2 ⟨rfl, hb2⟩)
  have HK2 := Lib.hid (HK1.out.below hb2)
  have HP2 := Lib.hid (HP1.out.below hb2)
  have HF2 := Lib.hid (HF1.out.trans (.of_below hb2 (Nat.le_trans hBK (Nat.le_of_lt HK1.out.lt))))
  clear c0 c1 c2 c3 c4 c5
  clear HK1 HP1 HF1 hb2
  obtain ⟨c0, c1, c2, c3, c4, c5, _⟩ := HK2.out.c6
  go_wp2_with fail
  ((with_reducible refine (load_r6 (sl / 8) 0 (seg_of hsl).2.2 f0w HP2.out HL.out h0 h1).mono ?_); rintro ee x3 ⟨rfl, P3, f3⟩)
  have HK3 := Lib.hid (HK2.out.fr f3 (by decide) hKp hKb)
  have HP3 := Lib.hid P3
  have HF3 := Lib.hid (HF2.out.trans (.of_fr f3 hBm))
  clear c0 c1 c2 c3 c4 c5
  clear HK2 HP2 HF2 P3 f3
  obtain ⟨c0, c1, c2, c3, c4, c5, _⟩ := HK3.out.c6
  have hvv := HV.out
  rw [hvv] at HP3 ⊢
  clear hvv
  have hv1 := HV1.out
  subst hv1
  go_wp2_with fail
  go_end0
  exact ⟨rfl, HK3.out, HP3.out, HF3.out⟩
set_option maxRecDepth 100000 in
set_option maxHeartbeats 4000000 in
theorem park_8_on (hBm : B ≤ m) (hBK : B ≤ K) (hKp : K ≠ p) (hKb : K ≠ b) (hP : Pr p m b n D s L r w) (k : Bk K 180 (PkC sl 8 st pw pn pu) w) (hw : U64 pw) (hsl : 0 ≤ sl ∧ sl < 256) {v : Int} (hv : vals L (ad6 (sl / 8) (seg_of hsl).2.2 0 f0w) = v) (hv1 : v = 1) (hL : L.length ≤ 4999) (h0 : 0 ≤ r.st) (h1 : r.st < 1000000) :
    Calls Tryz.prog 105 #[.pointer (some ⟨K, 0, none⟩), .pointer (some ⟨b, 0, none⟩)] w fun ee w' => ee = .returned (.tuple #[]) ∧ Bk K 180 (PkC sl 9 st pw pn pu) w' ∧ Pr p m b n D s L (r.touch 1 (ad6 (sl / 8) (seg_of hsl).2.2 0 f0w) v v false) w' ∧ FxL B p b [K] w w' := by
  have hBw : B ≤ w.heap.size := Nat.le_trans hBm hP.m_le
  have HK0 := Lib.hid k
  have HP0 := Lib.hid hP
  have HF0 := Lib.hid (FxL.of_below (p := p) (b := b) (E := [K]) (Below.refl w.heap.size w) hBw)
  obtain ⟨c0, c1, c2, c3, c4, c5, _⟩ := k.c6
  have HL := Lib.hid hL
  obtain ⟨hg1, hg2, hg3⟩ := seg_of hsl
  have HV := Lib.hid hv
  have HV1 := Lib.hid hv1
  clear k hP hL hv hv1
  go_enter Tryz.func105, Tryz.ntmps105
  go_wp2_with fail
  ((with_reducible refine (asHeader24_any pw w hw).mono ?_); rintro ee w1 ⟨rfl, rfl⟩)
  have z1 := HK0.out.free 1
  have HK1 := Lib.hid (HK0.out.set 1 (.int .i64 3) (cs' := PkC sl 3 st pw pn pu) rfl)
  have HP1 := Lib.hid (HP0.out.setX HK0.out (by decide) hKp hKb 1 (.int .i64 3))
  have HF1 := Lib.hid (HF0.out.trans (.set (E := [K]) _ hBK (by simp) 1 (.int .i64 3)))
  obtain ⟨e10, e11, e12, e13, e14, e15, _⟩ := HK1.out.c6
  go_wp2_with fail
  ((with_reducible refine (ref_segment sl 0 (sl / 8) hg1 hg2 _).mono ?_); rintro ee x2 ⟨rfl, hb2⟩)
  have HK2 := Lib.hid (HK1.out.below hb2)
  have HP2 := Lib.hid (HP1.out.below hb2)
  have HF2 := Lib.hid (HF1.out.trans (.of_below hb2 (Nat.le_trans hBK (Nat.le_of_lt HK1.out.lt))))
  clear c0 c1 c2 c3 c4 c5
  clear HK1 HP1 HF1 hb2
  obtain ⟨c0, c1, c2, c3, c4, c5, _⟩ := HK2.out.c6
  go_wp2_with fail
  ((with_reducible refine (load_r6 (sl / 8) 0 (seg_of hsl).2.2 f0w HP2.out HL.out h0 h1).mono ?_); rintro ee x3 ⟨rfl, P3, f3⟩)
  have HK3 := Lib.hid (HK2.out.fr f3 (by decide) hKp hKb)
  have HP3 := Lib.hid P3
  have HF3 := Lib.hid (HF2.out.trans (.of_fr f3 hBm))
  clear c0 c1 c2 c3 c4 c5
  clear HK2 HP2 HF2 P3 f3
  obtain ⟨c0, c1, c2, c3, c4, c5, _⟩ := HK3.out.c6
  have hvv := HV.out
  rw [hvv] at HP3 ⊢
  clear hvv
  have hv1 := HV1.out
  subst hv1
  have z4 := HK3.out.free 1
  have HK4 := Lib.hid (HK3.out.set 1 (.int .i64 9) (cs' := PkC sl 9 st pw pn pu) rfl)
  have HP4 := Lib.hid (HP3.out.setX HK3.out (by decide) hKp hKb 1 (.int .i64 9))
  have HF4 := Lib.hid (HF3.out.trans (.set (E := [K]) _ hBK (by simp) 1 (.int .i64 9)))
  obtain ⟨e40, e41, e42, e43, e44, e45, _⟩ := HK4.out.c6
  go_wp2_with fail
  go_end0
  exact ⟨rfl, HK4.out, HP4.out, HF4.out⟩
set_option maxRecDepth 100000 in
set_option maxHeartbeats 4000000 in
theorem park_8_back (hBm : B ≤ m) (hBK : B ≤ K) (hKp : K ≠ p) (hKb : K ≠ b) (hP : Pr p m b n D s L r w) (k : Bk K 180 (PkC sl 8 st pw pn pu) w) (hw : U64 pw) (hsl : 0 ≤ sl ∧ sl < 256) {v : Int} (hv : vals L (ad6 (sl / 8) (seg_of hsl).2.2 0 f0w) = v) (hv1 : v ≠ 1) (hL : L.length ≤ 4999) (h0 : 0 ≤ r.st) (h1 : r.st < 1000000) :
    Calls Tryz.prog 105 #[.pointer (some ⟨K, 0, none⟩), .pointer (some ⟨b, 0, none⟩)] w fun ee w' => ee = .returned (.tuple #[]) ∧ Bk K 180 (PkC sl 3 st pw pn pu) w' ∧ Pr p m b n D s L (r.touch 1 (ad6 (sl / 8) (seg_of hsl).2.2 0 f0w) v v false) w' ∧ FxL B p b [K] w w' := by
  have hBw : B ≤ w.heap.size := Nat.le_trans hBm hP.m_le
  have HK0 := Lib.hid k
  have HP0 := Lib.hid hP
  have HF0 := Lib.hid (FxL.of_below (p := p) (b := b) (E := [K]) (Below.refl w.heap.size w) hBw)
  obtain ⟨c0, c1, c2, c3, c4, c5, _⟩ := k.c6
  have HL := Lib.hid hL
  obtain ⟨hg1, hg2, hg3⟩ := seg_of hsl
  have HV := Lib.hid hv
  have hne : (v == 1) = false := by simpa using hv1
  clear k hP hL hv
  go_enter Tryz.func105, Tryz.ntmps105
  go_wp2_with fail
  ((with_reducible refine (asHeader24_any pw w hw).mono ?_); rintro ee w1 ⟨rfl, rfl⟩)
  have z1 := HK0.out.free 1
  have HK1 := Lib.hid (HK0.out.set 1 (.int .i64 3) (cs' := PkC sl 3 st pw pn pu) rfl)
  have HP1 := Lib.hid (HP0.out.setX HK0.out (by decide) hKp hKb 1 (.int .i64 3))
  have HF1 := Lib.hid (HF0.out.trans (.set (E := [K]) _ hBK (by simp) 1 (.int .i64 3)))
  obtain ⟨e10, e11, e12, e13, e14, e15, _⟩ := HK1.out.c6
  go_wp2_with fail
  ((with_reducible refine (ref_segment sl 0 (sl / 8) hg1 hg2 _).mono ?_); rintro ee x2 ⟨rfl, hb2⟩)
  have HK2 := Lib.hid (HK1.out.below hb2)
  have HP2 := Lib.hid (HP1.out.below hb2)
  have HF2 := Lib.hid (HF1.out.trans (.of_below hb2 (Nat.le_trans hBK (Nat.le_of_lt HK1.out.lt))))
  clear c0 c1 c2 c3 c4 c5
  clear HK1 HP1 HF1 hb2
  obtain ⟨c0, c1, c2, c3, c4, c5, _⟩ := HK2.out.c6
  go_wp2_with fail
  ((with_reducible refine (load_r6 (sl / 8) 0 (seg_of hsl).2.2 f0w HP2.out HL.out h0 h1).mono ?_); rintro ee x3 ⟨rfl, P3, f3⟩)
  have HK3 := Lib.hid (HK2.out.fr f3 (by decide) hKp hKb)
  have HP3 := Lib.hid P3
  have HF3 := Lib.hid (HF2.out.trans (.of_fr f3 hBm))
  clear c0 c1 c2 c3 c4 c5
  clear HK2 HP2 HF2 P3 f3
  obtain ⟨c0, c1, c2, c3, c4, c5, _⟩ := HK3.out.c6
  have hvv := HV.out
  rw [hvv] at HP3 ⊢
  clear hvv
  go_wp2_with fail
  go_end0
  exact ⟨rfl, HK3.out, HP3.out, HF3.out⟩
set_option maxRecDepth 100000 in
set_option maxHeartbeats 4000000 in
theorem park_4_yes (hBm : B ≤ m) (hBK : B ≤ K) (hKp : K ≠ p) (hKb : K ≠ b) (hP : Pr p m b n D s L r w) (k : Bk K 180 (PkC sl 4 st pw pn pu) w) (hw : U64 pw) (hsl : 0 ≤ sl ∧ sl < 256) {v : Int} (hv : IntKind.u64.wrap (pn + 1) = v) (hc : casA L (ad6 (sl / 8) (seg_of hsl).2.2 1 f1w) pn = true) (hL : L.length ≤ 4999) (h0 : 0 ≤ r.st) (h1 : r.st < 1000000) :
    Calls Tryz.prog 105 #[.pointer (some ⟨K, 0, none⟩), .pointer (some ⟨b, 0, none⟩)] w fun ee w' => ee = .returned (.tuple #[]) ∧ Bk K 180 (PkC sl 5 st pw pn pu) w' ∧ Pr p m b n D s (casL L (ad6 (sl / 8) (seg_of hsl).2.2 1 f1w) pn v) (r.touch 3 (ad6 (sl / 8) (seg_of hsl).2.2 1 f1w) (vals L (ad6 (sl / 8) (seg_of hsl).2.2 1 f1w)) (vals (casL L (ad6 (sl / 8) (seg_of hsl).2.2 1 f1w) pn v) (ad6 (sl / 8) (seg_of hsl).2.2 1 f1w)) true) w' ∧ FxL B p b [K] w w' := by
  have hBw : B ≤ w.heap.size := Nat.le_trans hBm hP.m_le
  have HK0 := Lib.hid k
  have HP0 := Lib.hid hP
  have HF0 := Lib.hid (FxL.of_below (p := p) (b := b) (E := [K]) (Below.refl w.heap.size w) hBw)
  obtain ⟨c0, c1, c2, c3, c4, c5, _⟩ := k.c6
  have HL := Lib.hid hL
  obtain ⟨hg1, hg2, hg3⟩ := seg_of hsl
  have HC := Lib.hid hc
  clear k hP hL hc
  go_enter Tryz.func105, Tryz.ntmps105
  go_wp2_with fail
  ((with_reducible refine (asHeader24_any pw w hw).mono ?_); rintro ee w1 ⟨rfl, rfl⟩)
  have z1 := HK0.out.free 1
  have HK1 := Lib.hid (HK0.out.set 1 (.int .i64 3) (cs' := PkC sl 3 st pw pn pu) rfl)
  have HP1 := Lib.hid (HP0.out.setX HK0.out (by decide) hKp hKb 1 (.int .i64 3))
  have HF1 := Lib.hid (HF0.out.trans (.set (E := [K]) _ hBK (by simp) 1 (.int .i64 3)))
  obtain ⟨e10, e11, e12, e13, e14, e15, _⟩ := HK1.out.c6
  go_wp2_with fail
  revert HK1 HP1 HF1 e10 e11 e12 e13 e14 e15
  generalize w1.setCell ⟨K, 1, none⟩ (.int .i64 3) = y1
  intro HK1 HP1 HF1 e10 e11 e12 e13 e14 e15
  have HKd := Lib.hid (HK1.out.below (Below.refl _ y1).drew)
  have HPd := Lib.hid (HP1.out.below (Below.refl _ y1).drew)
  have HFd := Lib.hid (HF1.out.trans (.of_below (Below.refl _ y1).drew (Nat.le_trans hBK (Nat.le_of_lt HK1.out.lt))))
  have hs0 := Lib.hid (And.intro (HKd.out.cell 0) (HKd.out.cell 4))
  simp only [PkC, List.getElem?_cons_zero, List.getElem?_cons_succ] at hs0
  clear HK0 HP0 HF0 HK1 HP1 HF1 e10 e11 e12 e13 e14 e15 z1
  clear c0 c1 c2 c3 c4 c5
  go_region_held3 (fun w9 => w9.cell? ⟨K, 0, none⟩ = some (.int .i64 sl) ∧ w9.cell? ⟨K, 4, none⟩ = some (.int .u64 pn))
    (first | exact hs0.out | exact hs2.out | exact hs3.out | fail)
    (first
      | (go_at_call 134; with_reducible refine (ref_segment sl 1 (sl / 8) hg1 hg2 _).mono ?_; rintro ee x2 ⟨rfl, hb2⟩; have HK2 := Lib.hid (HKd.out.below hb2); have HP2 := Lib.hid (HPd.out.below hb2); have HF2 := Lib.hid (HFd.out.trans (.of_below hb2 (Nat.le_trans hBK (Nat.le_of_lt HKd.out.lt)))); have hs2 := Lib.hid (park_s HK2.out); clear hb2)
      | (go_at_call 70; with_reducible refine (cas_r6 (sl / 8) 1 (seg_of hsl).2.2 f1w HC.out HP2.out HL.out h0 h1).mono ?_; rintro ee x3 ⟨rfl, P3, f3⟩; have HK3 := Lib.hid (HK2.out.fr f3 (by decide) hKp hKb); have HP3 := Lib.hid P3; have HF3 := Lib.hid (HF2.out.trans (.of_fr f3 hBm)); have hs3 := Lib.hid (park_s HK3.out); clear P3 f3)
      | fail)
  obtain ⟨c0, c1, c2, c3, c4, c5, _⟩ := HK3.out.c6
  have z4 := HK3.out.free 1
  have HK4 := Lib.hid (HK3.out.set 1 (.int .i64 5) (cs' := PkC sl 5 st pw pn pu) rfl)
  have HP4 := Lib.hid (HP3.out.setX HK3.out (by decide) hKp hKb 1 (.int .i64 5))
  have HF4 := Lib.hid (HF3.out.trans (.set (E := [K]) _ hBK (by simp) 1 (.int .i64 5)))
  obtain ⟨e40, e41, e42, e43, e44, e45, _⟩ := HK4.out.c6
  go_wp2_with fail
  go_end0
  exact ⟨rfl, HK4.out, HP4.out, HF4.out⟩
set_option maxRecDepth 100000 in
set_option maxHeartbeats 4000000 in
theorem park_4_no (hBm : B ≤ m) (hBK : B ≤ K) (hKp : K ≠ p) (hKb : K ≠ b) (hP : Pr p m b n D s L r w) (k : Bk K 180 (PkC sl 4 st pw pn pu) w) (hw : U64 pw) (hsl : 0 ≤ sl ∧ sl < 256) {v : Int} (hv : IntKind.u64.wrap (pn + 1) = v) (hc : casA L (ad6 (sl / 8) (seg_of hsl).2.2 1 f1w) pn = false) (hL : L.length ≤ 4999) (h0 : 0 ≤ r.st) (h1 : r.st < 1000000) :
    Calls Tryz.prog 105 #[.pointer (some ⟨K, 0, none⟩), .pointer (some ⟨b, 0, none⟩)] w fun ee w' => ee = .returned (.tuple #[]) ∧ Bk K 180 (PkC sl 3 st pw pn pu) w' ∧ Pr p m b n D s (casL L (ad6 (sl / 8) (seg_of hsl).2.2 1 f1w) pn v) (r.touch 3 (ad6 (sl / 8) (seg_of hsl).2.2 1 f1w) (vals L (ad6 (sl / 8) (seg_of hsl).2.2 1 f1w)) (vals (casL L (ad6 (sl / 8) (seg_of hsl).2.2 1 f1w) pn v) (ad6 (sl / 8) (seg_of hsl).2.2 1 f1w)) false) w' ∧ FxL B p b [K] w w' := by
  have hBw : B ≤ w.heap.size := Nat.le_trans hBm hP.m_le
  have HK0 := Lib.hid k
  have HP0 := Lib.hid hP
  have HF0 := Lib.hid (FxL.of_below (p := p) (b := b) (E := [K]) (Below.refl w.heap.size w) hBw)
  obtain ⟨c0, c1, c2, c3, c4, c5, _⟩ := k.c6
  have HL := Lib.hid hL
  obtain ⟨hg1, hg2, hg3⟩ := seg_of hsl
  have HC := Lib.hid hc
  clear k hP hL hc
  go_enter Tryz.func105, Tryz.ntmps105
  go_wp2_with fail
  ((with_reducible refine (asHeader24_any pw w hw).mono ?_); rintro ee w1 ⟨rfl, rfl⟩)
  have z1 := HK0.out.free 1
  have HK1 := Lib.hid (HK0.out.set 1 (.int .i64 3) (cs' := PkC sl 3 st pw pn pu) rfl)
  have HP1 := Lib.hid (HP0.out.setX HK0.out (by decide) hKp hKb 1 (.int .i64 3))
  have HF1 := Lib.hid (HF0.out.trans (.set (E := [K]) _ hBK (by simp) 1 (.int .i64 3)))
  obtain ⟨e10, e11, e12, e13, e14, e15, _⟩ := HK1.out.c6
  go_wp2_with fail
  revert HK1 HP1 HF1 e10 e11 e12 e13 e14 e15
  generalize w1.setCell ⟨K, 1, none⟩ (.int .i64 3) = y1
  intro HK1 HP1 HF1 e10 e11 e12 e13 e14 e15
  have HKd := Lib.hid (HK1.out.below (Below.refl _ y1).drew)
  have HPd := Lib.hid (HP1.out.below (Below.refl _ y1).drew)
  have HFd := Lib.hid (HF1.out.trans (.of_below (Below.refl _ y1).drew (Nat.le_trans hBK (Nat.le_of_lt HK1.out.lt))))
  have hs0 := Lib.hid (And.intro (HKd.out.cell 0) (HKd.out.cell 4))
  simp only [PkC, List.getElem?_cons_zero, List.getElem?_cons_succ] at hs0
  clear HK0 HP0 HF0 HK1 HP1 HF1 e10 e11 e12 e13 e14 e15 z1
  clear c0 c1 c2 c3 c4 c5
  go_region_held3 (fun w9 => w9.cell? ⟨K, 0, none⟩ = some (.int .i64 sl) ∧ w9.cell? ⟨K, 4, none⟩ = some (.int .u64 pn))
    (first | exact hs0.out | exact hs2.out | exact hs3.out | fail)
    (first
      | (go_at_call 134; with_reducible refine (ref_segment sl 1 (sl / 8) hg1 hg2 _).mono ?_; rintro ee x2 ⟨rfl, hb2⟩; have HK2 := Lib.hid (HKd.out.below hb2); have HP2 := Lib.hid (HPd.out.below hb2); have HF2 := Lib.hid (HFd.out.trans (.of_below hb2 (Nat.le_trans hBK (Nat.le_of_lt HKd.out.lt)))); have hs2 := Lib.hid (park_s HK2.out); clear hb2)
      | (go_at_call 70; with_reducible refine (cas_r6 (sl / 8) 1 (seg_of hsl).2.2 f1w HC.out HP2.out HL.out h0 h1).mono ?_; rintro ee x3 ⟨rfl, P3, f3⟩; have HK3 := Lib.hid (HK2.out.fr f3 (by decide) hKp hKb); have HP3 := Lib.hid P3; have HF3 := Lib.hid (HF2.out.trans (.of_fr f3 hBm)); have hs3 := Lib.hid (park_s HK3.out); clear P3 f3)
      | fail)
  obtain ⟨c0, c1, c2, c3, c4, c5, _⟩ := HK3.out.c6
  go_wp2_with fail
  go_end0
  exact ⟨rfl, HK3.out, HP3.out, HF3.out⟩
set_option maxRecDepth 100000 in
set_option maxHeartbeats 4000000 in
theorem park_7_yes (hBm : B ≤ m) (hBK : B ≤ K) (hKp : K ≠ p) (hKb : K ≠ b) (hP : Pr p m b n D s L r w) (k : Bk K 180 (PkC sl 7 st pw pn pu) w) (hw : U64 pw) (hsl : 0 ≤ sl ∧ sl < 256) {v : Int} (hv : IntKind.u64.wrap (pn - 1) = v) (hc : casA L (ad6 (sl / 8) (seg_of hsl).2.2 1 f1w) pn = true) (hL : L.length ≤ 4999) (h0 : 0 ≤ r.st) (h1 : r.st < 1000000) :
    Calls Tryz.prog 105 #[.pointer (some ⟨K, 0, none⟩), .pointer (some ⟨b, 0, none⟩)] w fun ee w' => ee = .returned (.tuple #[]) ∧ Bk K 180 (PkC sl 8 st pw pn pu) w' ∧ Pr p m b n D s (casL L (ad6 (sl / 8) (seg_of hsl).2.2 1 f1w) pn v) (r.touch 3 (ad6 (sl / 8) (seg_of hsl).2.2 1 f1w) (vals L (ad6 (sl / 8) (seg_of hsl).2.2 1 f1w)) (vals (casL L (ad6 (sl / 8) (seg_of hsl).2.2 1 f1w) pn v) (ad6 (sl / 8) (seg_of hsl).2.2 1 f1w)) true) w' ∧ FxL B p b [K] w w' := by
  have hBw : B ≤ w.heap.size := Nat.le_trans hBm hP.m_le
  have HK0 := Lib.hid k
  have HP0 := Lib.hid hP
  have HF0 := Lib.hid (FxL.of_below (p := p) (b := b) (E := [K]) (Below.refl w.heap.size w) hBw)
  obtain ⟨c0, c1, c2, c3, c4, c5, _⟩ := k.c6
  have HL := Lib.hid hL
  obtain ⟨hg1, hg2, hg3⟩ := seg_of hsl
  have HC := Lib.hid hc
  clear k hP hL hc
  go_enter Tryz.func105, Tryz.ntmps105
  go_wp2_with fail
  ((with_reducible refine (asHeader24_any pw w hw).mono ?_); rintro ee w1 ⟨rfl, rfl⟩)
  have z1 := HK0.out.free 1
  have HK1 := Lib.hid (HK0.out.set 1 (.int .i64 6) (cs' := PkC sl 6 st pw pn pu) rfl)
  have HP1 := Lib.hid (HP0.out.setX HK0.out (by decide) hKp hKb 1 (.int .i64 6))
  have HF1 := Lib.hid (HF0.out.trans (.set (E := [K]) _ hBK (by simp) 1 (.int .i64 6)))
  obtain ⟨e10, e11, e12, e13, e14, e15, _⟩ := HK1.out.c6
  go_wp2_with fail
  revert HK1 HP1 HF1 e10 e11 e12 e13 e14 e15
  generalize w1.setCell ⟨K, 1, none⟩ (.int .i64 6) = y1
  intro HK1 HP1 HF1 e10 e11 e12 e13 e14 e15
  have HKd := Lib.hid (HK1.out.below (Below.refl _ y1).drew)
  have HPd := Lib.hid (HP1.out.below (Below.refl _ y1).drew)
  have HFd := Lib.hid (HF1.out.trans (.of_below (Below.refl _ y1).drew (Nat.le_trans hBK (Nat.le_of_lt HK1.out.lt))))
  have hs0 := Lib.hid (And.intro (HKd.out.cell 0) (HKd.out.cell 4))
  simp only [PkC, List.getElem?_cons_zero, List.getElem?_cons_succ] at hs0
  clear HK0 HP0 HF0 HK1 HP1 HF1 e10 e11 e12 e13 e14 e15 z1
  clear c0 c1 c2 c3 c4 c5
  go_region_held3 (fun w9 => w9.cell? ⟨K, 0, none⟩ = some (.int .i64 sl) ∧ w9.cell? ⟨K, 4, none⟩ = some (.int .u64 pn))
    (first | exact hs0.out | exact hs2.out | exact hs3.out | fail)
    (first
      | (go_at_call 134; with_reducible refine (ref_segment sl 1 (sl / 8) hg1 hg2 _).mono ?_; rintro ee x2 ⟨rfl, hb2⟩; have HK2 := Lib.hid (HKd.out.below hb2); have HP2 := Lib.hid (HPd.out.below hb2); have HF2 := Lib.hid (HFd.out.trans (.of_below hb2 (Nat.le_trans hBK (Nat.le_of_lt HKd.out.lt)))); have hs2 := Lib.hid (park_s HK2.out); clear hb2)
      | (go_at_call 70; with_reducible refine (cas_r6 (sl / 8) 1 (seg_of hsl).2.2 f1w HC.out HP2.out HL.out h0 h1).mono ?_; rintro ee x3 ⟨rfl, P3, f3⟩; have HK3 := Lib.hid (HK2.out.fr f3 (by decide) hKp hKb); have HP3 := Lib.hid P3; have HF3 := Lib.hid (HF2.out.trans (.of_fr f3 hBm)); have hs3 := Lib.hid (park_s HK3.out); clear P3 f3)
      | fail)
  obtain ⟨c0, c1, c2, c3, c4, c5, _⟩ := HK3.out.c6
  have z4 := HK3.out.free 1
  have HK4 := Lib.hid (HK3.out.set 1 (.int .i64 8) (cs' := PkC sl 8 st pw pn pu) rfl)
  have HP4 := Lib.hid (HP3.out.setX HK3.out (by decide) hKp hKb 1 (.int .i64 8))
  have HF4 := Lib.hid (HF3.out.trans (.set (E := [K]) _ hBK (by simp) 1 (.int .i64 8)))
  obtain ⟨e40, e41, e42, e43, e44, e45, _⟩ := HK4.out.c6
  go_wp2_with fail
  go_end0
  exact ⟨rfl, HK4.out, HP4.out, HF4.out⟩
set_option maxRecDepth 100000 in
set_option maxHeartbeats 4000000 in
theorem park_7_no (hBm : B ≤ m) (hBK : B ≤ K) (hKp : K ≠ p) (hKb : K ≠ b) (hP : Pr p m b n D s L r w) (k : Bk K 180 (PkC sl 7 st pw pn pu) w) (hw : U64 pw) (hsl : 0 ≤ sl ∧ sl < 256) {v : Int} (hv : IntKind.u64.wrap (pn - 1) = v) (hc : casA L (ad6 (sl / 8) (seg_of hsl).2.2 1 f1w) pn = false) (hL : L.length ≤ 4999) (h0 : 0 ≤ r.st) (h1 : r.st < 1000000) :
    Calls Tryz.prog 105 #[.pointer (some ⟨K, 0, none⟩), .pointer (some ⟨b, 0, none⟩)] w fun ee w' => ee = .returned (.tuple #[]) ∧ Bk K 180 (PkC sl 6 st pw pn pu) w' ∧ Pr p m b n D s (casL L (ad6 (sl / 8) (seg_of hsl).2.2 1 f1w) pn v) (r.touch 3 (ad6 (sl / 8) (seg_of hsl).2.2 1 f1w) (vals L (ad6 (sl / 8) (seg_of hsl).2.2 1 f1w)) (vals (casL L (ad6 (sl / 8) (seg_of hsl).2.2 1 f1w) pn v) (ad6 (sl / 8) (seg_of hsl).2.2 1 f1w)) false) w' ∧ FxL B p b [K] w w' := by
  have hBw : B ≤ w.heap.size := Nat.le_trans hBm hP.m_le
  have HK0 := Lib.hid k
  have HP0 := Lib.hid hP
  have HF0 := Lib.hid (FxL.of_below (p := p) (b := b) (E := [K]) (Below.refl w.heap.size w) hBw)
  obtain ⟨c0, c1, c2, c3, c4, c5, _⟩ := k.c6
  have HL := Lib.hid hL
  obtain ⟨hg1, hg2, hg3⟩ := seg_of hsl
  have HC := Lib.hid hc
  clear k hP hL hc
  go_enter Tryz.func105, Tryz.ntmps105
  go_wp2_with fail
  ((with_reducible refine (asHeader24_any pw w hw).mono ?_); rintro ee w1 ⟨rfl, rfl⟩)
  have z1 := HK0.out.free 1
  have HK1 := Lib.hid (HK0.out.set 1 (.int .i64 6) (cs' := PkC sl 6 st pw pn pu) rfl)
  have HP1 := Lib.hid (HP0.out.setX HK0.out (by decide) hKp hKb 1 (.int .i64 6))
  have HF1 := Lib.hid (HF0.out.trans (.set (E := [K]) _ hBK (by simp) 1 (.int .i64 6)))
  obtain ⟨e10, e11, e12, e13, e14, e15, _⟩ := HK1.out.c6
  go_wp2_with fail
  revert HK1 HP1 HF1 e10 e11 e12 e13 e14 e15
  generalize w1.setCell ⟨K, 1, none⟩ (.int .i64 6) = y1
  intro HK1 HP1 HF1 e10 e11 e12 e13 e14 e15
  have HKd := Lib.hid (HK1.out.below (Below.refl _ y1).drew)
  have HPd := Lib.hid (HP1.out.below (Below.refl _ y1).drew)
  have HFd := Lib.hid (HF1.out.trans (.of_below (Below.refl _ y1).drew (Nat.le_trans hBK (Nat.le_of_lt HK1.out.lt))))
  have hs0 := Lib.hid (And.intro (HKd.out.cell 0) (HKd.out.cell 4))
  simp only [PkC, List.getElem?_cons_zero, List.getElem?_cons_succ] at hs0
  clear HK0 HP0 HF0 HK1 HP1 HF1 e10 e11 e12 e13 e14 e15 z1
  clear c0 c1 c2 c3 c4 c5
  go_region_held3 (fun w9 => w9.cell? ⟨K, 0, none⟩ = some (.int .i64 sl) ∧ w9.cell? ⟨K, 4, none⟩ = some (.int .u64 pn))
    (first | exact hs0.out | exact hs2.out | exact hs3.out | fail)
    (first
      | (go_at_call 134; with_reducible refine (ref_segment sl 1 (sl / 8) hg1 hg2 _).mono ?_; rintro ee x2 ⟨rfl, hb2⟩; have HK2 := Lib.hid (HKd.out.below hb2); have HP2 := Lib.hid (HPd.out.below hb2); have HF2 := Lib.hid (HFd.out.trans (.of_below hb2 (Nat.le_trans hBK (Nat.le_of_lt HKd.out.lt)))); have hs2 := Lib.hid (park_s HK2.out); clear hb2)
      | (go_at_call 70; with_reducible refine (cas_r6 (sl / 8) 1 (seg_of hsl).2.2 f1w HC.out HP2.out HL.out h0 h1).mono ?_; rintro ee x3 ⟨rfl, P3, f3⟩; have HK3 := Lib.hid (HK2.out.fr f3 (by decide) hKp hKb); have HP3 := Lib.hid P3; have HF3 := Lib.hid (HF2.out.trans (.of_fr f3 hBm)); have hs3 := Lib.hid (park_s HK3.out); clear P3 f3)
      | fail)
  obtain ⟨c0, c1, c2, c3, c4, c5, _⟩ := HK3.out.c6
  go_wp2_with fail
  go_end0
  exact ⟨rfl, HK3.out, HP3.out, HF3.out⟩
set_option maxRecDepth 100000 in
set_option maxHeartbeats 4000000 in
theorem park_12_yes (hBm : B ≤ m) (hBK : B ≤ K) (hKp : K ≠ p) (hKb : K ≠ b) (hP : Pr p m b n D s L r w) (k : Bk K 180 (PkC sl 12 st pw pn pu) w) (hw : U64 pw) (hsl : 0 ≤ sl ∧ sl < 256) {v : Int} (hv : IntKind.u64.wrap (pn + 1) = v) (hc : casA L (ad6 (sl / 8) (seg_of hsl).2.2 1 f1w) pn = true) (hL : L.length ≤ 4999) (h0 : 0 ≤ r.st) (h1 : r.st < 1000000) :
    Calls Tryz.prog 105 #[.pointer (some ⟨K, 0, none⟩), .pointer (some ⟨b, 0, none⟩)] w fun ee w' => ee = .returned (.tuple #[]) ∧ Bk K 180 (PkC sl 0 st pw pn pu) w' ∧ Pr p m b n D s (casL L (ad6 (sl / 8) (seg_of hsl).2.2 1 f1w) pn v) (r.touch 3 (ad6 (sl / 8) (seg_of hsl).2.2 1 f1w) (vals L (ad6 (sl / 8) (seg_of hsl).2.2 1 f1w)) (vals (casL L (ad6 (sl / 8) (seg_of hsl).2.2 1 f1w) pn v) (ad6 (sl / 8) (seg_of hsl).2.2 1 f1w)) true) w' ∧ FxL B p b [K] w w' := by
  have hBw : B ≤ w.heap.size := Nat.le_trans hBm hP.m_le
  have HK0 := Lib.hid k
  have HP0 := Lib.hid hP
  have HF0 := Lib.hid (FxL.of_below (p := p) (b := b) (E := [K]) (Below.refl w.heap.size w) hBw)
  obtain ⟨c0, c1, c2, c3, c4, c5, _⟩ := k.c6
  have HL := Lib.hid hL
  obtain ⟨hg1, hg2, hg3⟩ := seg_of hsl
  have HC := Lib.hid hc
  clear k hP hL hc
  go_enter Tryz.func105, Tryz.ntmps105
  go_wp2_with fail
  ((with_reducible refine (asHeader24_any pw w hw).mono ?_); rintro ee w1 ⟨rfl, rfl⟩)
  have z1 := HK0.out.free 1
  have HK1 := Lib.hid (HK0.out.set 1 (.int .i64 11) (cs' := PkC sl 11 st pw pn pu) rfl)
  have HP1 := Lib.hid (HP0.out.setX HK0.out (by decide) hKp hKb 1 (.int .i64 11))
  have HF1 := Lib.hid (HF0.out.trans (.set (E := [K]) _ hBK (by simp) 1 (.int .i64 11)))
  obtain ⟨e10, e11, e12, e13, e14, e15, _⟩ := HK1.out.c6
  go_wp2_with fail
  revert HK1 HP1 HF1 e10 e11 e12 e13 e14 e15
  generalize w1.setCell ⟨K, 1, none⟩ (.int .i64 11) = y1
  intro HK1 HP1 HF1 e10 e11 e12 e13 e14 e15
  have HKd := Lib.hid (HK1.out.below (Below.refl _ y1).drew)
  have HPd := Lib.hid (HP1.out.below (Below.refl _ y1).drew)
  have HFd := Lib.hid (HF1.out.trans (.of_below (Below.refl _ y1).drew (Nat.le_trans hBK (Nat.le_of_lt HK1.out.lt))))
  have hs0 := Lib.hid (And.intro (HKd.out.cell 0) (HKd.out.cell 4))
  simp only [PkC, List.getElem?_cons_zero, List.getElem?_cons_succ] at hs0
  clear HK0 HP0 HF0 HK1 HP1 HF1 e10 e11 e12 e13 e14 e15 z1
  clear c0 c1 c2 c3 c4 c5
  go_region_held3 (fun w9 => w9.cell? ⟨K, 0, none⟩ = some (.int .i64 sl) ∧ w9.cell? ⟨K, 4, none⟩ = some (.int .u64 pn))
    (first | exact hs0.out | exact hs2.out | exact hs3.out | fail)
    (first
      | (go_at_call 134; with_reducible refine (ref_segment sl 1 (sl / 8) hg1 hg2 _).mono ?_; rintro ee x2 ⟨rfl, hb2⟩; have HK2 := Lib.hid (HKd.out.below hb2); have HP2 := Lib.hid (HPd.out.below hb2); have HF2 := Lib.hid (HFd.out.trans (.of_below hb2 (Nat.le_trans hBK (Nat.le_of_lt HKd.out.lt)))); have hs2 := Lib.hid (park_s HK2.out); clear hb2)
      | (go_at_call 70; with_reducible refine (cas_r6 (sl / 8) 1 (seg_of hsl).2.2 f1w HC.out HP2.out HL.out h0 h1).mono ?_; rintro ee x3 ⟨rfl, P3, f3⟩; have HK3 := Lib.hid (HK2.out.fr f3 (by decide) hKp hKb); have HP3 := Lib.hid P3; have HF3 := Lib.hid (HF2.out.trans (.of_fr f3 hBm)); have hs3 := Lib.hid (park_s HK3.out); clear P3 f3)
      | fail)
  obtain ⟨c0, c1, c2, c3, c4, c5, _⟩ := HK3.out.c6
  have z4 := HK3.out.free 1
  have HK4 := Lib.hid (HK3.out.set 1 (.int .i64 0) (cs' := PkC sl 0 st pw pn pu) rfl)
  have HP4 := Lib.hid (HP3.out.setX HK3.out (by decide) hKp hKb 1 (.int .i64 0))
  have HF4 := Lib.hid (HF3.out.trans (.set (E := [K]) _ hBK (by simp) 1 (.int .i64 0)))
  obtain ⟨e40, e41, e42, e43, e44, e45, _⟩ := HK4.out.c6
  go_wp2_with fail
  go_end0
  exact ⟨rfl, HK4.out, HP4.out, HF4.out⟩
set_option maxRecDepth 100000 in
set_option maxHeartbeats 4000000 in
theorem park_12_no (hBm : B ≤ m) (hBK : B ≤ K) (hKp : K ≠ p) (hKb : K ≠ b) (hP : Pr p m b n D s L r w) (k : Bk K 180 (PkC sl 12 st pw pn pu) w) (hw : U64 pw) (hsl : 0 ≤ sl ∧ sl < 256) {v : Int} (hv : IntKind.u64.wrap (pn + 1) = v) (hc : casA L (ad6 (sl / 8) (seg_of hsl).2.2 1 f1w) pn = false) (hL : L.length ≤ 4999) (h0 : 0 ≤ r.st) (h1 : r.st < 1000000) :
    Calls Tryz.prog 105 #[.pointer (some ⟨K, 0, none⟩), .pointer (some ⟨b, 0, none⟩)] w fun ee w' => ee = .returned (.tuple #[]) ∧ Bk K 180 (PkC sl 11 st pw pn pu) w' ∧ Pr p m b n D s (casL L (ad6 (sl / 8) (seg_of hsl).2.2 1 f1w) pn v) (r.touch 3 (ad6 (sl / 8) (seg_of hsl).2.2 1 f1w) (vals L (ad6 (sl / 8) (seg_of hsl).2.2 1 f1w)) (vals (casL L (ad6 (sl / 8) (seg_of hsl).2.2 1 f1w) pn v) (ad6 (sl / 8) (seg_of hsl).2.2 1 f1w)) false) w' ∧ FxL B p b [K] w w' := by
  have hBw : B ≤ w.heap.size := Nat.le_trans hBm hP.m_le
  have HK0 := Lib.hid k
  have HP0 := Lib.hid hP
  have HF0 := Lib.hid (FxL.of_below (p := p) (b := b) (E := [K]) (Below.refl w.heap.size w) hBw)
  obtain ⟨c0, c1, c2, c3, c4, c5, _⟩ := k.c6
  have HL := Lib.hid hL
  obtain ⟨hg1, hg2, hg3⟩ := seg_of hsl
  have HC := Lib.hid hc
  clear k hP hL hc
  go_enter Tryz.func105, Tryz.ntmps105
  go_wp2_with fail
  ((with_reducible refine (asHeader24_any pw w hw).mono ?_); rintro ee w1 ⟨rfl, rfl⟩)
  have z1 := HK0.out.free 1
  have HK1 := Lib.hid (HK0.out.set 1 (.int .i64 11) (cs' := PkC sl 11 st pw pn pu) rfl)
  have HP1 := Lib.hid (HP0.out.setX HK0.out (by decide) hKp hKb 1 (.int .i64 11))
  have HF1 := Lib.hid (HF0.out.trans (.set (E := [K]) _ hBK (by simp) 1 (.int .i64 11)))
  obtain ⟨e10, e11, e12, e13, e14, e15, _⟩ := HK1.out.c6
  go_wp2_with fail
  revert HK1 HP1 HF1 e10 e11 e12 e13 e14 e15
  generalize w1.setCell ⟨K, 1, none⟩ (.int .i64 11) = y1
  intro HK1 HP1 HF1 e10 e11 e12 e13 e14 e15
  have HKd := Lib.hid (HK1.out.below (Below.refl _ y1).drew)
  have HPd := Lib.hid (HP1.out.below (Below.refl _ y1).drew)
  have HFd := Lib.hid (HF1.out.trans (.of_below (Below.refl _ y1).drew (Nat.le_trans hBK (Nat.le_of_lt HK1.out.lt))))
  have hs0 := Lib.hid (And.intro (HKd.out.cell 0) (HKd.out.cell 4))
  simp only [PkC, List.getElem?_cons_zero, List.getElem?_cons_succ] at hs0
  clear HK0 HP0 HF0 HK1 HP1 HF1 e10 e11 e12 e13 e14 e15 z1
  clear c0 c1 c2 c3 c4 c5
  go_region_held3 (fun w9 => w9.cell? ⟨K, 0, none⟩ = some (.int .i64 sl) ∧ w9.cell? ⟨K, 4, none⟩ = some (.int .u64 pn))
    (first | exact hs0.out | exact hs2.out | exact hs3.out | fail)
    (first
      | (go_at_call 134; with_reducible refine (ref_segment sl 1 (sl / 8) hg1 hg2 _).mono ?_; rintro ee x2 ⟨rfl, hb2⟩; have HK2 := Lib.hid (HKd.out.below hb2); have HP2 := Lib.hid (HPd.out.below hb2); have HF2 := Lib.hid (HFd.out.trans (.of_below hb2 (Nat.le_trans hBK (Nat.le_of_lt HKd.out.lt)))); have hs2 := Lib.hid (park_s HK2.out); clear hb2)
      | (go_at_call 70; with_reducible refine (cas_r6 (sl / 8) 1 (seg_of hsl).2.2 f1w HC.out HP2.out HL.out h0 h1).mono ?_; rintro ee x3 ⟨rfl, P3, f3⟩; have HK3 := Lib.hid (HK2.out.fr f3 (by decide) hKp hKb); have HP3 := Lib.hid P3; have HF3 := Lib.hid (HF2.out.trans (.of_fr f3 hBm)); have hs3 := Lib.hid (park_s HK3.out); clear P3 f3)
      | fail)
  obtain ⟨c0, c1, c2, c3, c4, c5, _⟩ := HK3.out.c6
  go_wp2_with fail
  go_end0
  exact ⟨rfl, HK3.out, HP3.out, HF3.out⟩
set_option maxRecDepth 100000 in
set_option maxHeartbeats 4000000 in
theorem park_9_yes (hBm : B ≤ m) (hBK : B ≤ K) (hKp : K ≠ p) (hKb : K ≠ b) (hP : Pr p m b n D s L r w) (k : Bk K 180 (PkC sl 9 st pw pn pu) w) (hw : U64 pw) (hsl : 0 ≤ sl ∧ sl < 256) (hc : casA L (ad9 sl (i64_slot hsl) 0 f0w) (headerW 3 (fld pw 3 32)) = true) (hL : L.length ≤ 4999) (h0 : 0 ≤ r.st) (h1 : r.st < 1000000) :
    Calls Tryz.prog 105 #[.pointer (some ⟨K, 0, none⟩), .pointer (some ⟨b, 0, none⟩)] w fun ee w' => ee = .returned (.tuple #[]) ∧ (∃ e, Bk K 180 (PkC sl 10 st pw pn (some ⟨e, 0, none⟩)) w' ∧ RefAt e true sl 1 false 0 0 w' ∧ w.heap.size ≤ e) ∧ Pr p m b n D s (casL L (ad9 sl (i64_slot hsl) 0 f0w) (headerW 3 (fld pw 3 32)) (headerW 0 (fld pw 3 32))) (r.touch 3 (ad9 sl (i64_slot hsl) 0 f0w) (vals L (ad9 sl (i64_slot hsl) 0 f0w)) (vals (casL L (ad9 sl (i64_slot hsl) 0 f0w) (headerW 3 (fld pw 3 32)) (headerW 0 (fld pw 3 32))) (ad9 sl (i64_slot hsl) 0 f0w)) true) w' ∧ FxL B p b [K] w w' := by
  have hBw : B ≤ w.heap.size := Nat.le_trans hBm hP.m_le
  have HK0 := Lib.hid k
  have HP0 := Lib.hid hP
  have HF0 := Lib.hid (FxL.of_below (p := p) (b := b) (E := [K]) (Below.refl w.heap.size w) hBw)
  obtain ⟨c0, c1, c2, c3, c4, c5, _⟩ := k.c6
  have HL := Lib.hid hL
  obtain ⟨hg1, hg2, hg3⟩ := seg_of hsl
  have HC := Lib.hid hc
  clear k hP hL hc
  go_enter Tryz.func105, Tryz.ntmps105
  go_wp2_with fail
  ((with_reducible refine (asHeader24_any pw w hw).mono ?_); rintro ee w1 ⟨rfl, rfl⟩)
  have z1 := HK0.out.free 1
  have HK1 := Lib.hid (HK0.out.set 1 (.int .i64 11) (cs' := PkC sl 11 st pw pn pu) rfl)
  have HP1 := Lib.hid (HP0.out.setX HK0.out (by decide) hKp hKb 1 (.int .i64 11))
  have HF1 := Lib.hid (HF0.out.trans (.set (E := [K]) _ hBK (by simp) 1 (.int .i64 11)))
  obtain ⟨e10, e11, e12, e13, e14, e15, _⟩ := HK1.out.c6
  go_wp2_with fail
  ((with_reducible refine (ref_slotted sl 0 _).mono ?_); rintro ee x2 ⟨rfl, hb2⟩)
  have HK2 := Lib.hid (HK1.out.below hb2)
  have HP2 := Lib.hid (HP1.out.below hb2)
  have HF2 := Lib.hid (HF1.out.trans (.of_below hb2 (Nat.le_trans hBK (Nat.le_of_lt HK1.out.lt))))
  clear c0 c1 c2 c3 c4 c5
  clear HK1 HP1 HF1 hb2
  obtain ⟨c0, c1, c2, c3, c4, c5, _⟩ := HK2.out.c6
  go_wp2_with fail
  ((with_reducible refine (header28_any 3 (fld pw 3 32) _ u8_3 (gen_u64 pw)).mono ?_); rintro ee w9 ⟨rfl, rfl⟩)
  go_wp2_with fail
  ((with_reducible refine (header28_any 0 (fld pw 3 32) _ u8_0 (gen_u64 pw)).mono ?_); rintro ee w9 ⟨rfl, rfl⟩)
  go_wp2_with fail
  ((with_reducible refine (cas_r9 sl 0 (i64_slot hsl) f0w (v := (headerW 0 (fld pw 3 32))) HC.out HP2.out HL.out h0 h1).mono ?_); rintro ee x3 ⟨rfl, P3, f3⟩)
  have HK3 := Lib.hid (HK2.out.fr f3 (by decide) hKp hKb)
  have HP3 := Lib.hid P3
  have HF3 := Lib.hid (HF2.out.trans (.of_fr f3 hBm))
  clear c0 c1 c2 c3 c4 c5
  clear HK2 HP2 HF2 P3 f3
  obtain ⟨c0, c1, c2, c3, c4, c5, _⟩ := HK3.out.c6
  have z4 := HK3.out.free 1
  have HK4 := Lib.hid (HK3.out.set 1 (.int .i64 10) (cs' := PkC sl 10 st pw pn pu) rfl)
  have HP4 := Lib.hid (HP3.out.setX HK3.out (by decide) hKp hKb 1 (.int .i64 10))
  have HF4 := Lib.hid (HF3.out.trans (.set (E := [K]) _ hBK (by simp) 1 (.int .i64 10)))
  obtain ⟨e40, e41, e42, e43, e44, e45, _⟩ := HK4.out.c6
  go_wp2_with fail
  ((with_reducible refine (ref_newPush sl hsl.1 hsl.2 _).mono ?_); rintro ee y1 ⟨rfl, RN, hbn, hsn⟩)
  have HK8 := Lib.hid (HK4.out.below hbn)
  have HP8 := Lib.hid (HP4.out.below hbn)
  have HF8 := Lib.hid (HF4.out.trans (.of_below hbn (Nat.le_trans hBK (Nat.le_of_lt HK4.out.lt))))
  have hKe := HK4.out.lt
  have hle := HF4.out.low.size
  clear c0 c1 c2 c3 c4 c5
  obtain ⟨c0, c1, c2, c3, c4, c5, _⟩ := HK8.out.c6
  generalize hen : (x3.setCell ⟨K, 1, none⟩ (.int .i64 10)).heap.size = en at *
  have z5 := HK8.out.free 5
  have HK9 := Lib.hid (HK8.out.set 5 (.pointer (some ⟨en, 0, none⟩)) (cs' := PkC sl 10 st pw pn (some ⟨en, 0, none⟩)) rfl)
  have HP9 := Lib.hid (HP8.out.setX HK8.out (by decide) hKp hKb 5 (.pointer (some ⟨en, 0, none⟩)))
  have HF9 := Lib.hid (HF8.out.trans (.set (E := [K]) _ hBK (by simp) 5 (.pointer (some ⟨en, 0, none⟩))))
  have HN9 := Lib.hid (RN.same (Below.heap_setCell y1 ⟨K, 5, none⟩ (.pointer (some ⟨en, 0, none⟩)) en (show en ≠ K by omega)))
  clear RN hbn hsn hen
  go_wp2_with fail
  go_end0
  exact ⟨rfl, ⟨en, HK9.out, HN9.out, hle⟩, HP9.out, HF9.out⟩
set_option maxRecDepth 100000 in
set_option maxHeartbeats 4000000 in
theorem park_9_no (hBm : B ≤ m) (hBK : B ≤ K) (hKp : K ≠ p) (hKb : K ≠ b) (hP : Pr p m b n D s L r w) (k : Bk K 180 (PkC sl 9 st pw pn pu) w) (hw : U64 pw) (hsl : 0 ≤ sl ∧ sl < 256) (hc : casA L (ad9 sl (i64_slot hsl) 0 f0w) (headerW 3 (fld pw 3 32)) = false) (hL : L.length ≤ 4999) (h0 : 0 ≤ r.st) (h1 : r.st < 1000000) :
    Calls Tryz.prog 105 #[.pointer (some ⟨K, 0, none⟩), .pointer (some ⟨b, 0, none⟩)] w fun ee w' => ee = .returned (.tuple #[]) ∧ Bk K 180 (PkC sl 11 st pw pn pu) w' ∧ Pr p m b n D s (casL L (ad9 sl (i64_slot hsl) 0 f0w) (headerW 3 (fld pw 3 32)) (headerW 0 (fld pw 3 32))) (r.touch 3 (ad9 sl (i64_slot hsl) 0 f0w) (vals L (ad9 sl (i64_slot hsl) 0 f0w)) (vals (casL L (ad9 sl (i64_slot hsl) 0 f0w) (headerW 3 (fld pw 3 32)) (headerW 0 (fld pw 3 32))) (ad9 sl (i64_slot hsl) 0 f0w)) false) w' ∧ FxL B p b [K] w w' := by
  have hBw : B ≤ w.heap.size := Nat.le_trans hBm hP.m_le
  have HK0 := Lib.hid k
  have HP0 := Lib.hid hP
  have HF0 := Lib.hid (FxL.of_below (p := p) (b := b) (E := [K]) (Below.refl w.heap.size w) hBw)
  obtain ⟨c0, c1, c2, c3, c4, c5, _⟩ := k.c6
  have HL := Lib.hid hL
  obtain ⟨hg1, hg2, hg3⟩ := seg_of hsl
  have HC := Lib.hid hc
  clear k hP hL hc
  go_enter Tryz.func105, Tryz.ntmps105
  go_wp2_with fail
  ((with_reducible refine (asHeader24_any pw w hw).mono ?_); rintro ee w1 ⟨rfl, rfl⟩)
  have z1 := HK0.out.free 1
  have HK1 := Lib.hid (HK0.out.set 1 (.int .i64 11) (cs' := PkC sl 11 st pw pn pu) rfl)
  have HP1 := Lib.hid (HP0.out.setX HK0.out (by decide) hKp hKb 1 (.int .i64 11))
  have HF1 := Lib.hid (HF0.out.trans (.set (E := [K]) _ hBK (by simp) 1 (.int .i64 11)))
  obtain ⟨e10, e11, e12, e13, e14, e15, _⟩ := HK1.out.c6
  go_wp2_with fail
  ((with_reducible refine (ref_slotted sl 0 _).mono ?_); rintro ee x2 ⟨rfl, hb2⟩)
  have HK2 := Lib.hid (HK1.out.below hb2)
  have HP2 := Lib.hid (HP1.out.below hb2)
  have HF2 := Lib.hid (HF1.out.trans (.of_below hb2 (Nat.le_trans hBK (Nat.le_of_lt HK1.out.lt))))
  clear c0 c1 c2 c3 c4 c5
  clear HK1 HP1 HF1 hb2
  obtain ⟨c0, c1, c2, c3, c4, c5, _⟩ := HK2.out.c6
  go_wp2_with fail
  ((with_reducible refine (header28_any 3 (fld pw 3 32) _ u8_3 (gen_u64 pw)).mono ?_); rintro ee w9 ⟨rfl, rfl⟩)
  go_wp2_with fail
  ((with_reducible refine (header28_any 0 (fld pw 3 32) _ u8_0 (gen_u64 pw)).mono ?_); rintro ee w9 ⟨rfl, rfl⟩)
  go_wp2_with fail
  ((with_reducible refine (cas_r9 sl 0 (i64_slot hsl) f0w (v := (headerW 0 (fld pw 3 32))) HC.out HP2.out HL.out h0 h1).mono ?_); rintro ee x3 ⟨rfl, P3, f3⟩)
  have HK3 := Lib.hid (HK2.out.fr f3 (by decide) hKp hKb)
  have HP3 := Lib.hid P3
  have HF3 := Lib.hid (HF2.out.trans (.of_fr f3 hBm))
  clear c0 c1 c2 c3 c4 c5
  clear HK2 HP2 HF2 P3 f3
  obtain ⟨c0, c1, c2, c3, c4, c5, _⟩ := HK3.out.c6
  go_wp2_with fail
  go_end0
  exact ⟨rfl, HK3.out, HP3.out, HF3.out⟩
set_option maxRecDepth 100000 in
set_option maxHeartbeats 4000000 in
theorem park_10_end {e : Nat} {psh got : Bool} {sl' ln' h nn : Int} {L' : List (Ad × Int)} {r' : Acc8} (hBK : B ≤ K) (hKp : K ≠ p) (hKb : K ≠ b) (hKe : K ≠ e) (k : Bk K 180 (PkC sl 10 st pw pn (some ⟨e, 0, none⟩)) w) (hw : U64 pw) (hz : ln' = 0) 
    (hstep : Calls Tryz.prog 102 #[.pointer (some ⟨e, 0, none⟩), .pointer (some ⟨b, 0, none⟩)] w fun ee Y => ee = .returned (.tuple #[]) ∧ RefAt e psh sl' ln' got h nn Y ∧ Pr p m b n D s L' r' Y ∧ Fx B p b p e w Y) :
    Calls Tryz.prog 105 #[.pointer (some ⟨K, 0, none⟩), .pointer (some ⟨b, 0, none⟩)] w fun ee w' => ee = .returned (.tuple #[]) ∧ Bk K 180 (PkC sl 0 st pw pn (some ⟨e, 0, none⟩)) w' ∧ RefAt e psh sl' ln' got h nn w' ∧ Pr p m b n D s L' r' w' ∧ FxL B p b [K, e] w w' := by
  have HK0 := Lib.hid k
  have HST := Lib.hid hstep
  obtain ⟨c0, c1, c2, c3, c4, c5, _⟩ := k.c6
  have HZ := Lib.hid hz
  clear k hstep hz
  go_enter Tryz.func105, Tryz.ntmps105
  go_wp2_with fail
  ((with_reducible refine (asHeader24_any pw w hw).mono ?_); rintro ee w1 ⟨rfl, rfl⟩)
  go_wp2_with fail
  (refine (HST.out).mono ?_; rintro ee x1 ⟨rfl, R1, P1, f1⟩)
  have HF1 := Lib.hid (show FxL B p b [K, e] w1 x1 from ⟨f1.low, fun x cs t fr hx ht h1 h2 h3 => f1.far x cs t fr hx ht h1 h2 h1 (fun k => h3 (by simp [k]))⟩)
  have HK1 := Lib.hid (show Bk K 180 (PkC sl 10 st pw pn (some ⟨e, 0, none⟩)) x1 from f1.far K _ _ _ HK0.out (by decide) hKp hKb hKp hKe)
  have HR1 := Lib.hid R1
  have HP1 := Lib.hid P1
  have r2 := R1.cells.2.2.1
  rw [HZ.out] at r2
  clear R1 P1 f1 HST HK0 c0 c1 c2 c3 c4 c5
  obtain ⟨c0, c1, c2, c3, c4, c5, _⟩ := HK1.out.c6
  have z1 := HK1.out.free 1
  have HK2 := Lib.hid (HK1.out.set 1 (.int .i64 0) (cs' := PkC sl 0 st pw pn (some ⟨e, 0, none⟩)) rfl)
  have HP2 := Lib.hid (HP1.out.setX HK1.out (by decide) hKp hKb 1 (.int .i64 0))
  have HF2 := Lib.hid (HF1.out.trans (.set (E := [K, e]) _ hBK (by simp) 1 (.int .i64 0)))
  have HR2 := Lib.hid (HR1.out.same (Below.heap_setCell x1 ⟨K, 1, none⟩ (.int .i64 0) e (Ne.symm hKe)))
  go_wp2_with fail
  go_end0
  exact ⟨rfl, HK2.out, HR2.out, HP2.out, HF2.out⟩
set_option maxRecDepth 100000 in
set_option maxHeartbeats 4000000 in
theorem park_10_on {e : Nat} {psh got : Bool} {sl' ln' h nn : Int} {L' : List (Ad × Int)} {r' : Acc8} (_ : B ≤ K) (hKp : K ≠ p) (hKb : K ≠ b) (hKe : K ≠ e) (k : Bk K 180 (PkC sl 10 st pw pn (some ⟨e, 0, none⟩)) w) (hw : U64 pw) (hz : ln' ≠ 0) 
    (hstep : Calls Tryz.prog 102 #[.pointer (some ⟨e, 0, none⟩), .pointer (some ⟨b, 0, none⟩)] w fun ee Y => ee = .returned (.tuple #[]) ∧ RefAt e psh sl' ln' got h nn Y ∧ Pr p m b n D s L' r' Y ∧ Fx B p b p e w Y) :
    Calls Tryz.prog 105 #[.pointer (some ⟨K, 0, none⟩), .pointer (some ⟨b, 0, none⟩)] w fun ee w' => ee = .returned (.tuple #[]) ∧ Bk K 180 (PkC sl 10 st pw pn (some ⟨e, 0, none⟩)) w' ∧ RefAt e psh sl' ln' got h nn w' ∧ Pr p m b n D s L' r' w' ∧ FxL B p b [K, e] w w' := by
  have HK0 := Lib.hid k
  have HST := Lib.hid hstep
  obtain ⟨c0, c1, c2, c3, c4, c5, _⟩ := k.c6
  have hzb : (ln' == 0) = false := by simpa using hz
  have HZ := Lib.hid hz
  clear k hstep hz
  go_enter Tryz.func105, Tryz.ntmps105
  go_wp2_with fail
  ((with_reducible refine (asHeader24_any pw w hw).mono ?_); rintro ee w1 ⟨rfl, rfl⟩)
  go_wp2_with fail
  (refine (HST.out).mono ?_; rintro ee x1 ⟨rfl, R1, P1, f1⟩)
  have HF1 := Lib.hid (show FxL B p b [K, e] w1 x1 from ⟨f1.low, fun x cs t fr hx ht h1 h2 h3 => f1.far x cs t fr hx ht h1 h2 h1 (fun k => h3 (by simp [k]))⟩)
  have HK1 := Lib.hid (show Bk K 180 (PkC sl 10 st pw pn (some ⟨e, 0, none⟩)) x1 from f1.far K _ _ _ HK0.out (by decide) hKp hKb hKp hKe)
  have HR1 := Lib.hid R1
  have HP1 := Lib.hid P1
  have r2 := R1.cells.2.2.1
  clear R1 P1 f1 HST HK0 c0 c1 c2 c3 c4 c5
  obtain ⟨c0, c1, c2, c3, c4, c5, _⟩ := HK1.out.c6
  go_wp2_with fail
  go_end0
  exact ⟨rfl, HK1.out, HR1.out, HP1.out, HF1.out⟩
set_option maxRecDepth 100000 in
theorem park_0 (k : Bk K 180 (PkC sl 0 st pw pn pu) w) (hw : U64 pw) : Calls Tryz.prog 105 #[.pointer (some ⟨K, 0, none⟩), .pointer (some ⟨b, 0, none⟩)] w fun ee w' => ee = .returned (.tuple #[]) ∧ w = w' := by
  obtain ⟨c0, c1, c2, c3, c4, c5, _⟩ := k.c6
  clear k
  go_enter Tryz.func105, Tryz.ntmps105
  go_wp2_with fail
  ((with_reducible refine (asHeader24_any pw w hw).mono ?_); rintro ee w1 ⟨rfl, rfl⟩)
  go_wp2_with fail
  go_end0
  exact ⟨rfl, rfl⟩
theorem newPark_good (t : Int) (h0 : 0 ≤ t) (h1 : t ≤ 255) (w : World) : Calls Tryz.prog 132 #[.int .i64 t] w fun ee w' => ee = .returned (.pointer (some ⟨w.heap.size, 0, none⟩)) ∧ Bk w.heap.size 180 (PkC t 1 false 0 0 none) w' ∧ Below w.heap.size w w' ∧ w'.heap.size = w.heap.size + 1 := by
  go_enter Tryz.func132, Tryz.ntmps132
  go_wp2
  go_ret
  exact ⟨rfl, Bk.new _ _ _, (Below.refl _ _).alloc (Nat.le_refl _) _, by simp⟩
end
end Go.Proofs.YtmjcbjcnmgleaaaGreatDoor
