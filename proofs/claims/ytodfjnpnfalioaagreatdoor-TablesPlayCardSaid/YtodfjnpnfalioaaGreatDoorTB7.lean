/-
  The document's Join and Leave of layer 10, line by line; condition: both memories say the same, the operation lies as it says, numbers of their kinds.
-/
import Derived.Test.YtodfjnpnfalioaaGreatDoorTB2
import Derived.Deep.RegionHeld3
namespace Go.Proofs.YtodfjnpnfalioaaGreatDoor
open Go.RowKit Go.Maps

/-- The document's operation, as it lies. -/
def RC (lv : Bool) (ln th e ow b i k w : Int) : List Value := [.bool lv, .int .i64 ln, .int .i64 th, .int .i64 e, .int .u64 ow, .int .i64 b, .int .i64 i, .int .i64 k, .int .u64 w]
def TO.cells (o : TO) : List Value := RC o.lv o.ln o.th o.e o.ow o.b o.i o.k o.w
theorem wrapi {x : Int} (h0 : 0 ≤ x) (h1 : x < 1000) : IntKind.i64.wrap x = x := by simp [IntKind.wrap, IntKind.bits, IntKind.signed]; omega
theorem wrapu {x : Int} (h0 : 0 ≤ x) (h1 : x < 4294967296) : IntKind.u32.wrap x = x := by simp [IntKind.wrap, IntKind.bits, IntKind.signed]; omega
theorem adN_is : adN.k = 5 ∧ adN.a = 0 ∧ adN.f = 0 := ⟨rfl, rfl, rfl⟩
section
variable {B p m b n K bb c : Nat} {lv : Bool} {ln th e ow b0 i k wd v : Int} {D : DataW Unit} {s r r' : Acc8} {L L' : List (Ad × Int)} {M : MV} {E : List Nat} {w w' w0 w1 : World} {cs cs' : List Value}
theorem Bk.c9 (h : Bk K 72 (RC lv ln th e ow b0 i k wd) w) : w.cell? ⟨K, 0, none⟩ = some (.bool lv) ∧ w.cell? ⟨K, 1, none⟩ = some (.int .i64 ln) ∧ w.cell? ⟨K, 2, none⟩ = some (.int .i64 th) ∧ w.cell? ⟨K, 3, none⟩ = some (.int .i64 e) ∧ w.cell? ⟨K, 4, none⟩ = some (.int .u64 ow) ∧ w.cell? ⟨K, 5, none⟩ = some (.int .i64 b0) ∧ w.cell? ⟨K, 6, none⟩ = some (.int .i64 i) ∧ w.cell? ⟨K, 7, none⟩ = some (.int .i64 k) ∧ w.cell? ⟨K, 8, none⟩ = some (.int .u64 wd) ∧ ∀ j, w.frozen? ⟨K, j, none⟩ = false := ⟨h.cell 0, h.cell 1, h.cell 2, h.cell 3, h.cell 4, h.cell 5, h.cell 6, h.cell 7, h.cell 8, h.free⟩
theorem Bk.neP (h : Bk K 72 cs w) (P : Pr p m b n D s L r w) : K ≠ p ∧ K ≠ b := by
  obtain ⟨v, hr⟩ := P.ref
  constructor
  · rintro rfl
    have := P.prog.blk.symm.trans h
    simp only [Option.some.injEq, Obj.cells.injEq] at this
    exact absurd this.2.1 (by decide)
  · rintro rfl
    have := hr.blk.symm.trans h
    simp only [Option.some.injEq, Obj.cells.injEq] at this
    exact absurd this.2.1 (by decide)
theorem refOf (t f : Int) (w : World) : Calls Tryz.prog 45 #[.int .i64 t, .int .i64 f] w fun e w' => e = .returned (.agg #[.int .u8 8, .int .i64 t, .int .i64 f]) ∧ Below w.heap.size w w' := by
  go_enter Tryz.func45, Tryz.ntmps45
  go_wp2
  exact bodyPost_ret (v := .agg #[.int .u8 8, .int .i64 t, .int .i64 f]) (by simp [results, Tryz.results45, go_sem]) rfl ⟨rfl, (Below.refl _ _).alloc (Nat.le_refl _) _⟩
theorem refBlock (h : Bk K 72 (RC lv ln th e ow b0 i k wd) w) : Calls Tryz.prog 41 #[.pointer (some ⟨K, 0, none⟩)] w fun e w' => e = .returned (.agg #[.int .u8 7, .int .i64 i, .int .i64 0]) ∧ Below w.heap.size w w' := by
  have cA : (w.alloc (.cells #[.int .u8 0, .int .i64 0, .int .i64 0] 33)).cell? ⟨K, 6, none⟩ = some (.int .i64 i) := (h.below ((Below.refl _ _).alloc (Nat.le_refl _) _)).c9.2.2.2.2.2.2.1
  clear h
  go_enter Tryz.func41, Tryz.ntmps41
  go_wp2
  exact bodyPost_ret (v := .agg #[.int .u8 7, .int .i64 i, .int .i64 0]) (by simp [results, Tryz.results41, go_sem]) rfl ⟨rfl, (Below.refl _ _).alloc (Nat.le_refl _) _⟩
theorem refLess (h : Bk K 72 (RC lv ln th e ow b0 i k wd) w) (hw : U64 wd) : Calls Tryz.prog 46 #[.pointer (some ⟨K, 0, none⟩)] w fun e w' => e = .returned (.int .u64 (fewW wd)) ∧ w' = w := by
  have c8 := h.c9.2.2.2.2.2.2.2.2.1
  have hn := blkN_in wd
  have HB := Lib.hid (asBlock26_any wd w hw)
  unfold fewW
  have e1 : fld wd 0 32 = blkN wd := rfl
  rw [e1] at HB
  have HC := Lib.hid (show blkC wd = (fld wd 32 1 != 0) from rfl)
  rw [HC.out]
  clear h e1 HC
  generalize blkN wd = nn at *
  obtain ⟨hn0, hn1⟩ := hn
  by_cases h0 : nn = 0
  · subst h0
    rw [if_pos rfl]
    have hj := show U32 0 from ⟨by decide, by decide⟩
    go_enter Tryz.func46, Tryz.ntmps46
    go_wp2_with fail
    ((with_reducible refine HB.out.mono ?_); rintro ee w ⟨rfl, rfl⟩)
    go_wp2_with fail
    ((with_reducible refine (block30_any 0 _ _ hj).mono ?_); rintro ee w ⟨rfl, rfl⟩)
    go_wp2_with fail
    go_ret
    exact ⟨rfl, rfl⟩
  · rw [if_neg h0]
    have hj := show U32 (nn - 1) from ⟨by omega, by omega⟩
    have hp : 0 < nn := by omega
    have hwr := wrapu (x := nn - 1) (by omega) (by omega)
    clear h0
    go_enter Tryz.func46, Tryz.ntmps46
    go_wp2_with fail
    ((with_reducible refine HB.out.mono ?_); rintro ee w ⟨rfl, rfl⟩)
    go_wp2_with fail
    ((with_reducible refine (block30_any (nn - 1) _ _ hj).mono ?_); rintro ee w ⟨rfl, rfl⟩)
    go_wp2_with fail
    go_ret
    exact ⟨rfl, rfl⟩
set_option maxRecDepth 100000 in
set_option maxHeartbeats 4000000 in
theorem r1_zero (hBm : B ≤ m) (hc : c ≤ 900) (S : Say p m b n D L c M w) (h : Bk K 72 (RC false 1 th e ow b0 i k wd) w) (hBK : B ≤ K) (hv : M.V adN = 0) :
    Calls Tryz.prog 22 #[.pointer (some ⟨K, 0, none⟩), .pointer (some ⟨b, 0, none⟩)] w (OdS B p m b n c D M.s K [K] (RC false 0 th 5 ow 0 i k wd) (ldM M adN) w) := by
  have HA := Lib.hid (S.aftLd adN)
  have _ := And.intro hc hBK
  have hn := h.neP S.pr
  have hBw : B ≤ w.heap.size := Nat.le_trans hBm S.pr.m_le
  have HS := Lib.hid S
  have HO1 := Lib.hid (OD.start (E := [K]) h S.pr hBw)
  obtain ⟨c0, c1, c2, c3, c4, c5, c6, c7, c8, _⟩ := h.c9
  have HV := Lib.hid hv
  clear hv
  clear h S
  go_enter Tryz.func22, Tryz.ntmps22
  have z1_1 := HO1.out.k.free 1
  have HO2 := Lib.hid (HO1.out.set hBK (by simp) hn 1 (.int .i64 2) (cs' := RC false 2 th e ow b0 i k wd) rfl)
  go_wp2_with fail
  ((with_reducible refine (HS.out.ldD hc adN_is HV.out HO2.out.pr).mono ?_); rintro ee w4 ⟨rfl, P4, f4⟩)
  have HO3 := Lib.hid (HO2.out.fr hBm hn P4 f4)
  clear P4 f4
  try clear c0
  try clear c1
  try clear c2
  try clear c3
  try clear c4
  try clear c5
  try clear c6
  try clear c7
  try clear c8
  obtain ⟨c0, c1, c2, c3, c4, c5, c6, c7, c8, _⟩ := HO3.out.k.c9
  have z3_5 := HO3.out.k.free 5
  have HO4 := Lib.hid (HO3.out.set hBK (by simp) hn 5 (.int .i64 0) (cs' := RC false 2 th e ow 0 i k wd) rfl)
  have z4_1 := HO4.out.k.free 1
  have HO5 := Lib.hid (HO4.out.set hBK (by simp) hn 1 (.int .i64 0) (cs' := RC false 0 th e ow 0 i k wd) rfl)
  have z5_3 := HO5.out.k.free 3
  have HO6 := Lib.hid (HO5.out.set hBK (by simp) hn 3 (.int .i64 5) (cs' := RC false 0 th 5 ow 0 i k wd) rfl)
  go_wp2_with fail
  ((try simp only [Exit.inBlock, Exit.then]); first | go_end0 | refine bodyPost_ret (results_none rfl _ _ _) rfl ?_)
  exact ⟨rfl, _, HA.out, HO6.out⟩
set_option maxRecDepth 100000 in
set_option maxHeartbeats 4000000 in
theorem r1_few (hBm : B ≤ m) (hc : c ≤ 900) (S : Say p m b n D L c M w) (h : Bk K 72 (RC false 1 th e ow b0 i k wd) w) (hBK : B ≤ K) (hv : M.V adN = v) (h0 : 0 < v) (h1 : v ≤ 4) :
    Calls Tryz.prog 22 #[.pointer (some ⟨K, 0, none⟩), .pointer (some ⟨b, 0, none⟩)] w (OdS B p m b n c D M.s K [K] (RC false 2 th e ow v i k wd) (ldM M adN) w) := by
  have HA := Lib.hid (S.aftLd adN)
  have _ := And.intro hc hBK
  have hn := h.neP S.pr
  have hBw : B ≤ w.heap.size := Nat.le_trans hBm S.pr.m_le
  have HS := Lib.hid S
  have HO1 := Lib.hid (OD.start (E := [K]) h S.pr hBw)
  obtain ⟨c0, c1, c2, c3, c4, c5, c6, c7, c8, _⟩ := h.c9
  have HV := Lib.hid hv
  clear hv
  have hwv := wrapi (x := v) (by omega) (by omega)
  have hne : (v == 0) = false := beq_eq_false_iff_ne.2 (by omega)
  clear h S
  go_enter Tryz.func22, Tryz.ntmps22
  have z1_1 := HO1.out.k.free 1
  have HO2 := Lib.hid (HO1.out.set hBK (by simp) hn 1 (.int .i64 2) (cs' := RC false 2 th e ow b0 i k wd) rfl)
  go_wp2_with fail
  ((with_reducible refine (HS.out.ldD hc adN_is HV.out HO2.out.pr).mono ?_); rintro ee w4 ⟨rfl, P4, f4⟩)
  have HO3 := Lib.hid (HO2.out.fr hBm hn P4 f4)
  clear P4 f4
  try clear c0
  try clear c1
  try clear c2
  try clear c3
  try clear c4
  try clear c5
  try clear c6
  try clear c7
  try clear c8
  obtain ⟨c0, c1, c2, c3, c4, c5, c6, c7, c8, _⟩ := HO3.out.k.c9
  have z3_5 := HO3.out.k.free 5
  have HO4 := Lib.hid (HO3.out.set hBK (by simp) hn 5 (.int .i64 v) (cs' := RC false 2 th e ow v i k wd) rfl)
  go_wp2_with fail
  ((try simp only [Exit.inBlock, Exit.then]); first | go_end0 | refine bodyPost_ret (results_none rfl _ _ _) rfl ?_)
  exact ⟨rfl, _, HA.out, HO4.out⟩
set_option maxRecDepth 100000 in
set_option maxHeartbeats 4000000 in
theorem r1_many (hBm : B ≤ m) (hc : c ≤ 900) (S : Say p m b n D L c M w) (h : Bk K 72 (RC false 1 th e ow b0 i k wd) w) (hBK : B ≤ K) (hv : M.V adN = v) (h1 : 4 < v) :
    Calls Tryz.prog 22 #[.pointer (some ⟨K, 0, none⟩), .pointer (some ⟨b, 0, none⟩)] w (OdS B p m b n c D M.s K [K] (RC false 2 th e ow 4 i k wd) (ldM M adN) w) := by
  have HA := Lib.hid (S.aftLd adN)
  have _ := And.intro hc hBK
  have hn := h.neP S.pr
  have hBw : B ≤ w.heap.size := Nat.le_trans hBm S.pr.m_le
  have HS := Lib.hid S
  have HO1 := Lib.hid (OD.start (E := [K]) h S.pr hBw)
  obtain ⟨c0, c1, c2, c3, c4, c5, c6, c7, c8, _⟩ := h.c9
  have HV := Lib.hid hv
  clear hv
  clear h S
  go_enter Tryz.func22, Tryz.ntmps22
  have z1_1 := HO1.out.k.free 1
  have HO2 := Lib.hid (HO1.out.set hBK (by simp) hn 1 (.int .i64 2) (cs' := RC false 2 th e ow b0 i k wd) rfl)
  go_wp2_with fail
  ((with_reducible refine (HS.out.ldD hc adN_is HV.out HO2.out.pr).mono ?_); rintro ee w4 ⟨rfl, P4, f4⟩)
  have HO3 := Lib.hid (HO2.out.fr hBm hn P4 f4)
  clear P4 f4
  try clear c0
  try clear c1
  try clear c2
  try clear c3
  try clear c4
  try clear c5
  try clear c6
  try clear c7
  try clear c8
  obtain ⟨c0, c1, c2, c3, c4, c5, c6, c7, c8, _⟩ := HO3.out.k.c9
  have z3_5 := HO3.out.k.free 5
  have HO4 := Lib.hid (HO3.out.set hBK (by simp) hn 5 (.int .i64 4) (cs' := RC false 2 th e ow 4 i k wd) rfl)
  go_wp2_with fail
  ((try simp only [Exit.inBlock, Exit.then]); first | go_end0 | refine bodyPost_ret (results_none rfl _ _ _) rfl ?_)
  exact ⟨rfl, _, HA.out, HO4.out⟩
set_option maxRecDepth 100000 in
set_option maxHeartbeats 4000000 in
theorem r2_more (hBm : B ≤ m) (hc : c ≤ 900) (S : Say p m b n D L c M w) (h : Bk K 72 (RC false 2 th e ow b0 i k wd) w) (hBK : B ≤ K) (hi : 0 ≤ i ∧ i < 4) (hv : M.V (adK i) = v) (hc2 : blkC v = false) (hn2 : blkN v < 4) :
    Calls Tryz.prog 22 #[.pointer (some ⟨K, 0, none⟩), .pointer (some ⟨b, 0, none⟩)] w (OdS B p m b n c D M.s K [K] (RC false 3 th e ow b0 i k v) (ldM M (adK i)) w) := by
  have HA := Lib.hid (S.aftLd (adK i))
  have _ := And.intro hc hBK
  have hn := h.neP S.pr
  have hBw : B ≤ w.heap.size := Nat.le_trans hBm S.pr.m_le
  have HS := Lib.hid S
  have HO1 := Lib.hid (OD.start (E := [K]) h S.pr hBw)
  obtain ⟨c0, c1, c2, c3, c4, c5, c6, c7, c8, _⟩ := h.c9
  have hu := S.u64 (adK i)
  rw [hv] at hu
  have hx : fld v 0 32 = blkN v := rfl
  have hy : (fld v 32 1 != 0) = blkC v := rfl
  have hbk := fun (w : World) => asBlock26_any v w hu
  rw [hx, hy] at hbk
  rw [hc2] at hbk
  have HB := Lib.hid hbk
  have HV := Lib.hid hv
  clear hbk hx hy hv hu
  clear h S
  go_enter Tryz.func22, Tryz.ntmps22
  go_wp2_with fail
  ((with_reducible refine (refBlock HO1.out.k).mono ?_); rintro ee w3 ⟨rfl, hb3⟩)
  have HO2 := Lib.hid (HO1.out.below hBK hb3)
  clear hb3
  try clear c0
  try clear c1
  try clear c2
  try clear c3
  try clear c4
  try clear c5
  try clear c6
  try clear c7
  try clear c8
  obtain ⟨c0, c1, c2, c3, c4, c5, c6, c7, c8, _⟩ := HO2.out.k.c9
  go_wp2_with fail
  ((with_reducible refine (HS.out.ldD hc (adK_at hi) HV.out HO2.out.pr).mono ?_); rintro ee w4 ⟨rfl, P4, f4⟩)
  have HO3 := Lib.hid (HO2.out.fr hBm hn P4 f4)
  clear P4 f4
  try clear c0
  try clear c1
  try clear c2
  try clear c3
  try clear c4
  try clear c5
  try clear c6
  try clear c7
  try clear c8
  obtain ⟨c0, c1, c2, c3, c4, c5, c6, c7, c8, _⟩ := HO3.out.k.c9
  have z3_8 := HO3.out.k.free 8
  have HO4 := Lib.hid (HO3.out.set hBK (by simp) hn 8 (.int .u64 v) (cs' := RC false 2 th e ow b0 i k v) rfl)
  go_wp2_with fail
  ((with_reducible refine (HB.out _).mono ?_); rintro ee w5 ⟨rfl, hw5⟩)
  subst hw5
  have z4_1 := HO4.out.k.free 1
  have HO5 := Lib.hid (HO4.out.set hBK (by simp) hn 1 (.int .i64 3) (cs' := RC false 3 th e ow b0 i k v) rfl)
  go_wp2_with fail
  ((try simp only [Exit.inBlock, Exit.then]); first | go_end0 | refine bodyPost_ret (results_none rfl _ _ _) rfl ?_)
  exact ⟨rfl, _, HA.out, HO5.out⟩
set_option maxRecDepth 100000 in
set_option maxHeartbeats 4000000 in
theorem r2_on_shut (hBm : B ≤ m) (hc : c ≤ 900) (S : Say p m b n D L c M w) (h : Bk K 72 (RC false 2 th e ow b0 i k wd) w) (hBK : B ≤ K) (hi : 0 ≤ i ∧ i < 4) (hv : M.V (adK i) = v) (hc2 : blkC v = true) (hbs : ¬ i + 1 = b0) :
    Calls Tryz.prog 22 #[.pointer (some ⟨K, 0, none⟩), .pointer (some ⟨b, 0, none⟩)] w (OdS B p m b n c D M.s K [K] (RC false 2 th e ow b0 (i + 1) k v) (ldM M (adK i)) w) := by
  have HA := Lib.hid (S.aftLd (adK i))
  have _ := And.intro hc hBK
  have hn := h.neP S.pr
  have hBw : B ≤ w.heap.size := Nat.le_trans hBm S.pr.m_le
  have HS := Lib.hid S
  have HO1 := Lib.hid (OD.start (E := [K]) h S.pr hBw)
  obtain ⟨c0, c1, c2, c3, c4, c5, c6, c7, c8, _⟩ := h.c9
  have hu := S.u64 (adK i)
  rw [hv] at hu
  have hx : fld v 0 32 = blkN v := rfl
  have hy : (fld v 32 1 != 0) = blkC v := rfl
  have hbk := fun (w : World) => asBlock26_any v w hu
  rw [hx, hy] at hbk
  rw [hc2] at hbk
  have HB := Lib.hid hbk
  have HV := Lib.hid hv
  clear hbk hx hy hv hu
  have hwi := wrapi (x := i + 1) (by omega) (by omega)
  have hbb : (i + 1 == b0) = false := beq_eq_false_iff_ne.2 hbs
  clear hbs
  clear h S
  go_enter Tryz.func22, Tryz.ntmps22
  go_wp2_with fail
  ((with_reducible refine (refBlock HO1.out.k).mono ?_); rintro ee w3 ⟨rfl, hb3⟩)
  have HO2 := Lib.hid (HO1.out.below hBK hb3)
  clear hb3
  try clear c0
  try clear c1
  try clear c2
  try clear c3
  try clear c4
  try clear c5
  try clear c6
  try clear c7
  try clear c8
  obtain ⟨c0, c1, c2, c3, c4, c5, c6, c7, c8, _⟩ := HO2.out.k.c9
  go_wp2_with fail
  ((with_reducible refine (HS.out.ldD hc (adK_at hi) HV.out HO2.out.pr).mono ?_); rintro ee w4 ⟨rfl, P4, f4⟩)
  have HO3 := Lib.hid (HO2.out.fr hBm hn P4 f4)
  clear P4 f4
  try clear c0
  try clear c1
  try clear c2
  try clear c3
  try clear c4
  try clear c5
  try clear c6
  try clear c7
  try clear c8
  obtain ⟨c0, c1, c2, c3, c4, c5, c6, c7, c8, _⟩ := HO3.out.k.c9
  have z3_8 := HO3.out.k.free 8
  have HO4 := Lib.hid (HO3.out.set hBK (by simp) hn 8 (.int .u64 v) (cs' := RC false 2 th e ow b0 i k v) rfl)
  go_wp2_with fail
  ((with_reducible refine (HB.out _).mono ?_); rintro ee w5 ⟨rfl, hw5⟩)
  subst hw5
  have z4_6 := HO4.out.k.free 6
  have HO5 := Lib.hid (HO4.out.set hBK (by simp) hn 6 (.int .i64 (i + 1)) (cs' := RC false 2 th e ow b0 (i + 1) k v) rfl)
  go_wp2_with fail
  go_quiet (fail)
  have HO6 := Lib.hid (HO5.out.below hBK (below_drewN' (Below.refl _ _) nq))
  go_wp2_with fail
  ((try simp only [Exit.inBlock, Exit.then]); first | go_end0 | refine bodyPost_ret (results_none rfl _ _ _) rfl ?_)
  exact ⟨rfl, _, HA.out, HO6.out⟩
set_option maxRecDepth 100000 in
set_option maxHeartbeats 4000000 in
theorem r2_on_full (hBm : B ≤ m) (hc : c ≤ 900) (S : Say p m b n D L c M w) (h : Bk K 72 (RC false 2 th e ow b0 i k wd) w) (hBK : B ≤ K) (hi : 0 ≤ i ∧ i < 4) (hv : M.V (adK i) = v) (hc2 : blkC v = false) (hn2 : ¬ blkN v < 4) (hbs : ¬ i + 1 = b0) :
    Calls Tryz.prog 22 #[.pointer (some ⟨K, 0, none⟩), .pointer (some ⟨b, 0, none⟩)] w (OdS B p m b n c D M.s K [K] (RC false 2 th e ow b0 (i + 1) k v) (ldM M (adK i)) w) := by
  have HA := Lib.hid (S.aftLd (adK i))
  have _ := And.intro hc hBK
  have hn := h.neP S.pr
  have hBw : B ≤ w.heap.size := Nat.le_trans hBm S.pr.m_le
  have HS := Lib.hid S
  have HO1 := Lib.hid (OD.start (E := [K]) h S.pr hBw)
  obtain ⟨c0, c1, c2, c3, c4, c5, c6, c7, c8, _⟩ := h.c9
  have hu := S.u64 (adK i)
  rw [hv] at hu
  have hx : fld v 0 32 = blkN v := rfl
  have hy : (fld v 32 1 != 0) = blkC v := rfl
  have hbk := fun (w : World) => asBlock26_any v w hu
  rw [hx, hy] at hbk
  rw [hc2] at hbk
  have HB := Lib.hid hbk
  have HV := Lib.hid hv
  clear hbk hx hy hv hu
  have hwi := wrapi (x := i + 1) (by omega) (by omega)
  have hbb : (i + 1 == b0) = false := beq_eq_false_iff_ne.2 hbs
  clear hbs
  clear h S
  go_enter Tryz.func22, Tryz.ntmps22
  go_wp2_with fail
  ((with_reducible refine (refBlock HO1.out.k).mono ?_); rintro ee w3 ⟨rfl, hb3⟩)
  have HO2 := Lib.hid (HO1.out.below hBK hb3)
  clear hb3
  try clear c0
  try clear c1
  try clear c2
  try clear c3
  try clear c4
  try clear c5
  try clear c6
  try clear c7
  try clear c8
  obtain ⟨c0, c1, c2, c3, c4, c5, c6, c7, c8, _⟩ := HO2.out.k.c9
  go_wp2_with fail
  ((with_reducible refine (HS.out.ldD hc (adK_at hi) HV.out HO2.out.pr).mono ?_); rintro ee w4 ⟨rfl, P4, f4⟩)
  have HO3 := Lib.hid (HO2.out.fr hBm hn P4 f4)
  clear P4 f4
  try clear c0
  try clear c1
  try clear c2
  try clear c3
  try clear c4
  try clear c5
  try clear c6
  try clear c7
  try clear c8
  obtain ⟨c0, c1, c2, c3, c4, c5, c6, c7, c8, _⟩ := HO3.out.k.c9
  have z3_8 := HO3.out.k.free 8
  have HO4 := Lib.hid (HO3.out.set hBK (by simp) hn 8 (.int .u64 v) (cs' := RC false 2 th e ow b0 i k v) rfl)
  go_wp2_with fail
  ((with_reducible refine (HB.out _).mono ?_); rintro ee w5 ⟨rfl, hw5⟩)
  subst hw5
  have z4_6 := HO4.out.k.free 6
  have HO5 := Lib.hid (HO4.out.set hBK (by simp) hn 6 (.int .i64 (i + 1)) (cs' := RC false 2 th e ow b0 (i + 1) k v) rfl)
  go_wp2_with fail
  go_quiet (fail)
  have HO6 := Lib.hid (HO5.out.below hBK (below_drewN' (Below.refl _ _) nq))
  go_wp2_with fail
  ((try simp only [Exit.inBlock, Exit.then]); first | go_end0 | refine bodyPost_ret (results_none rfl _ _ _) rfl ?_)
  exact ⟨rfl, _, HA.out, HO6.out⟩
set_option maxRecDepth 100000 in
set_option maxHeartbeats 4000000 in
theorem r2_last_shut (hBm : B ≤ m) (hc : c ≤ 900) (S : Say p m b n D L c M w) (h : Bk K 72 (RC false 2 th e ow b0 i k wd) w) (hBK : B ≤ K) (hi : 0 ≤ i ∧ i < 4) (hv : M.V (adK i) = v) (hc2 : blkC v = true) (hbs : i + 1 = b0) :
    Calls Tryz.prog 22 #[.pointer (some ⟨K, 0, none⟩), .pointer (some ⟨b, 0, none⟩)] w (OdS B p m b n c D M.s K [K] (RC false 0 th 5 ow b0 (i + 1) k v) (ldM M (adK i)) w) := by
  have HA := Lib.hid (S.aftLd (adK i))
  have _ := And.intro hc hBK
  have hn := h.neP S.pr
  have hBw : B ≤ w.heap.size := Nat.le_trans hBm S.pr.m_le
  have HS := Lib.hid S
  have HO1 := Lib.hid (OD.start (E := [K]) h S.pr hBw)
  obtain ⟨c0, c1, c2, c3, c4, c5, c6, c7, c8, _⟩ := h.c9
  have hu := S.u64 (adK i)
  rw [hv] at hu
  have hx : fld v 0 32 = blkN v := rfl
  have hy : (fld v 32 1 != 0) = blkC v := rfl
  have hbk := fun (w : World) => asBlock26_any v w hu
  rw [hx, hy] at hbk
  rw [hc2] at hbk
  have HB := Lib.hid hbk
  have HV := Lib.hid hv
  clear hbk hx hy hv hu
  have hwi := wrapi (x := i + 1) (by omega) (by omega)
  have hbb : (i + 1 == b0) = true := beq_iff_eq.2 hbs
  clear hbs
  clear h S
  go_enter Tryz.func22, Tryz.ntmps22
  go_wp2_with fail
  ((with_reducible refine (refBlock HO1.out.k).mono ?_); rintro ee w3 ⟨rfl, hb3⟩)
  have HO2 := Lib.hid (HO1.out.below hBK hb3)
  clear hb3
  try clear c0
  try clear c1
  try clear c2
  try clear c3
  try clear c4
  try clear c5
  try clear c6
  try clear c7
  try clear c8
  obtain ⟨c0, c1, c2, c3, c4, c5, c6, c7, c8, _⟩ := HO2.out.k.c9
  go_wp2_with fail
  ((with_reducible refine (HS.out.ldD hc (adK_at hi) HV.out HO2.out.pr).mono ?_); rintro ee w4 ⟨rfl, P4, f4⟩)
  have HO3 := Lib.hid (HO2.out.fr hBm hn P4 f4)
  clear P4 f4
  try clear c0
  try clear c1
  try clear c2
  try clear c3
  try clear c4
  try clear c5
  try clear c6
  try clear c7
  try clear c8
  obtain ⟨c0, c1, c2, c3, c4, c5, c6, c7, c8, _⟩ := HO3.out.k.c9
  have z3_8 := HO3.out.k.free 8
  have HO4 := Lib.hid (HO3.out.set hBK (by simp) hn 8 (.int .u64 v) (cs' := RC false 2 th e ow b0 i k v) rfl)
  go_wp2_with fail
  ((with_reducible refine (HB.out _).mono ?_); rintro ee w5 ⟨rfl, hw5⟩)
  subst hw5
  have z4_6 := HO4.out.k.free 6
  have HO5 := Lib.hid (HO4.out.set hBK (by simp) hn 6 (.int .i64 (i + 1)) (cs' := RC false 2 th e ow b0 (i + 1) k v) rfl)
  go_wp2_with fail
  go_quiet (fail)
  have HO6 := Lib.hid (HO5.out.below hBK (below_drewN' (Below.refl _ _) nq))
  have z6_1 := HO6.out.k.free 1
  have HO7 := Lib.hid (HO6.out.set hBK (by simp) hn 1 (.int .i64 0) (cs' := RC false 0 th e ow b0 (i + 1) k v) rfl)
  have z7_3 := HO7.out.k.free 3
  have HO8 := Lib.hid (HO7.out.set hBK (by simp) hn 3 (.int .i64 5) (cs' := RC false 0 th 5 ow b0 (i + 1) k v) rfl)
  go_wp2_with fail
  ((try simp only [Exit.inBlock, Exit.then]); first | go_end0 | refine bodyPost_ret (results_none rfl _ _ _) rfl ?_)
  exact ⟨rfl, _, HA.out, HO8.out⟩
set_option maxRecDepth 100000 in
set_option maxHeartbeats 4000000 in
theorem r2_last_full (hBm : B ≤ m) (hc : c ≤ 900) (S : Say p m b n D L c M w) (h : Bk K 72 (RC false 2 th e ow b0 i k wd) w) (hBK : B ≤ K) (hi : 0 ≤ i ∧ i < 4) (hv : M.V (adK i) = v) (hc2 : blkC v = false) (hn2 : ¬ blkN v < 4) (hbs : i + 1 = b0) :
    Calls Tryz.prog 22 #[.pointer (some ⟨K, 0, none⟩), .pointer (some ⟨b, 0, none⟩)] w (OdS B p m b n c D M.s K [K] (RC false 0 th 5 ow b0 (i + 1) k v) (ldM M (adK i)) w) := by
  have HA := Lib.hid (S.aftLd (adK i))
  have _ := And.intro hc hBK
  have hn := h.neP S.pr
  have hBw : B ≤ w.heap.size := Nat.le_trans hBm S.pr.m_le
  have HS := Lib.hid S
  have HO1 := Lib.hid (OD.start (E := [K]) h S.pr hBw)
  obtain ⟨c0, c1, c2, c3, c4, c5, c6, c7, c8, _⟩ := h.c9
  have hu := S.u64 (adK i)
  rw [hv] at hu
  have hx : fld v 0 32 = blkN v := rfl
  have hy : (fld v 32 1 != 0) = blkC v := rfl
  have hbk := fun (w : World) => asBlock26_any v w hu
  rw [hx, hy] at hbk
  rw [hc2] at hbk
  have HB := Lib.hid hbk
  have HV := Lib.hid hv
  clear hbk hx hy hv hu
  have hwi := wrapi (x := i + 1) (by omega) (by omega)
  have hbb : (i + 1 == b0) = true := beq_iff_eq.2 hbs
  clear hbs
  clear h S
  go_enter Tryz.func22, Tryz.ntmps22
  go_wp2_with fail
  ((with_reducible refine (refBlock HO1.out.k).mono ?_); rintro ee w3 ⟨rfl, hb3⟩)
  have HO2 := Lib.hid (HO1.out.below hBK hb3)
  clear hb3
  try clear c0
  try clear c1
  try clear c2
  try clear c3
  try clear c4
  try clear c5
  try clear c6
  try clear c7
  try clear c8
  obtain ⟨c0, c1, c2, c3, c4, c5, c6, c7, c8, _⟩ := HO2.out.k.c9
  go_wp2_with fail
  ((with_reducible refine (HS.out.ldD hc (adK_at hi) HV.out HO2.out.pr).mono ?_); rintro ee w4 ⟨rfl, P4, f4⟩)
  have HO3 := Lib.hid (HO2.out.fr hBm hn P4 f4)
  clear P4 f4
  try clear c0
  try clear c1
  try clear c2
  try clear c3
  try clear c4
  try clear c5
  try clear c6
  try clear c7
  try clear c8
  obtain ⟨c0, c1, c2, c3, c4, c5, c6, c7, c8, _⟩ := HO3.out.k.c9
  have z3_8 := HO3.out.k.free 8
  have HO4 := Lib.hid (HO3.out.set hBK (by simp) hn 8 (.int .u64 v) (cs' := RC false 2 th e ow b0 i k v) rfl)
  go_wp2_with fail
  ((with_reducible refine (HB.out _).mono ?_); rintro ee w5 ⟨rfl, hw5⟩)
  subst hw5
  have z4_6 := HO4.out.k.free 6
  have HO5 := Lib.hid (HO4.out.set hBK (by simp) hn 6 (.int .i64 (i + 1)) (cs' := RC false 2 th e ow b0 (i + 1) k v) rfl)
  go_wp2_with fail
  go_quiet (fail)
  have HO6 := Lib.hid (HO5.out.below hBK (below_drewN' (Below.refl _ _) nq))
  have z6_1 := HO6.out.k.free 1
  have HO7 := Lib.hid (HO6.out.set hBK (by simp) hn 1 (.int .i64 0) (cs' := RC false 0 th e ow b0 (i + 1) k v) rfl)
  have z7_3 := HO7.out.k.free 3
  have HO8 := Lib.hid (HO7.out.set hBK (by simp) hn 3 (.int .i64 5) (cs' := RC false 0 th 5 ow b0 (i + 1) k v) rfl)
  go_wp2_with fail
  ((try simp only [Exit.inBlock, Exit.then]); first | go_end0 | refine bodyPost_ret (results_none rfl _ _ _) rfl ?_)
  exact ⟨rfl, _, HA.out, HO8.out⟩
set_option maxRecDepth 100000 in
set_option maxHeartbeats 4000000 in
theorem r3_yes (hBm : B ≤ m) (hc : c ≤ 900) (S : Say p m b n D L c M w) (h : Bk K 72 (RC false 3 th e ow b0 i k wd) w) (hBK : B ≤ K) (hi : 0 ≤ i ∧ i < 4) (hw : U64 wd) (hnn : blkN wd < 4) (hcs : casV M.V (adK i) wd = true) :
    Calls Tryz.prog 22 #[.pointer (some ⟨K, 0, none⟩), .pointer (some ⟨b, 0, none⟩)] w (OdS B p m b n c D M.s K [K] (RC false 4 th e ow b0 i 0 wd) (csM M (adK i) wd (addW wd)) w) := by
  have HA := Lib.hid (S.aftCs (adK i) wd (addW wd))
  have _ := And.intro hc hBK
  have hn := h.neP S.pr
  have hBw : B ≤ w.heap.size := Nat.le_trans hBm S.pr.m_le
  have HS := Lib.hid S
  have HO1 := Lib.hid (OD.start (E := [K]) h S.pr hBw)
  obtain ⟨c0, c1, c2, c3, c4, c5, c6, c7, c8, _⟩ := h.c9
  have HC := Lib.hid hcs
  have hx : fld wd 0 32 = blkN wd := rfl
  have hbk := fun (w : World) => asBlock26_any wd w hw
  rw [hx] at hbk
  have HB := Lib.hid hbk
  have hn0 := (blkN_in wd).1
  have hwr := wrapu (x := blkN wd + 1) (by omega) (by omega)
  have hj := (show U32 (blkN wd + 1) from ⟨by omega, by omega⟩)
  unfold addW at *
  clear hbk hx hcs
  generalize blkN wd = nn at *
  clear h S
  go_enter Tryz.func22, Tryz.ntmps22
  go_wp2_with fail
  ((with_reducible refine (HB.out _).mono ?_); rintro ee w5 ⟨rfl, hw5⟩)
  subst hw5
  have z1_1 := HO1.out.k.free 1
  have HO2 := Lib.hid (HO1.out.set hBK (by simp) hn 1 (.int .i64 2) (cs' := RC false 2 th e ow b0 i k wd) rfl)
  go_wp2_with fail
  have HP2 := Lib.hid (HO2.out.below hBK (Below.refl _ _).drew)
  have hs0 := Lib.hid (HP2.out.k.c9.2.2.2.2.2.2.2.2.1)
  clear c0 c1 c2 c3 c4 c5 c6 c7 c8
  go_region_held3 (fun w9 => w9.cell? ⟨K, 8, none⟩ = some (.int .u64 wd))
    (first | exact hs0.out | exact hs1.out | exact hs2.out | exact hs3.out)
    (first
      | (go_at_call 41; with_reducible refine (refBlock HP2.out.k).mono ?_; rintro ee wA ⟨rfl, hA⟩; have HQ := Lib.hid (HP2.out.below hBK hA); have hs1 := Lib.hid (HQ.out.k.c9.2.2.2.2.2.2.2.2.1); clear hA)
      | (go_at_call 44; with_reducible refine (block30_any (nn + 1) _ wA hj).mono ?_; rintro ee wB ⟨rfl, hwB⟩; subst hwB; have hs2 := hs1)
      | (go_at_call 43; with_reducible refine (HS.out.csD hc (adK_at hi) wd (blockW (nn + 1) (fld wd 32 1 != 0)) HC.out HQ.out.pr).mono ?_; rintro ee wC ⟨rfl, P5, f5⟩; have HR := Lib.hid (HQ.out.fr hBm hn P5 f5); have hs3 := Lib.hid (HR.out.k.c9.2.2.2.2.2.2.2.2.1); clear P5 f5))
  all_goals
    have HO50 := HR
    try clear c0
    try clear c1
    try clear c2
    try clear c3
    try clear c4
    try clear c5
    try clear c6
    try clear c7
    try clear c8
    obtain ⟨c0, c1, c2, c3, c4, c5, c6, c7, c8, _⟩ := HO50.out.k.c9
    have z50_1 := HO50.out.k.free 1
    have HO51 := Lib.hid (HO50.out.set hBK (by simp) hn 1 (.int .i64 4) (cs' := RC false 4 th e ow b0 i k wd) rfl)
    have z51_7 := HO51.out.k.free 7
    have HO52 := Lib.hid (HO51.out.set hBK (by simp) hn 7 (.int .i64 0) (cs' := RC false 4 th e ow b0 i 0 wd) rfl)
    go_wp2_with fail
    ((try simp only [Exit.inBlock, Exit.then]); first | go_end0 | refine bodyPost_ret (results_none rfl _ _ _) rfl ?_)
    exact ⟨rfl, _, HA.out, HO52.out⟩
set_option maxRecDepth 100000 in
set_option maxHeartbeats 4000000 in
theorem r3_no (hBm : B ≤ m) (hc : c ≤ 900) (S : Say p m b n D L c M w) (h : Bk K 72 (RC false 3 th e ow b0 i k wd) w) (hBK : B ≤ K) (hi : 0 ≤ i ∧ i < 4) (hw : U64 wd) (hnn : blkN wd < 4) (hcs : casV M.V (adK i) wd = false) :
    Calls Tryz.prog 22 #[.pointer (some ⟨K, 0, none⟩), .pointer (some ⟨b, 0, none⟩)] w (OdS B p m b n c D M.s K [K] (RC false 2 th e ow b0 i k wd) (csM M (adK i) wd (addW wd)) w) := by
  have HA := Lib.hid (S.aftCs (adK i) wd (addW wd))
  have _ := And.intro hc hBK
  have hn := h.neP S.pr
  have hBw : B ≤ w.heap.size := Nat.le_trans hBm S.pr.m_le
  have HS := Lib.hid S
  have HO1 := Lib.hid (OD.start (E := [K]) h S.pr hBw)
  obtain ⟨c0, c1, c2, c3, c4, c5, c6, c7, c8, _⟩ := h.c9
  have HC := Lib.hid hcs
  have hx : fld wd 0 32 = blkN wd := rfl
  have hbk := fun (w : World) => asBlock26_any wd w hw
  rw [hx] at hbk
  have HB := Lib.hid hbk
  have hn0 := (blkN_in wd).1
  have hwr := wrapu (x := blkN wd + 1) (by omega) (by omega)
  have hj := (show U32 (blkN wd + 1) from ⟨by omega, by omega⟩)
  unfold addW at *
  clear hbk hx hcs
  generalize blkN wd = nn at *
  clear h S
  go_enter Tryz.func22, Tryz.ntmps22
  go_wp2_with fail
  ((with_reducible refine (HB.out _).mono ?_); rintro ee w5 ⟨rfl, hw5⟩)
  subst hw5
  have z1_1 := HO1.out.k.free 1
  have HO2 := Lib.hid (HO1.out.set hBK (by simp) hn 1 (.int .i64 2) (cs' := RC false 2 th e ow b0 i k wd) rfl)
  go_wp2_with fail
  have HP2 := Lib.hid (HO2.out.below hBK (Below.refl _ _).drew)
  have hs0 := Lib.hid (HP2.out.k.c9.2.2.2.2.2.2.2.2.1)
  clear c0 c1 c2 c3 c4 c5 c6 c7 c8
  go_region_held3 (fun w9 => w9.cell? ⟨K, 8, none⟩ = some (.int .u64 wd))
    (first | exact hs0.out | exact hs1.out | exact hs2.out | exact hs3.out)
    (first
      | (go_at_call 41; with_reducible refine (refBlock HP2.out.k).mono ?_; rintro ee wA ⟨rfl, hA⟩; have HQ := Lib.hid (HP2.out.below hBK hA); have hs1 := Lib.hid (HQ.out.k.c9.2.2.2.2.2.2.2.2.1); clear hA)
      | (go_at_call 44; with_reducible refine (block30_any (nn + 1) _ wA hj).mono ?_; rintro ee wB ⟨rfl, hwB⟩; subst hwB; have hs2 := hs1)
      | (go_at_call 43; with_reducible refine (HS.out.csD hc (adK_at hi) wd (blockW (nn + 1) (fld wd 32 1 != 0)) HC.out HQ.out.pr).mono ?_; rintro ee wC ⟨rfl, P5, f5⟩; have HR := Lib.hid (HQ.out.fr hBm hn P5 f5); have hs3 := Lib.hid (HR.out.k.c9.2.2.2.2.2.2.2.2.1); clear P5 f5))
  all_goals
    have HO50 := HR
    try clear c0
    try clear c1
    try clear c2
    try clear c3
    try clear c4
    try clear c5
    try clear c6
    try clear c7
    try clear c8
    obtain ⟨c0, c1, c2, c3, c4, c5, c6, c7, c8, _⟩ := HO50.out.k.c9
    go_wp2_with fail
    ((try simp only [Exit.inBlock, Exit.then]); first | go_end0 | refine bodyPost_ret (results_none rfl _ _ _) rfl ?_)
    exact ⟨rfl, _, HA.out, HO50.out⟩
set_option maxRecDepth 100000 in
set_option maxHeartbeats 4000000 in
theorem r7_yes (hBm : B ≤ m) (hc : c ≤ 900) (S : Say p m b n D L c M w) (h : Bk K 72 (RC false 7 th e ow b0 i k wd) w) (hBK : B ≤ K) (hi : 0 ≤ i ∧ i < 4) (hw : U64 wd) (hcs : casV M.V (adK i) wd = true) :
    Calls Tryz.prog 22 #[.pointer (some ⟨K, 0, none⟩), .pointer (some ⟨b, 0, none⟩)] w (OdS B p m b n c D M.s K [K] (RC false 0 th 7 ow b0 i k wd) (csM M (adK i) wd (fewW wd)) w) := by
  have HA := Lib.hid (S.aftCs (adK i) wd (fewW wd))
  have _ := And.intro hc hBK
  have hn := h.neP S.pr
  have hBw : B ≤ w.heap.size := Nat.le_trans hBm S.pr.m_le
  have HS := Lib.hid S
  have HO1 := Lib.hid (OD.start (E := [K]) h S.pr hBw)
  obtain ⟨c0, c1, c2, c3, c4, c5, c6, c7, c8, _⟩ := h.c9
  have HC := Lib.hid hcs
  clear hcs
  clear h S
  go_enter Tryz.func22, Tryz.ntmps22
  have z1_1 := HO1.out.k.free 1
  have HO2 := Lib.hid (HO1.out.set hBK (by simp) hn 1 (.int .i64 6) (cs' := RC false 6 th e ow b0 i k wd) rfl)
  go_wp2_with fail
  have HP2 := Lib.hid (HO2.out.below hBK (Below.refl _ _).drew)
  have hs0 := Lib.hid (HP2.out.k.c9.2.2.2.2.2.2.2.2.1)
  clear c0 c1 c2 c3 c4 c5 c6 c7 c8
  go_region_held3 (fun w9 => w9.cell? ⟨K, 8, none⟩ = some (.int .u64 wd))
    (first | exact hs0.out | exact hs1.out | exact hs2.out | exact hs3.out)
    (first
      | (go_at_call 41; with_reducible refine (refBlock HP2.out.k).mono ?_; rintro ee wA ⟨rfl, hA⟩; have HQ := Lib.hid (HP2.out.below hBK hA); have hs1 := Lib.hid (HQ.out.k.c9.2.2.2.2.2.2.2.2.1); clear hA)
      | (go_at_call 46; with_reducible refine (refLess HQ.out.k hw).mono ?_; rintro ee wB ⟨rfl, hwB⟩; subst hwB; have hs2 := hs1)
      | (go_at_call 43; with_reducible refine (HS.out.csD hc (adK_at hi) wd (fewW wd) HC.out HQ.out.pr).mono ?_; rintro ee wC ⟨rfl, P5, f5⟩; have HR := Lib.hid (HQ.out.fr hBm hn P5 f5); have hs3 := Lib.hid (HR.out.k.c9.2.2.2.2.2.2.2.2.1); clear P5 f5))
  all_goals
    have HO50 := HR
    try clear c0
    try clear c1
    try clear c2
    try clear c3
    try clear c4
    try clear c5
    try clear c6
    try clear c7
    try clear c8
    obtain ⟨c0, c1, c2, c3, c4, c5, c6, c7, c8, _⟩ := HO50.out.k.c9
    have z50_1 := HO50.out.k.free 1
    have HO51 := Lib.hid (HO50.out.set hBK (by simp) hn 1 (.int .i64 0) (cs' := RC false 0 th e ow b0 i k wd) rfl)
    have z51_3 := HO51.out.k.free 3
    have HO52 := Lib.hid (HO51.out.set hBK (by simp) hn 3 (.int .i64 7) (cs' := RC false 0 th 7 ow b0 i k wd) rfl)
    go_wp2_with fail
    ((try simp only [Exit.inBlock, Exit.then]); first | go_end0 | refine bodyPost_ret (results_none rfl _ _ _) rfl ?_)
    exact ⟨rfl, _, HA.out, HO52.out⟩
set_option maxRecDepth 100000 in
set_option maxHeartbeats 4000000 in
theorem r7_no (hBm : B ≤ m) (hc : c ≤ 900) (S : Say p m b n D L c M w) (h : Bk K 72 (RC false 7 th e ow b0 i k wd) w) (hBK : B ≤ K) (hi : 0 ≤ i ∧ i < 4) (hw : U64 wd) (hcs : casV M.V (adK i) wd = false) :
    Calls Tryz.prog 22 #[.pointer (some ⟨K, 0, none⟩), .pointer (some ⟨b, 0, none⟩)] w (OdS B p m b n c D M.s K [K] (RC false 6 th e ow b0 i k wd) (csM M (adK i) wd (fewW wd)) w) := by
  have HA := Lib.hid (S.aftCs (adK i) wd (fewW wd))
  have _ := And.intro hc hBK
  have hn := h.neP S.pr
  have hBw : B ≤ w.heap.size := Nat.le_trans hBm S.pr.m_le
  have HS := Lib.hid S
  have HO1 := Lib.hid (OD.start (E := [K]) h S.pr hBw)
  obtain ⟨c0, c1, c2, c3, c4, c5, c6, c7, c8, _⟩ := h.c9
  have HC := Lib.hid hcs
  clear hcs
  clear h S
  go_enter Tryz.func22, Tryz.ntmps22
  have z1_1 := HO1.out.k.free 1
  have HO2 := Lib.hid (HO1.out.set hBK (by simp) hn 1 (.int .i64 6) (cs' := RC false 6 th e ow b0 i k wd) rfl)
  go_wp2_with fail
  have HP2 := Lib.hid (HO2.out.below hBK (Below.refl _ _).drew)
  have hs0 := Lib.hid (HP2.out.k.c9.2.2.2.2.2.2.2.2.1)
  clear c0 c1 c2 c3 c4 c5 c6 c7 c8
  go_region_held3 (fun w9 => w9.cell? ⟨K, 8, none⟩ = some (.int .u64 wd))
    (first | exact hs0.out | exact hs1.out | exact hs2.out | exact hs3.out)
    (first
      | (go_at_call 41; with_reducible refine (refBlock HP2.out.k).mono ?_; rintro ee wA ⟨rfl, hA⟩; have HQ := Lib.hid (HP2.out.below hBK hA); have hs1 := Lib.hid (HQ.out.k.c9.2.2.2.2.2.2.2.2.1); clear hA)
      | (go_at_call 46; with_reducible refine (refLess HQ.out.k hw).mono ?_; rintro ee wB ⟨rfl, hwB⟩; subst hwB; have hs2 := hs1)
      | (go_at_call 43; with_reducible refine (HS.out.csD hc (adK_at hi) wd (fewW wd) HC.out HQ.out.pr).mono ?_; rintro ee wC ⟨rfl, P5, f5⟩; have HR := Lib.hid (HQ.out.fr hBm hn P5 f5); have hs3 := Lib.hid (HR.out.k.c9.2.2.2.2.2.2.2.2.1); clear P5 f5))
  all_goals
    have HO50 := HR
    try clear c0
    try clear c1
    try clear c2
    try clear c3
    try clear c4
    try clear c5
    try clear c6
    try clear c7
    try clear c8
    obtain ⟨c0, c1, c2, c3, c4, c5, c6, c7, c8, _⟩ := HO50.out.k.c9
    go_wp2_with fail
    ((try simp only [Exit.inBlock, Exit.then]); first | go_end0 | refine bodyPost_ret (results_none rfl _ _ _) rfl ?_)
    exact ⟨rfl, _, HA.out, HO50.out⟩
set_option maxRecDepth 100000 in
set_option maxHeartbeats 4000000 in
theorem l6_yes (hBm : B ≤ m) (hc : c ≤ 900) (S : Say p m b n D L c M w) (h : Bk K 72 (RC true 6 th e ow b0 i k wd) w) (hBK : B ≤ K) (hi : 0 ≤ i ∧ i < 4) (hw : U64 wd) (hcs : casV M.V (adK i) wd = true) :
    Calls Tryz.prog 39 #[.pointer (some ⟨K, 0, none⟩), .pointer (some ⟨b, 0, none⟩)] w (OdS B p m b n c D M.s K [K] (RC true 0 th e ow b0 i k wd) (csM M (adK i) wd (fewW wd)) w) := by
  have HA := Lib.hid (S.aftCs (adK i) wd (fewW wd))
  have _ := And.intro hc hBK
  have hn := h.neP S.pr
  have hBw : B ≤ w.heap.size := Nat.le_trans hBm S.pr.m_le
  have HS := Lib.hid S
  have HO1 := Lib.hid (OD.start (E := [K]) h S.pr hBw)
  obtain ⟨c0, c1, c2, c3, c4, c5, c6, c7, c8, _⟩ := h.c9
  have HC := Lib.hid hcs
  clear hcs
  clear h S
  go_enter Tryz.func39, Tryz.ntmps39
  have z1_1 := HO1.out.k.free 1
  have HO2 := Lib.hid (HO1.out.set hBK (by simp) hn 1 (.int .i64 5) (cs' := RC true 5 th e ow b0 i k wd) rfl)
  go_wp2_with fail
  have HP2 := Lib.hid (HO2.out.below hBK (Below.refl _ _).drew)
  have hs0 := Lib.hid (HP2.out.k.c9.2.2.2.2.2.2.2.2.1)
  clear c0 c1 c2 c3 c4 c5 c6 c7 c8
  go_region_held3 (fun w9 => w9.cell? ⟨K, 8, none⟩ = some (.int .u64 wd))
    (first | exact hs0.out | exact hs1.out | exact hs2.out | exact hs3.out)
    (first
      | (go_at_call 41; with_reducible refine (refBlock HP2.out.k).mono ?_; rintro ee wA ⟨rfl, hA⟩; have HQ := Lib.hid (HP2.out.below hBK hA); have hs1 := Lib.hid (HQ.out.k.c9.2.2.2.2.2.2.2.2.1); clear hA)
      | (go_at_call 46; with_reducible refine (refLess HQ.out.k hw).mono ?_; rintro ee wB ⟨rfl, hwB⟩; subst hwB; have hs2 := hs1)
      | (go_at_call 43; with_reducible refine (HS.out.csD hc (adK_at hi) wd (fewW wd) HC.out HQ.out.pr).mono ?_; rintro ee wC ⟨rfl, P5, f5⟩; have HR := Lib.hid (HQ.out.fr hBm hn P5 f5); have hs3 := Lib.hid (HR.out.k.c9.2.2.2.2.2.2.2.2.1); clear P5 f5))
  all_goals
    have HO50 := HR
    try clear c0
    try clear c1
    try clear c2
    try clear c3
    try clear c4
    try clear c5
    try clear c6
    try clear c7
    try clear c8
    obtain ⟨c0, c1, c2, c3, c4, c5, c6, c7, c8, _⟩ := HO50.out.k.c9
    have z50_1 := HO50.out.k.free 1
    have HO51 := Lib.hid (HO50.out.set hBK (by simp) hn 1 (.int .i64 0) (cs' := RC true 0 th e ow b0 i k wd) rfl)
    go_wp2_with fail
    ((try simp only [Exit.inBlock, Exit.then]); first | go_end0 | refine bodyPost_ret (results_none rfl _ _ _) rfl ?_)
    exact ⟨rfl, _, HA.out, HO51.out⟩
set_option maxRecDepth 100000 in
set_option maxHeartbeats 4000000 in
theorem l6_no (hBm : B ≤ m) (hc : c ≤ 900) (S : Say p m b n D L c M w) (h : Bk K 72 (RC true 6 th e ow b0 i k wd) w) (hBK : B ≤ K) (hi : 0 ≤ i ∧ i < 4) (hw : U64 wd) (hcs : casV M.V (adK i) wd = false) :
    Calls Tryz.prog 39 #[.pointer (some ⟨K, 0, none⟩), .pointer (some ⟨b, 0, none⟩)] w (OdS B p m b n c D M.s K [K] (RC true 5 th e ow b0 i k wd) (csM M (adK i) wd (fewW wd)) w) := by
  have HA := Lib.hid (S.aftCs (adK i) wd (fewW wd))
  have _ := And.intro hc hBK
  have hn := h.neP S.pr
  have hBw : B ≤ w.heap.size := Nat.le_trans hBm S.pr.m_le
  have HS := Lib.hid S
  have HO1 := Lib.hid (OD.start (E := [K]) h S.pr hBw)
  obtain ⟨c0, c1, c2, c3, c4, c5, c6, c7, c8, _⟩ := h.c9
  have HC := Lib.hid hcs
  clear hcs
  clear h S
  go_enter Tryz.func39, Tryz.ntmps39
  have z1_1 := HO1.out.k.free 1
  have HO2 := Lib.hid (HO1.out.set hBK (by simp) hn 1 (.int .i64 5) (cs' := RC true 5 th e ow b0 i k wd) rfl)
  go_wp2_with fail
  have HP2 := Lib.hid (HO2.out.below hBK (Below.refl _ _).drew)
  have hs0 := Lib.hid (HP2.out.k.c9.2.2.2.2.2.2.2.2.1)
  clear c0 c1 c2 c3 c4 c5 c6 c7 c8
  go_region_held3 (fun w9 => w9.cell? ⟨K, 8, none⟩ = some (.int .u64 wd))
    (first | exact hs0.out | exact hs1.out | exact hs2.out | exact hs3.out)
    (first
      | (go_at_call 41; with_reducible refine (refBlock HP2.out.k).mono ?_; rintro ee wA ⟨rfl, hA⟩; have HQ := Lib.hid (HP2.out.below hBK hA); have hs1 := Lib.hid (HQ.out.k.c9.2.2.2.2.2.2.2.2.1); clear hA)
      | (go_at_call 46; with_reducible refine (refLess HQ.out.k hw).mono ?_; rintro ee wB ⟨rfl, hwB⟩; subst hwB; have hs2 := hs1)
      | (go_at_call 43; with_reducible refine (HS.out.csD hc (adK_at hi) wd (fewW wd) HC.out HQ.out.pr).mono ?_; rintro ee wC ⟨rfl, P5, f5⟩; have HR := Lib.hid (HQ.out.fr hBm hn P5 f5); have hs3 := Lib.hid (HR.out.k.c9.2.2.2.2.2.2.2.2.1); clear P5 f5))
  all_goals
    have HO50 := HR
    try clear c0
    try clear c1
    try clear c2
    try clear c3
    try clear c4
    try clear c5
    try clear c6
    try clear c7
    try clear c8
    obtain ⟨c0, c1, c2, c3, c4, c5, c6, c7, c8, _⟩ := HO50.out.k.c9
    go_wp2_with fail
    ((try simp only [Exit.inBlock, Exit.then]); first | go_end0 | refine bodyPost_ret (results_none rfl _ _ _) rfl ?_)
    exact ⟨rfl, _, HA.out, HO50.out⟩
set_option maxRecDepth 100000 in
set_option maxHeartbeats 4000000 in
theorem r4_yes (hBm : B ≤ m) (hc : c ≤ 900) (S : Say p m b n D L c M w) (h : Bk K 72 (RC false 4 th e ow b0 i k wd) w) (hBK : B ≤ K) (hi : 0 ≤ i ∧ i < 4) (hk : 0 ≤ k ∧ k < 4) (ht : 0 ≤ 4 * i + k ∧ 4 * i + k < 16) (hcs : casV M.V (adT (4 * i + k) 0) 0 = true) :
    Calls Tryz.prog 22 #[.pointer (some ⟨K, 0, none⟩), .pointer (some ⟨b, 0, none⟩)] w (OdS B p m b n c D M.s K [K] (RC false 5 (4 * i + k) e ow b0 i 1 wd) (csM M (adT (4 * i + k) 0) 0 ow) w) := by
  have HA := Lib.hid (S.aftCs (adT (4 * i + k) 0) 0 ow)
  have _ := And.intro hc hBK
  have hn := h.neP S.pr
  have hBw : B ≤ w.heap.size := Nat.le_trans hBm S.pr.m_le
  have HS := Lib.hid S
  have HO1 := Lib.hid (OD.start (E := [K]) h S.pr hBw)
  obtain ⟨c0, c1, c2, c3, c4, c5, c6, c7, c8, _⟩ := h.c9
  have HC := Lib.hid hcs
  have _ := hk
  have hw1 := wrapi (x := 4 * i) (by omega) (by omega)
  have hw2 := wrapi (x := 4 * i + k) (by omega) (by omega)
  have hw3 := wrapi (x := k + 1) (by omega) (by omega)
  clear hcs
  clear h S
  go_enter Tryz.func22, Tryz.ntmps22
  go_wp2_with fail
  go_quiet (fail)
  have HO2 := Lib.hid (HO1.out.below hBK (below_drewN' (Below.refl _ _) nq))
  revert HO2
  generalize w.drewN nq = wq
  intro HO2
  try clear c0
  try clear c1
  try clear c2
  try clear c3
  try clear c4
  try clear c5
  try clear c6
  try clear c7
  try clear c8
  obtain ⟨c0, c1, c2, c3, c4, c5, c6, c7, c8, _⟩ := HO2.out.k.c9
  go_wp2_with fail
  have HP2 := Lib.hid (HO2.out.below hBK (Below.refl _ _).drew)
  have hs0 := Lib.hid (HP2.out.k.c9.2.2.2.2.1)
  clear c0 c1 c2 c3 c4 c5 c6 c7 c8
  go_region_held3 (fun w9 => w9.cell? ⟨K, 4, none⟩ = some (.int .u64 ow))
    (first | exact hs0.out | exact hs1.out | exact hs2.out | exact hs3.out)
    (first
      | (go_at_call 45; with_reducible refine (refOf (4 * i + k) 0 _).mono ?_; rintro ee wA ⟨rfl, hA⟩; have HQ := Lib.hid (HP2.out.below hBK hA); have hs1 := Lib.hid (HQ.out.k.c9.2.2.2.2.1); clear hA)
      | (go_at_call 43; with_reducible refine (HS.out.csD hc (adT_at ht (by decide)) 0 ow HC.out HQ.out.pr).mono ?_; rintro ee wC ⟨rfl, P5, f5⟩; have HR := Lib.hid (HQ.out.fr hBm hn P5 f5); have hs3 := Lib.hid (HR.out.k.c9.2.2.2.2.1); clear P5 f5))
  all_goals
    have HO50 := HR
    try clear c0
    try clear c1
    try clear c2
    try clear c3
    try clear c4
    try clear c5
    try clear c6
    try clear c7
    try clear c8
    obtain ⟨c0, c1, c2, c3, c4, c5, c6, c7, c8, _⟩ := HO50.out.k.c9
    have z50_2 := HO50.out.k.free 2
    have HO51 := Lib.hid (HO50.out.set hBK (by simp) hn 2 (.int .i64 (4 * i + k)) (cs' := RC false 4 (4 * i + k) e ow b0 i k wd) rfl)
    have z51_1 := HO51.out.k.free 1
    have HO52 := Lib.hid (HO51.out.set hBK (by simp) hn 1 (.int .i64 5) (cs' := RC false 5 (4 * i + k) e ow b0 i k wd) rfl)
    have z52_7 := HO52.out.k.free 7
    have HO53 := Lib.hid (HO52.out.set hBK (by simp) hn 7 (.int .i64 1) (cs' := RC false 5 (4 * i + k) e ow b0 i 1 wd) rfl)
    go_wp2_with fail
    ((try simp only [Exit.inBlock, Exit.then]); first | go_end0 | refine bodyPost_ret (results_none rfl _ _ _) rfl ?_)
    exact ⟨rfl, _, HA.out, HO53.out⟩
set_option maxRecDepth 100000 in
set_option maxHeartbeats 4000000 in
theorem r4_next (hBm : B ≤ m) (hc : c ≤ 900) (S : Say p m b n D L c M w) (h : Bk K 72 (RC false 4 th e ow b0 i k wd) w) (hBK : B ≤ K) (hi : 0 ≤ i ∧ i < 4) (hk : 0 ≤ k ∧ k < 4) (ht : 0 ≤ 4 * i + k ∧ 4 * i + k < 16) (hcs : casV M.V (adT (4 * i + k) 0) 0 = false) (hk4 : ¬ k + 1 = 4) :
    Calls Tryz.prog 22 #[.pointer (some ⟨K, 0, none⟩), .pointer (some ⟨b, 0, none⟩)] w (OdS B p m b n c D M.s K [K] (RC false 4 th e ow b0 i (k + 1) wd) (csM M (adT (4 * i + k) 0) 0 ow) w) := by
  have HA := Lib.hid (S.aftCs (adT (4 * i + k) 0) 0 ow)
  have _ := And.intro hc hBK
  have hn := h.neP S.pr
  have hBw : B ≤ w.heap.size := Nat.le_trans hBm S.pr.m_le
  have HS := Lib.hid S
  have HO1 := Lib.hid (OD.start (E := [K]) h S.pr hBw)
  obtain ⟨c0, c1, c2, c3, c4, c5, c6, c7, c8, _⟩ := h.c9
  have HC := Lib.hid hcs
  have _ := hk
  have hw1 := wrapi (x := 4 * i) (by omega) (by omega)
  have hw2 := wrapi (x := 4 * i + k) (by omega) (by omega)
  have hw3 := wrapi (x := k + 1) (by omega) (by omega)
  have hkb : (k + 1 == 4) = false := beq_eq_false_iff_ne.2 hk4
  clear hcs
  clear hk4
  clear h S
  go_enter Tryz.func22, Tryz.ntmps22
  go_wp2_with fail
  go_quiet (fail)
  have HO2 := Lib.hid (HO1.out.below hBK (below_drewN' (Below.refl _ _) nq))
  revert HO2
  generalize w.drewN nq = wq
  intro HO2
  try clear c0
  try clear c1
  try clear c2
  try clear c3
  try clear c4
  try clear c5
  try clear c6
  try clear c7
  try clear c8
  obtain ⟨c0, c1, c2, c3, c4, c5, c6, c7, c8, _⟩ := HO2.out.k.c9
  go_wp2_with fail
  have HP2 := Lib.hid (HO2.out.below hBK (Below.refl _ _).drew)
  have hs0 := Lib.hid (HP2.out.k.c9.2.2.2.2.1)
  clear c0 c1 c2 c3 c4 c5 c6 c7 c8
  go_region_held3 (fun w9 => w9.cell? ⟨K, 4, none⟩ = some (.int .u64 ow))
    (first | exact hs0.out | exact hs1.out | exact hs2.out | exact hs3.out)
    (first
      | (go_at_call 45; with_reducible refine (refOf (4 * i + k) 0 _).mono ?_; rintro ee wA ⟨rfl, hA⟩; have HQ := Lib.hid (HP2.out.below hBK hA); have hs1 := Lib.hid (HQ.out.k.c9.2.2.2.2.1); clear hA)
      | (go_at_call 43; with_reducible refine (HS.out.csD hc (adT_at ht (by decide)) 0 ow HC.out HQ.out.pr).mono ?_; rintro ee wC ⟨rfl, P5, f5⟩; have HR := Lib.hid (HQ.out.fr hBm hn P5 f5); have hs3 := Lib.hid (HR.out.k.c9.2.2.2.2.1); clear P5 f5))
  all_goals
    have HO50 := HR
    try clear c0
    try clear c1
    try clear c2
    try clear c3
    try clear c4
    try clear c5
    try clear c6
    try clear c7
    try clear c8
    obtain ⟨c0, c1, c2, c3, c4, c5, c6, c7, c8, _⟩ := HO50.out.k.c9
    have z50_7 := HO50.out.k.free 7
    have HO51 := Lib.hid (HO50.out.set hBK (by simp) hn 7 (.int .i64 (k + 1)) (cs' := RC false 4 th e ow b0 i (k + 1) wd) rfl)
    go_wp2_with fail
    ((try simp only [Exit.inBlock, Exit.then]); first | go_end0 | refine bodyPost_ret (results_none rfl _ _ _) rfl ?_)
    exact ⟨rfl, _, HA.out, HO51.out⟩
set_option maxRecDepth 100000 in
set_option maxHeartbeats 4000000 in
theorem r4_last (hBm : B ≤ m) (hc : c ≤ 900) (S : Say p m b n D L c M w) (h : Bk K 72 (RC false 4 th e ow b0 i k wd) w) (hBK : B ≤ K) (hi : 0 ≤ i ∧ i < 4) (hk : 0 ≤ k ∧ k < 4) (ht : 0 ≤ 4 * i + k ∧ 4 * i + k < 16) (hcs : casV M.V (adT (4 * i + k) 0) 0 = false) (hk4 : k + 1 = 4) :
    Calls Tryz.prog 22 #[.pointer (some ⟨K, 0, none⟩), .pointer (some ⟨b, 0, none⟩)] w (OdS B p m b n c D M.s K [K] (RC false 6 th e ow b0 i (k + 1) wd) (csM M (adT (4 * i + k) 0) 0 ow) w) := by
  have HA := Lib.hid (S.aftCs (adT (4 * i + k) 0) 0 ow)
  have _ := And.intro hc hBK
  have hn := h.neP S.pr
  have hBw : B ≤ w.heap.size := Nat.le_trans hBm S.pr.m_le
  have HS := Lib.hid S
  have HO1 := Lib.hid (OD.start (E := [K]) h S.pr hBw)
  obtain ⟨c0, c1, c2, c3, c4, c5, c6, c7, c8, _⟩ := h.c9
  have HC := Lib.hid hcs
  have _ := hk
  have hw1 := wrapi (x := 4 * i) (by omega) (by omega)
  have hw2 := wrapi (x := 4 * i + k) (by omega) (by omega)
  have hw3 := wrapi (x := k + 1) (by omega) (by omega)
  have hkb : (k + 1 == 4) = true := beq_iff_eq.2 hk4
  clear hcs
  clear hk4
  clear h S
  go_enter Tryz.func22, Tryz.ntmps22
  go_wp2_with fail
  go_quiet (fail)
  have HO2 := Lib.hid (HO1.out.below hBK (below_drewN' (Below.refl _ _) nq))
  revert HO2
  generalize w.drewN nq = wq
  intro HO2
  try clear c0
  try clear c1
  try clear c2
  try clear c3
  try clear c4
  try clear c5
  try clear c6
  try clear c7
  try clear c8
  obtain ⟨c0, c1, c2, c3, c4, c5, c6, c7, c8, _⟩ := HO2.out.k.c9
  go_wp2_with fail
  have HP2 := Lib.hid (HO2.out.below hBK (Below.refl _ _).drew)
  have hs0 := Lib.hid (HP2.out.k.c9.2.2.2.2.1)
  clear c0 c1 c2 c3 c4 c5 c6 c7 c8
  go_region_held3 (fun w9 => w9.cell? ⟨K, 4, none⟩ = some (.int .u64 ow))
    (first | exact hs0.out | exact hs1.out | exact hs2.out | exact hs3.out)
    (first
      | (go_at_call 45; with_reducible refine (refOf (4 * i + k) 0 _).mono ?_; rintro ee wA ⟨rfl, hA⟩; have HQ := Lib.hid (HP2.out.below hBK hA); have hs1 := Lib.hid (HQ.out.k.c9.2.2.2.2.1); clear hA)
      | (go_at_call 43; with_reducible refine (HS.out.csD hc (adT_at ht (by decide)) 0 ow HC.out HQ.out.pr).mono ?_; rintro ee wC ⟨rfl, P5, f5⟩; have HR := Lib.hid (HQ.out.fr hBm hn P5 f5); have hs3 := Lib.hid (HR.out.k.c9.2.2.2.2.1); clear P5 f5))
  all_goals
    have HO50 := HR
    try clear c0
    try clear c1
    try clear c2
    try clear c3
    try clear c4
    try clear c5
    try clear c6
    try clear c7
    try clear c8
    obtain ⟨c0, c1, c2, c3, c4, c5, c6, c7, c8, _⟩ := HO50.out.k.c9
    have z50_7 := HO50.out.k.free 7
    have HO51 := Lib.hid (HO50.out.set hBK (by simp) hn 7 (.int .i64 (k + 1)) (cs' := RC false 4 th e ow b0 i (k + 1) wd) rfl)
    have z51_1 := HO51.out.k.free 1
    have HO52 := Lib.hid (HO51.out.set hBK (by simp) hn 1 (.int .i64 6) (cs' := RC false 6 th e ow b0 i (k + 1) wd) rfl)
    go_wp2_with fail
    ((try simp only [Exit.inBlock, Exit.then]); first | go_end0 | refine bodyPost_ret (results_none rfl _ _ _) rfl ?_)
    exact ⟨rfl, _, HA.out, HO52.out⟩
set_option maxRecDepth 100000 in
set_option maxHeartbeats 4000000 in
theorem r5_on (hBm : B ≤ m) (hc : c ≤ 900) (S : Say p m b n D L c M w) (h : Bk K 72 (RC false 5 th e ow b0 i k wd) w) (hBK : B ≤ K) (ht : 0 ≤ th ∧ th < 16) (hf : 0 ≤ k ∧ k < 10) (hk4 : ¬ k + 1 = 10) :
    Calls Tryz.prog 22 #[.pointer (some ⟨K, 0, none⟩), .pointer (some ⟨b, 0, none⟩)] w (OdS B p m b n c D M.s K [K] (RC false 5 th e ow b0 i (k + 1) wd) (stM M (adT th k) 0) w) := by
  have HA := Lib.hid (S.aftSt (adT th k) 0)
  have _ := And.intro hc hBK
  have hn := h.neP S.pr
  have hBw : B ≤ w.heap.size := Nat.le_trans hBm S.pr.m_le
  have HS := Lib.hid S
  have HO1 := Lib.hid (OD.start (E := [K]) h S.pr hBw)
  obtain ⟨c0, c1, c2, c3, c4, c5, c6, c7, c8, _⟩ := h.c9
  have hw3 := wrapi (x := k + 1) (by omega) (by omega)
  have hkb : (k + 1 == 10) = false := beq_eq_false_iff_ne.2 hk4
  clear hk4
  clear h S
  go_enter Tryz.func22, Tryz.ntmps22
  go_wp2_with fail
  have HP1 := Lib.hid (HO1.out.below hBK (Below.refl _ _).drew)
  have hs0 := Lib.hid (And.intro HP1.out.k.c9.2.2.1 HP1.out.k.c9.2.2.2.2.2.2.2.1)
  clear c0 c1 c2 c3 c4 c5 c6 c7 c8
  go_region_held3 (fun w9 => w9.cell? ⟨K, 2, none⟩ = some (.int .i64 th) ∧ w9.cell? ⟨K, 7, none⟩ = some (.int .i64 k))
    (first | exact hs0.out | exact hs1.out | exact hs2.out | exact hs3.out)
    (first
      | (go_at_call 45; with_reducible refine (refOf th k _).mono ?_; rintro ee wA ⟨rfl, hA⟩; have HQ := Lib.hid (HP1.out.below hBK hA); have hs1 := Lib.hid (And.intro HQ.out.k.c9.2.2.1 HQ.out.k.c9.2.2.2.2.2.2.2.1); clear hA)
      | (go_at_call 21; with_reducible refine (HS.out.stD hc (adT_at ht hf) 0 HQ.out.pr).mono ?_; rintro ee wC ⟨rfl, P5, f5⟩; have HR := Lib.hid (HQ.out.fr hBm hn P5 f5); have hs3 := Lib.hid (And.intro HR.out.k.c9.2.2.1 HR.out.k.c9.2.2.2.2.2.2.2.1); clear P5 f5))
  all_goals
    have HO50 := HR
    try clear c0
    try clear c1
    try clear c2
    try clear c3
    try clear c4
    try clear c5
    try clear c6
    try clear c7
    try clear c8
    obtain ⟨c0, c1, c2, c3, c4, c5, c6, c7, c8, _⟩ := HO50.out.k.c9
    have z50_7 := HO50.out.k.free 7
    have HO51 := Lib.hid (HO50.out.set hBK (by simp) hn 7 (.int .i64 (k + 1)) (cs' := RC false 5 th e ow b0 i (k + 1) wd) rfl)
    go_wp2_with fail
    ((try simp only [Exit.inBlock, Exit.then]); first | go_end0 | refine bodyPost_ret (results_none rfl _ _ _) rfl ?_)
    exact ⟨rfl, _, HA.out, HO51.out⟩
set_option maxRecDepth 100000 in
set_option maxHeartbeats 4000000 in
theorem r5_last (hBm : B ≤ m) (hc : c ≤ 900) (S : Say p m b n D L c M w) (h : Bk K 72 (RC false 5 th e ow b0 i k wd) w) (hBK : B ≤ K) (ht : 0 ≤ th ∧ th < 16) (hf : 0 ≤ k ∧ k < 10) (hk4 : k + 1 = 10) :
    Calls Tryz.prog 22 #[.pointer (some ⟨K, 0, none⟩), .pointer (some ⟨b, 0, none⟩)] w (OdS B p m b n c D M.s K [K] (RC false 0 th e ow b0 i (k + 1) wd) (stM M (adT th k) 0) w) := by
  have HA := Lib.hid (S.aftSt (adT th k) 0)
  have _ := And.intro hc hBK
  have hn := h.neP S.pr
  have hBw : B ≤ w.heap.size := Nat.le_trans hBm S.pr.m_le
  have HS := Lib.hid S
  have HO1 := Lib.hid (OD.start (E := [K]) h S.pr hBw)
  obtain ⟨c0, c1, c2, c3, c4, c5, c6, c7, c8, _⟩ := h.c9
  have hw3 := wrapi (x := k + 1) (by omega) (by omega)
  have hkb : (k + 1 == 10) = true := beq_iff_eq.2 hk4
  clear hk4
  clear h S
  go_enter Tryz.func22, Tryz.ntmps22
  go_wp2_with fail
  have HP1 := Lib.hid (HO1.out.below hBK (Below.refl _ _).drew)
  have hs0 := Lib.hid (And.intro HP1.out.k.c9.2.2.1 HP1.out.k.c9.2.2.2.2.2.2.2.1)
  clear c0 c1 c2 c3 c4 c5 c6 c7 c8
  go_region_held3 (fun w9 => w9.cell? ⟨K, 2, none⟩ = some (.int .i64 th) ∧ w9.cell? ⟨K, 7, none⟩ = some (.int .i64 k))
    (first | exact hs0.out | exact hs1.out | exact hs2.out | exact hs3.out)
    (first
      | (go_at_call 45; with_reducible refine (refOf th k _).mono ?_; rintro ee wA ⟨rfl, hA⟩; have HQ := Lib.hid (HP1.out.below hBK hA); have hs1 := Lib.hid (And.intro HQ.out.k.c9.2.2.1 HQ.out.k.c9.2.2.2.2.2.2.2.1); clear hA)
      | (go_at_call 21; with_reducible refine (HS.out.stD hc (adT_at ht hf) 0 HQ.out.pr).mono ?_; rintro ee wC ⟨rfl, P5, f5⟩; have HR := Lib.hid (HQ.out.fr hBm hn P5 f5); have hs3 := Lib.hid (And.intro HR.out.k.c9.2.2.1 HR.out.k.c9.2.2.2.2.2.2.2.1); clear P5 f5))
  all_goals
    have HO50 := HR
    try clear c0
    try clear c1
    try clear c2
    try clear c3
    try clear c4
    try clear c5
    try clear c6
    try clear c7
    try clear c8
    obtain ⟨c0, c1, c2, c3, c4, c5, c6, c7, c8, _⟩ := HO50.out.k.c9
    have z50_7 := HO50.out.k.free 7
    have HO51 := Lib.hid (HO50.out.set hBK (by simp) hn 7 (.int .i64 (k + 1)) (cs' := RC false 5 th e ow b0 i (k + 1) wd) rfl)
    have z51_1 := HO51.out.k.free 1
    have HO52 := Lib.hid (HO51.out.set hBK (by simp) hn 1 (.int .i64 0) (cs' := RC false 0 th e ow b0 i (k + 1) wd) rfl)
    go_wp2_with fail
    ((try simp only [Exit.inBlock, Exit.then]); first | go_end0 | refine bodyPost_ret (results_none rfl _ _ _) rfl ?_)
    exact ⟨rfl, _, HA.out, HO52.out⟩
set_option maxRecDepth 100000 in
set_option maxHeartbeats 4000000 in
theorem r6 (hBm : B ≤ m) (hc : c ≤ 900) (S : Say p m b n D L c M w) (h : Bk K 72 (RC false 6 th e ow b0 i k wd) w) (hBK : B ≤ K) (hi : 0 ≤ i ∧ i < 4) (hv : M.V (adK i) = v) :
    Calls Tryz.prog 22 #[.pointer (some ⟨K, 0, none⟩), .pointer (some ⟨b, 0, none⟩)] w (OdS B p m b n c D M.s K [K] (RC false 7 th e ow b0 i k v) (ldM M (adK i)) w) := by
  have HA := Lib.hid (S.aftLd (adK i))
  have _ := And.intro hc hBK
  have hn := h.neP S.pr
  have hBw : B ≤ w.heap.size := Nat.le_trans hBm S.pr.m_le
  have HS := Lib.hid S
  have HO1 := Lib.hid (OD.start (E := [K]) h S.pr hBw)
  obtain ⟨c0, c1, c2, c3, c4, c5, c6, c7, c8, _⟩ := h.c9
  have HV := Lib.hid hv
  clear hv
  clear h S
  go_enter Tryz.func22, Tryz.ntmps22
  go_wp2_with fail
  ((with_reducible refine (refBlock HO1.out.k).mono ?_); rintro ee w3 ⟨rfl, hb3⟩)
  have HO2 := Lib.hid (HO1.out.below hBK hb3)
  clear hb3
  try clear c0
  try clear c1
  try clear c2
  try clear c3
  try clear c4
  try clear c5
  try clear c6
  try clear c7
  try clear c8
  obtain ⟨c0, c1, c2, c3, c4, c5, c6, c7, c8, _⟩ := HO2.out.k.c9
  go_wp2_with fail
  ((with_reducible refine (HS.out.ldD hc (adK_at hi) HV.out HO2.out.pr).mono ?_); rintro ee w4 ⟨rfl, P4, f4⟩)
  have HO3 := Lib.hid (HO2.out.fr hBm hn P4 f4)
  clear P4 f4
  try clear c0
  try clear c1
  try clear c2
  try clear c3
  try clear c4
  try clear c5
  try clear c6
  try clear c7
  try clear c8
  obtain ⟨c0, c1, c2, c3, c4, c5, c6, c7, c8, _⟩ := HO3.out.k.c9
  have z3_8 := HO3.out.k.free 8
  have HO4 := Lib.hid (HO3.out.set hBK (by simp) hn 8 (.int .u64 v) (cs' := RC false 6 th e ow b0 i k v) rfl)
  have z4_1 := HO4.out.k.free 1
  have HO5 := Lib.hid (HO4.out.set hBK (by simp) hn 1 (.int .i64 7) (cs' := RC false 7 th e ow b0 i k v) rfl)
  go_wp2_with fail
  ((try simp only [Exit.inBlock, Exit.then]); first | go_end0 | refine bodyPost_ret (results_none rfl _ _ _) rfl ?_)
  exact ⟨rfl, _, HA.out, HO5.out⟩
set_option maxRecDepth 100000 in
set_option maxHeartbeats 4000000 in
theorem l5 (hBm : B ≤ m) (hc : c ≤ 900) (S : Say p m b n D L c M w) (h : Bk K 72 (RC true 5 th e ow b0 i k wd) w) (hBK : B ≤ K) (hi : 0 ≤ i ∧ i < 4) (hv : M.V (adK i) = v) :
    Calls Tryz.prog 39 #[.pointer (some ⟨K, 0, none⟩), .pointer (some ⟨b, 0, none⟩)] w (OdS B p m b n c D M.s K [K] (RC true 6 th e ow b0 i k v) (ldM M (adK i)) w) := by
  have HA := Lib.hid (S.aftLd (adK i))
  have _ := And.intro hc hBK
  have hn := h.neP S.pr
  have hBw : B ≤ w.heap.size := Nat.le_trans hBm S.pr.m_le
  have HS := Lib.hid S
  have HO1 := Lib.hid (OD.start (E := [K]) h S.pr hBw)
  obtain ⟨c0, c1, c2, c3, c4, c5, c6, c7, c8, _⟩ := h.c9
  have HV := Lib.hid hv
  clear hv
  clear h S
  go_enter Tryz.func39, Tryz.ntmps39
  go_wp2_with fail
  ((with_reducible refine (refBlock HO1.out.k).mono ?_); rintro ee w3 ⟨rfl, hb3⟩)
  have HO2 := Lib.hid (HO1.out.below hBK hb3)
  clear hb3
  try clear c0
  try clear c1
  try clear c2
  try clear c3
  try clear c4
  try clear c5
  try clear c6
  try clear c7
  try clear c8
  obtain ⟨c0, c1, c2, c3, c4, c5, c6, c7, c8, _⟩ := HO2.out.k.c9
  go_wp2_with fail
  ((with_reducible refine (HS.out.ldD hc (adK_at hi) HV.out HO2.out.pr).mono ?_); rintro ee w4 ⟨rfl, P4, f4⟩)
  have HO3 := Lib.hid (HO2.out.fr hBm hn P4 f4)
  clear P4 f4
  try clear c0
  try clear c1
  try clear c2
  try clear c3
  try clear c4
  try clear c5
  try clear c6
  try clear c7
  try clear c8
  obtain ⟨c0, c1, c2, c3, c4, c5, c6, c7, c8, _⟩ := HO3.out.k.c9
  have z3_8 := HO3.out.k.free 8
  have HO4 := Lib.hid (HO3.out.set hBK (by simp) hn 8 (.int .u64 v) (cs' := RC true 5 th e ow b0 i k v) rfl)
  have z4_1 := HO4.out.k.free 1
  have HO5 := Lib.hid (HO4.out.set hBK (by simp) hn 1 (.int .i64 6) (cs' := RC true 6 th e ow b0 i k v) rfl)
  go_wp2_with fail
  ((try simp only [Exit.inBlock, Exit.then]); first | go_end0 | refine bodyPost_ret (results_none rfl _ _ _) rfl ?_)
  exact ⟨rfl, _, HA.out, HO5.out⟩
set_option maxRecDepth 100000 in
set_option maxHeartbeats 4000000 in
theorem l1_none (hBm : B ≤ m) (hc : c ≤ 900) (S : Say p m b n D L c M w) (h : Bk K 72 (RC true 1 th e ow b0 i k wd) w) (hBK : B ≤ K) (ht : 0 ≤ th ∧ th < 16) (hv : M.V (adT th 0) = 0) :
    Calls Tryz.prog 39 #[.pointer (some ⟨K, 0, none⟩), .pointer (some ⟨b, 0, none⟩)] w (OdS B p m b n c D M.s K [K] (RC true 0 th 6 ow b0 i k wd) (ldM M (adT th 0)) w) := by
  have HA := Lib.hid (S.aftLd (adT th 0))
  have _ := And.intro hc hBK
  have hn := h.neP S.pr
  have hBw : B ≤ w.heap.size := Nat.le_trans hBm S.pr.m_le
  have HS := Lib.hid S
  have HO1 := Lib.hid (OD.start (E := [K]) h S.pr hBw)
  obtain ⟨c0, c1, c2, c3, c4, c5, c6, c7, c8, _⟩ := h.c9
  have HV := Lib.hid hv
  clear hv
  clear h S
  go_enter Tryz.func39, Tryz.ntmps39
  have z1_1 := HO1.out.k.free 1
  have HO2 := Lib.hid (HO1.out.set hBK (by simp) hn 1 (.int .i64 2) (cs' := RC true 2 th e ow b0 i k wd) rfl)
  go_wp2_with fail
  ((with_reducible refine (refOf th 0 _).mono ?_); rintro ee w3 ⟨rfl, hb3⟩)
  have HO3 := Lib.hid (HO2.out.below hBK hb3)
  clear hb3
  try clear c0
  try clear c1
  try clear c2
  try clear c3
  try clear c4
  try clear c5
  try clear c6
  try clear c7
  try clear c8
  obtain ⟨c0, c1, c2, c3, c4, c5, c6, c7, c8, _⟩ := HO3.out.k.c9
  go_wp2_with fail
  ((with_reducible refine (HS.out.ldD hc (adT_at ht (f := 0) (by decide)) HV.out HO3.out.pr).mono ?_); rintro ee w4 ⟨rfl, P4, f4⟩)
  have HO4 := Lib.hid (HO3.out.fr hBm hn P4 f4)
  clear P4 f4
  try clear c0
  try clear c1
  try clear c2
  try clear c3
  try clear c4
  try clear c5
  try clear c6
  try clear c7
  try clear c8
  obtain ⟨c0, c1, c2, c3, c4, c5, c6, c7, c8, _⟩ := HO4.out.k.c9
  have z4_1 := HO4.out.k.free 1
  have HO5 := Lib.hid (HO4.out.set hBK (by simp) hn 1 (.int .i64 0) (cs' := RC true 0 th e ow b0 i k wd) rfl)
  have z5_3 := HO5.out.k.free 3
  have HO6 := Lib.hid (HO5.out.set hBK (by simp) hn 3 (.int .i64 6) (cs' := RC true 0 th 6 ow b0 i k wd) rfl)
  go_wp2_with fail
  ((try simp only [Exit.inBlock, Exit.then]); first | go_end0 | refine bodyPost_ret (results_none rfl _ _ _) rfl ?_)
  exact ⟨rfl, _, HA.out, HO6.out⟩
set_option maxRecDepth 100000 in
set_option maxHeartbeats 4000000 in
theorem l1_on (hBm : B ≤ m) (hc : c ≤ 900) (S : Say p m b n D L c M w) (h : Bk K 72 (RC true 1 th e ow b0 i k wd) w) (hBK : B ≤ K) (ht : 0 ≤ th ∧ th < 16) (hv : M.V (adT th 0) = v) (hne : v ≠ 0) :
    Calls Tryz.prog 39 #[.pointer (some ⟨K, 0, none⟩), .pointer (some ⟨b, 0, none⟩)] w (OdS B p m b n c D M.s K [K] (RC true 2 th e ow b0 i k wd) (ldM M (adT th 0)) w) := by
  have HA := Lib.hid (S.aftLd (adT th 0))
  have _ := And.intro hc hBK
  have hn := h.neP S.pr
  have hBw : B ≤ w.heap.size := Nat.le_trans hBm S.pr.m_le
  have HS := Lib.hid S
  have HO1 := Lib.hid (OD.start (E := [K]) h S.pr hBw)
  obtain ⟨c0, c1, c2, c3, c4, c5, c6, c7, c8, _⟩ := h.c9
  have HV := Lib.hid hv
  clear hv
  have hvb : (v == 0) = false := beq_eq_false_iff_ne.2 hne
  clear hne
  clear h S
  go_enter Tryz.func39, Tryz.ntmps39
  have z1_1 := HO1.out.k.free 1
  have HO2 := Lib.hid (HO1.out.set hBK (by simp) hn 1 (.int .i64 2) (cs' := RC true 2 th e ow b0 i k wd) rfl)
  go_wp2_with fail
  ((with_reducible refine (refOf th 0 _).mono ?_); rintro ee w3 ⟨rfl, hb3⟩)
  have HO3 := Lib.hid (HO2.out.below hBK hb3)
  clear hb3
  try clear c0
  try clear c1
  try clear c2
  try clear c3
  try clear c4
  try clear c5
  try clear c6
  try clear c7
  try clear c8
  obtain ⟨c0, c1, c2, c3, c4, c5, c6, c7, c8, _⟩ := HO3.out.k.c9
  go_wp2_with fail
  ((with_reducible refine (HS.out.ldD hc (adT_at ht (f := 0) (by decide)) HV.out HO3.out.pr).mono ?_); rintro ee w4 ⟨rfl, P4, f4⟩)
  have HO4 := Lib.hid (HO3.out.fr hBm hn P4 f4)
  clear P4 f4
  try clear c0
  try clear c1
  try clear c2
  try clear c3
  try clear c4
  try clear c5
  try clear c6
  try clear c7
  try clear c8
  obtain ⟨c0, c1, c2, c3, c4, c5, c6, c7, c8, _⟩ := HO4.out.k.c9
  go_wp2_with fail
  ((try simp only [Exit.inBlock, Exit.then]); first | go_end0 | refine bodyPost_ret (results_none rfl _ _ _) rfl ?_)
  exact ⟨rfl, _, HA.out, HO4.out⟩
set_option maxRecDepth 100000 in
set_option maxHeartbeats 4000000 in
theorem l2_on (hBm : B ≤ m) (hc : c ≤ 900) (S : Say p m b n D L c M w) (h : Bk K 72 (RC true 2 th e ow b0 i k wd) w) (hBK : B ≤ K) (ht : 0 ≤ th ∧ th < 16) (hv : M.V (adT th 1) = 0) :
    Calls Tryz.prog 39 #[.pointer (some ⟨K, 0, none⟩), .pointer (some ⟨b, 0, none⟩)] w (OdS B p m b n c D M.s K [K] (RC true 3 th e ow b0 i k wd) (ldM M (adT th 1)) w) := by
  have HA := Lib.hid (S.aftLd (adT th 1))
  have _ := And.intro hc hBK
  have hn := h.neP S.pr
  have hBw : B ≤ w.heap.size := Nat.le_trans hBm S.pr.m_le
  have HS := Lib.hid S
  have HO1 := Lib.hid (OD.start (E := [K]) h S.pr hBw)
  obtain ⟨c0, c1, c2, c3, c4, c5, c6, c7, c8, _⟩ := h.c9
  have HV := Lib.hid hv
  clear hv
  clear h S
  go_enter Tryz.func39, Tryz.ntmps39
  have z1_1 := HO1.out.k.free 1
  have HO2 := Lib.hid (HO1.out.set hBK (by simp) hn 1 (.int .i64 3) (cs' := RC true 3 th e ow b0 i k wd) rfl)
  go_wp2_with fail
  ((with_reducible refine (refOf th 1 _).mono ?_); rintro ee w3 ⟨rfl, hb3⟩)
  have HO3 := Lib.hid (HO2.out.below hBK hb3)
  clear hb3
  try clear c0
  try clear c1
  try clear c2
  try clear c3
  try clear c4
  try clear c5
  try clear c6
  try clear c7
  try clear c8
  obtain ⟨c0, c1, c2, c3, c4, c5, c6, c7, c8, _⟩ := HO3.out.k.c9
  go_wp2_with fail
  ((with_reducible refine (HS.out.ldD hc (adT_at ht (f := 1) (by decide)) HV.out HO3.out.pr).mono ?_); rintro ee w4 ⟨rfl, P4, f4⟩)
  have HO4 := Lib.hid (HO3.out.fr hBm hn P4 f4)
  clear P4 f4
  try clear c0
  try clear c1
  try clear c2
  try clear c3
  try clear c4
  try clear c5
  try clear c6
  try clear c7
  try clear c8
  obtain ⟨c0, c1, c2, c3, c4, c5, c6, c7, c8, _⟩ := HO4.out.k.c9
  go_wp2_with fail
  ((try simp only [Exit.inBlock, Exit.then]); first | go_end0 | refine bodyPost_ret (results_none rfl _ _ _) rfl ?_)
  exact ⟨rfl, _, HA.out, HO4.out⟩
set_option maxRecDepth 100000 in
set_option maxHeartbeats 4000000 in
theorem l2_bad (hBm : B ≤ m) (hc : c ≤ 900) (S : Say p m b n D L c M w) (h : Bk K 72 (RC true 2 th e ow b0 i k wd) w) (hBK : B ≤ K) (ht : 0 ≤ th ∧ th < 16) (hv : M.V (adT th 1) = v) (hne : v ≠ 0) :
    Calls Tryz.prog 39 #[.pointer (some ⟨K, 0, none⟩), .pointer (some ⟨b, 0, none⟩)] w (OdS B p m b n c D M.s K [K] (RC true 0 th 4 ow b0 i k wd) (ldM M (adT th 1)) w) := by
  have HA := Lib.hid (S.aftLd (adT th 1))
  have _ := And.intro hc hBK
  have hn := h.neP S.pr
  have hBw : B ≤ w.heap.size := Nat.le_trans hBm S.pr.m_le
  have HS := Lib.hid S
  have HO1 := Lib.hid (OD.start (E := [K]) h S.pr hBw)
  obtain ⟨c0, c1, c2, c3, c4, c5, c6, c7, c8, _⟩ := h.c9
  have HV := Lib.hid hv
  clear hv
  have hvb : (v == 0) = false := beq_eq_false_iff_ne.2 hne
  clear hne
  clear h S
  go_enter Tryz.func39, Tryz.ntmps39
  have z1_1 := HO1.out.k.free 1
  have HO2 := Lib.hid (HO1.out.set hBK (by simp) hn 1 (.int .i64 3) (cs' := RC true 3 th e ow b0 i k wd) rfl)
  go_wp2_with fail
  ((with_reducible refine (refOf th 1 _).mono ?_); rintro ee w3 ⟨rfl, hb3⟩)
  have HO3 := Lib.hid (HO2.out.below hBK hb3)
  clear hb3
  try clear c0
  try clear c1
  try clear c2
  try clear c3
  try clear c4
  try clear c5
  try clear c6
  try clear c7
  try clear c8
  obtain ⟨c0, c1, c2, c3, c4, c5, c6, c7, c8, _⟩ := HO3.out.k.c9
  go_wp2_with fail
  ((with_reducible refine (HS.out.ldD hc (adT_at ht (f := 1) (by decide)) HV.out HO3.out.pr).mono ?_); rintro ee w4 ⟨rfl, P4, f4⟩)
  have HO4 := Lib.hid (HO3.out.fr hBm hn P4 f4)
  clear P4 f4
  try clear c0
  try clear c1
  try clear c2
  try clear c3
  try clear c4
  try clear c5
  try clear c6
  try clear c7
  try clear c8
  obtain ⟨c0, c1, c2, c3, c4, c5, c6, c7, c8, _⟩ := HO4.out.k.c9
  have z4_1 := HO4.out.k.free 1
  have HO5 := Lib.hid (HO4.out.set hBK (by simp) hn 1 (.int .i64 0) (cs' := RC true 0 th e ow b0 i k wd) rfl)
  have z5_3 := HO5.out.k.free 3
  have HO6 := Lib.hid (HO5.out.set hBK (by simp) hn 3 (.int .i64 4) (cs' := RC true 0 th 4 ow b0 i k wd) rfl)
  go_wp2_with fail
  ((try simp only [Exit.inBlock, Exit.then]); first | go_end0 | refine bodyPost_ret (results_none rfl _ _ _) rfl ?_)
  exact ⟨rfl, _, HA.out, HO6.out⟩
set_option maxRecDepth 100000 in
set_option maxHeartbeats 4000000 in
theorem l3 (hBm : B ≤ m) (hc : c ≤ 900) (S : Say p m b n D L c M w) (h : Bk K 72 (RC true 3 th e ow b0 i k wd) w) (hBK : B ≤ K) (ht : 0 ≤ th ∧ th < 16) :
    Calls Tryz.prog 39 #[.pointer (some ⟨K, 0, none⟩), .pointer (some ⟨b, 0, none⟩)] w (OdS B p m b n c D M.s K [K] (RC true 4 th e ow b0 i k wd) (stM M (adT th 6) 0) w) := by
  have HA := Lib.hid (S.aftSt (adT th 6) 0)
  have _ := And.intro hc hBK
  have hn := h.neP S.pr
  have hBw : B ≤ w.heap.size := Nat.le_trans hBm S.pr.m_le
  have HS := Lib.hid S
  have HO1 := Lib.hid (OD.start (E := [K]) h S.pr hBw)
  obtain ⟨c0, c1, c2, c3, c4, c5, c6, c7, c8, _⟩ := h.c9
  clear h S
  go_enter Tryz.func39, Tryz.ntmps39
  go_wp2_with fail
  ((with_reducible refine (refOf th 6 _).mono ?_); rintro ee w3 ⟨rfl, hb3⟩)
  have HO2 := Lib.hid (HO1.out.below hBK hb3)
  clear hb3
  try clear c0
  try clear c1
  try clear c2
  try clear c3
  try clear c4
  try clear c5
  try clear c6
  try clear c7
  try clear c8
  obtain ⟨c0, c1, c2, c3, c4, c5, c6, c7, c8, _⟩ := HO2.out.k.c9
  go_wp2_with fail
  ((with_reducible refine (HS.out.stD hc (adT_at ht (f := 6) (by decide)) 0 HO2.out.pr).mono ?_); rintro ee w4 ⟨rfl, P4, f4⟩)
  have HO3 := Lib.hid (HO2.out.fr hBm hn P4 f4)
  clear P4 f4
  try clear c0
  try clear c1
  try clear c2
  try clear c3
  try clear c4
  try clear c5
  try clear c6
  try clear c7
  try clear c8
  obtain ⟨c0, c1, c2, c3, c4, c5, c6, c7, c8, _⟩ := HO3.out.k.c9
  have z3_1 := HO3.out.k.free 1
  have HO4 := Lib.hid (HO3.out.set hBK (by simp) hn 1 (.int .i64 4) (cs' := RC true 4 th e ow b0 i k wd) rfl)
  go_wp2_with fail
  ((try simp only [Exit.inBlock, Exit.then]); first | go_end0 | refine bodyPost_ret (results_none rfl _ _ _) rfl ?_)
  exact ⟨rfl, _, HA.out, HO4.out⟩
set_option maxRecDepth 100000 in
set_option maxHeartbeats 4000000 in
theorem l4 (hBm : B ≤ m) (hc : c ≤ 900) (S : Say p m b n D L c M w) (h : Bk K 72 (RC true 4 th e ow b0 i k wd) w) (hBK : B ≤ K) (ht : 0 ≤ th ∧ th < 16) :
    Calls Tryz.prog 39 #[.pointer (some ⟨K, 0, none⟩), .pointer (some ⟨b, 0, none⟩)] w (OdS B p m b n c D M.s K [K] (RC true 5 th e ow b0 i k wd) (stM M (adT th 0) 0) w) := by
  have HA := Lib.hid (S.aftSt (adT th 0) 0)
  have _ := And.intro hc hBK
  have hn := h.neP S.pr
  have hBw : B ≤ w.heap.size := Nat.le_trans hBm S.pr.m_le
  have HS := Lib.hid S
  have HO1 := Lib.hid (OD.start (E := [K]) h S.pr hBw)
  obtain ⟨c0, c1, c2, c3, c4, c5, c6, c7, c8, _⟩ := h.c9
  clear h S
  go_enter Tryz.func39, Tryz.ntmps39
  go_wp2_with fail
  ((with_reducible refine (refOf th 0 _).mono ?_); rintro ee w3 ⟨rfl, hb3⟩)
  have HO2 := Lib.hid (HO1.out.below hBK hb3)
  clear hb3
  try clear c0
  try clear c1
  try clear c2
  try clear c3
  try clear c4
  try clear c5
  try clear c6
  try clear c7
  try clear c8
  obtain ⟨c0, c1, c2, c3, c4, c5, c6, c7, c8, _⟩ := HO2.out.k.c9
  go_wp2_with fail
  ((with_reducible refine (HS.out.stD hc (adT_at ht (f := 0) (by decide)) 0 HO2.out.pr).mono ?_); rintro ee w4 ⟨rfl, P4, f4⟩)
  have HO3 := Lib.hid (HO2.out.fr hBm hn P4 f4)
  clear P4 f4
  try clear c0
  try clear c1
  try clear c2
  try clear c3
  try clear c4
  try clear c5
  try clear c6
  try clear c7
  try clear c8
  obtain ⟨c0, c1, c2, c3, c4, c5, c6, c7, c8, _⟩ := HO3.out.k.c9
  have z3_1 := HO3.out.k.free 1
  have HO4 := Lib.hid (HO3.out.set hBK (by simp) hn 1 (.int .i64 5) (cs' := RC true 5 th e ow b0 i k wd) rfl)
  go_wp2_with fail
  ((try simp only [Exit.inBlock, Exit.then]); first | go_end0 | refine bodyPost_ret (results_none rfl _ _ _) rfl ?_)
  exact ⟨rfl, _, HA.out, HO4.out⟩
set_option maxRecDepth 100000 in
set_option maxHeartbeats 4000000 in
theorem r0 (hBm : B ≤ m) (hc : c ≤ 900) (S : Say p m b n D L c M w) (h : Bk K 72 (RC false 0 th e ow b0 i k wd) w) (hBK : B ≤ K) :
    Calls Tryz.prog 22 #[.pointer (some ⟨K, 0, none⟩), .pointer (some ⟨b, 0, none⟩)] w (OdS B p m b n c D M.s K [K] (RC false 0 th e ow b0 i k wd) (M) w) := by
  have HA := Lib.hid (S.aft)
  have _ := And.intro hc hBK
  have hn := h.neP S.pr
  have hBw : B ≤ w.heap.size := Nat.le_trans hBm S.pr.m_le
  have HS := Lib.hid S
  have HO1 := Lib.hid (OD.start (E := [K]) h S.pr hBw)
  obtain ⟨c0, c1, c2, c3, c4, c5, c6, c7, c8, _⟩ := h.c9
  clear h S
  go_enter Tryz.func22, Tryz.ntmps22
  go_wp2_with fail
  ((try simp only [Exit.inBlock, Exit.then]); first | go_end0 | refine bodyPost_ret (results_none rfl _ _ _) rfl ?_)
  exact ⟨rfl, _, HA.out, HO1.out⟩
set_option maxRecDepth 100000 in
set_option maxHeartbeats 4000000 in
theorem l0 (hBm : B ≤ m) (hc : c ≤ 900) (S : Say p m b n D L c M w) (h : Bk K 72 (RC true 0 th e ow b0 i k wd) w) (hBK : B ≤ K) :
    Calls Tryz.prog 39 #[.pointer (some ⟨K, 0, none⟩), .pointer (some ⟨b, 0, none⟩)] w (OdS B p m b n c D M.s K [K] (RC true 0 th e ow b0 i k wd) (M) w) := by
  have HA := Lib.hid (S.aft)
  have _ := And.intro hc hBK
  have hn := h.neP S.pr
  have hBw : B ≤ w.heap.size := Nat.le_trans hBm S.pr.m_le
  have HS := Lib.hid S
  have HO1 := Lib.hid (OD.start (E := [K]) h S.pr hBw)
  obtain ⟨c0, c1, c2, c3, c4, c5, c6, c7, c8, _⟩ := h.c9
  clear h S
  go_enter Tryz.func39, Tryz.ntmps39
  go_wp2_with fail
  ((try simp only [Exit.inBlock, Exit.then]); first | go_end0 | refine bodyPost_ret (results_none rfl _ _ _) rfl ?_)
  exact ⟨rfl, _, HA.out, HO1.out⟩
set_option maxRecDepth 100000 in
set_option maxHeartbeats 4000000 in
theorem st_leave {Q : Ending → World → Prop} (h : Bk K 72 (RC true ln th e ow b0 i k wd) w) (H : Calls Tryz.prog 39 #[.pointer (some ⟨K, 0, none⟩), .pointer (some ⟨b, 0, none⟩)] w Q) (hQ : ∀ ee w', Q ee w' → ee = .returned (.tuple #[])) :
    Calls Tryz.prog 22 #[.pointer (some ⟨K, 0, none⟩), .pointer (some ⟨b, 0, none⟩)] w Q := by
  obtain ⟨c0, c1, c2, c3, c4, c5, c6, c7, c8, _⟩ := h.c9
  have HH := Lib.hid H
  have HQ := Lib.hid hQ
  clear h H hQ
  go_enter Tryz.func22, Tryz.ntmps22
  go_wp2_with fail
  refine HH.out.mono ?_
  intro ee w1 h1
  have h2 := HQ.out _ _ h1
  subst h2
  have HX := Lib.hid h1
  clear h1
  go_wp2_with fail
  ((try simp only [Exit.inBlock, Exit.then]); first | go_end0 | refine bodyPost_ret (results_none rfl _ _ _) rfl ?_)
  exact HX.out
end
end Go.Proofs.YtodfjnpnfalioaaGreatDoor
