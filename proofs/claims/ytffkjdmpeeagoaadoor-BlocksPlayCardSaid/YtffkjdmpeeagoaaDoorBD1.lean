/-
  The document's More and Less of layer 11, line by line; condition: both memories say the same, the operation lies as it says, numbers of their kinds.
-/
import Derived.Test.YtffkjdmpeeagoaaDoorBD0
import Derived.Test.YtffkjdmpeeagoaaDoorBP1
import Derived.Deep.RegionHeld3
import Derived.Deep.DeepCutAuto
namespace Go.Proofs.YtffkjdmpeeagoaaDoor
open Go.RowKit Go.Maps

/-- The document's operation, as it lies. -/
def RB (lv : Bool) (ln e b : Int) : List Value := [.bool lv, .int .i64 ln, .int .i64 e, .int .u64 b]
def BO.cells (o : BO) : List Value := RB o.lv o.ln o.e o.b
theorem wrapiB {x : Int} (h0 : 0 ≤ x) (h1 : x < 1000) : IntKind.i64.wrap x = x := by simp [IntKind.wrap, IntKind.bits, IntKind.signed]; omega
theorem wrapuB {x : Int} (h0 : 0 ≤ x) (h1 : x < 18446744073709551616) : IntKind.u64.wrap x = x := by simp [IntKind.wrap, IntKind.bits, IntKind.signed]; omega
theorem adN_is : adN.k = 5 ∧ adN.a = 0 ∧ adN.f = 0 := ⟨rfl, rfl, rfl⟩
section
variable {B p m b n K g bb c : Nat} {lv : Bool} {ln e wd v : Int} {D : DataW Unit} {s r r' : Acc8} {L L' : List (Ad × Int)} {M : MV} {E : List Nat} {w w' w0 w1 : World} {cs cs' : List Value}
theorem Bk.c4 (h : Bk K 99 (RB lv ln e wd) w) : w.cell? ⟨K, 0, none⟩ = some (.bool lv) ∧ w.cell? ⟨K, 1, none⟩ = some (.int .i64 ln) ∧ w.cell? ⟨K, 2, none⟩ = some (.int .i64 e) ∧ w.cell? ⟨K, 3, none⟩ = some (.int .u64 wd) := ⟨h.cell 0, h.cell 1, h.cell 2, h.cell 3⟩
theorem Bk.neQ (h : Bk K 99 cs w) (P : Pr p m b n D s L r w) : K ≠ p ∧ K ≠ b := by
  obtain ⟨v, hr⟩ := P.ref
  constructor
  · rintro rfl
    have := P.prog.blk.symm.trans h
    simp only [Option.some.injEq, Obj.cells.injEq] at this
    exact absurd this.2.1 (by decide)
  · rintro rfl
    have := hr.blk.symm.trans h
    simp only [Option.some.injEq, Obj.cells.injEq] at this
    exact absurd this.2.1 (by decide)
/-- .. and the address of a row that the step made itself. -/
structure OE (B p m b n : Nat) (D : DataW Unit) (s : Acc8) (K : Nat) (E : List Nat) (g : Nat) (cs : List Value) (L : List (Ad × Int)) (r : Acc8) (w0 w : World) : Prop where
  od : OD B p m b n D s K E cs L r w0 w
  ga : Bk g 34 [.int .u8 5, .int .i64 0, .int .i64 0] w
  gp : g ≠ p ∧ g ≠ b
  gK : g ≠ K
theorem OE.below (h : OE B p m b n D s K E g cs L r w0 w) (hBK : B ≤ K) (hb : Below w.heap.size w w') : OE B p m b n D s K E g cs L r w0 w' := ⟨h.od.below hBK hb, h.ga.below hb, h.gp, h.gK⟩
theorem OE.fr (h : OE B p m b n D s K E g cs L r w0 w) (hBm : B ≤ m) (hn : K ≠ p ∧ K ≠ b) (P : Pr p m b n D s L' r' w') (f : Fr p m b w w') : OE B p m b n D s K E g cs L' r' w0 w' := ⟨h.od.fr hBm hn P f, h.ga.fr f (by decide) h.gp.1 h.gp.2, h.gp, h.gK⟩
theorem OE.set (h : OE B p m b n D s K E g cs L r w0 w) (hBK : B ≤ K) (hE : K ∈ E) (hn : K ≠ p ∧ K ≠ b) (i : Nat) (v : Value) (e : cs' = cs.set i v) : OE B p m b n D s K E g cs' L r w0 (w.setCell ⟨K, i, none⟩ v) := ⟨h.od.set hBK hE hn i v e, h.ga.same (Below.heap_setCell w ⟨K, i, none⟩ v g h.gK), h.gp, h.gK⟩
theorem OE.start (k : Bk K 99 cs w) (P : Pr p m b n D s L M.s w) (hB : B ≤ w.heap.size) : OE B p m b n D s K [K] w.heap.size cs L M.s w (w.alloc (.cells #[.int .u8 5, .int .i64 0, .int .i64 0] 34)) := by
  have hb : Below w.heap.size w (w.alloc (.cells #[.int .u8 5, .int .i64 0, .int .i64 0] 34)) := (Below.refl _ _).alloc (Nat.le_refl _) _
  have hK := k.lt
  obtain ⟨⟨cp, kp⟩, ⟨cb, kb⟩, _⟩ := P.blocks
  have hp := kp.lt
  have hbb := kb.lt
  have od0 := OD.start (B := B) (E := [K]) k P hB
  exact ⟨⟨k.below hb, P.below hb, od0.f.trans (.of_below hb hB)⟩, Bk.new w _ _, ⟨by omega, by omega⟩, by omega⟩
theorem OE.a3 (h : OE B p m b n D s K E g cs L r w0 w) : w.cell? ⟨g, 0, none⟩ = some (.int .u8 5) ∧ w.cell? ⟨g, 1, none⟩ = some (.int .i64 0) ∧ w.cell? ⟨g, 2, none⟩ = some (.int .i64 0) := ⟨h.ga.cell 0, h.ga.cell 1, h.ga.cell 2⟩
theorem end_r (h : Bk K 99 (RB lv ln e wd) w) (x : Int) : Calls Tryd.prog 69 #[.pointer (some ⟨K, 0, none⟩), .int .i64 x] w fun ee w' => ee = .returned (.tuple #[]) ∧ w' = (w.setCell ⟨K, 1, none⟩ (.int .i64 0)).setCell ⟨K, 2, none⟩ (.int .i64 x) := by
  obtain ⟨c0, c1, c2, c3⟩ := h.c4
  have z1 := h.free 1
  have h2 := h.set 1 (.int .i64 0) rfl
  have z2 := h2.free 2
  have d2 := h2.cell 2
  clear h h2
  go_enter Tryd.func69, Tryd.ntmps69
  go_wp2_with fail
  ((try simp only [Exit.inBlock, Exit.then]); first | go_end0 | refine bodyPost_ret (results_none rfl _ _ _) rfl ?_)
  exact ⟨rfl, rfl⟩
set_option maxRecDepth 100000 in
set_option maxHeartbeats 4000000 in
theorem bm1_full (hBm : B ≤ m) (hc : c ≤ 900) (S : Say p m b n D L c M w) (h : Bk K 99 (RB false 1 e wd) w) (hBK : B ≤ K) (hv : M.V adN = v) (h4 : 4 ≤ v) :
    Calls Tryd.prog 42 #[.pointer (some ⟨K, 0, none⟩), .pointer (some ⟨b, 0, none⟩)] w (OdS B p m b n c D M.s K [K] (RB false 0 5 v) (ldM M adN) w) := by
  have HA := Lib.hid (S.aftLd adN)
  have _ := And.intro hc hBK
  have hn := h.neQ S.pr
  have hBw : B ≤ w.heap.size := Nat.le_trans hBm S.pr.m_le
  have HS := Lib.hid S
  have HX := Lib.hid (OE.start h S.pr hBw)
  have hk0 : ∀ w : World, Calls Tryd.prog 67 #[.int .u32 0, .bool false] w fun e w' => e = .returned (.int .u64 opnW) ∧ w' = w := fun w => block30_any 0 false w (show U32 0 from ⟨by decide, by decide⟩)
  have hk1 : ∀ w : World, Calls Tryd.prog 67 #[.int .u32 0, .bool true] w fun e w' => e = .returned (.int .u64 cldW) ∧ w' = w := fun w => block30_any 0 true w (show U32 0 from ⟨by decide, by decide⟩)
  have HV := Lib.hid hv
  clear hv
  clear h S
  go_enter Tryd.func42, Tryd.ntmps42
  go_upto_region 1 with (fail)
  revert HX
  generalize w.alloc (.cells #[.int .u8 5, .int .i64 0, .int .i64 0] 34) = X
  generalize w.heap.size = g
  intro HO1
  go_wp2_with fail
  ((with_reducible refine (hk0 _).mono ?_); rintro ee wk ⟨rfl, hwk⟩)
  subst hwk
  go_wp2_with fail
  ((with_reducible refine (hk1 _).mono ?_); rintro ee wk ⟨rfl, hwk⟩)
  subst hwk
  clear hk0 hk1
  obtain ⟨c0, c1, c2, c3⟩ := HO1.out.od.k.c4
  obtain ⟨a0, a1, a2⟩ := HO1.out.a3
  go_wp2_with fail
  ((with_reducible refine (HS.out.ldD hc adN_is HV.out HO1.out.od.pr).mono ?_); rintro ee w4 ⟨rfl, P4, f4⟩)
  have HO2 := Lib.hid (HO1.out.fr hBm hn P4 f4)
  clear P4 f4
  try clear c0
  try clear c1
  try clear c2
  try clear c3
  try clear a0
  try clear a1
  try clear a2
  obtain ⟨c0, c1, c2, c3⟩ := HO2.out.od.k.c4
  obtain ⟨a0, a1, a2⟩ := HO2.out.a3
  have z2_3 := HO2.out.od.k.free 3
  have HO3 := Lib.hid (HO2.out.set hBK (by simp) hn 3 (.int .u64 v) (cs' := RB false 1 e v) rfl)
  have z3_1 := HO3.out.od.k.free 1
  have HO4 := Lib.hid (HO3.out.set hBK (by simp) hn 1 (.int .i64 2) (cs' := RB false 2 e v) rfl)
  go_wp2_with fail
  ((with_reducible refine (end_r HO4.out.od.k 5).mono ?_); rintro ee w5 ⟨rfl, hw5⟩)
  subst hw5
  have z4_1 := HO4.out.od.k.free 1
  have HO5 := Lib.hid (HO4.out.set hBK (by simp) hn 1 (.int .i64 0) (cs' := RB false 0 e v) rfl)
  have z5_2 := HO5.out.od.k.free 2
  have HO6 := Lib.hid (HO5.out.set hBK (by simp) hn 2 (.int .i64 5) (cs' := RB false 0 5 v) rfl)
  go_wp2_with fail
  ((try simp only [Exit.inBlock, Exit.then]); first | go_end0 | refine bodyPost_ret (results_none rfl _ _ _) rfl ?_)
  exact ⟨rfl, _, HA.out, HO6.out.od⟩
set_option maxRecDepth 100000 in
set_option maxHeartbeats 4000000 in
theorem bm1_go (hBm : B ≤ m) (hc : c ≤ 900) (S : Say p m b n D L c M w) (h : Bk K 99 (RB false 1 e wd) w) (hBK : B ≤ K) (hv : M.V adN = v) (h4 : ¬ 4 ≤ v) :
    Calls Tryd.prog 42 #[.pointer (some ⟨K, 0, none⟩), .pointer (some ⟨b, 0, none⟩)] w (OdS B p m b n c D M.s K [K] (RB false 2 e v) (ldM M adN) w) := by
  have HA := Lib.hid (S.aftLd adN)
  have _ := And.intro hc hBK
  have hn := h.neQ S.pr
  have hBw : B ≤ w.heap.size := Nat.le_trans hBm S.pr.m_le
  have HS := Lib.hid S
  have HX := Lib.hid (OE.start h S.pr hBw)
  have hk0 : ∀ w : World, Calls Tryd.prog 67 #[.int .u32 0, .bool false] w fun e w' => e = .returned (.int .u64 opnW) ∧ w' = w := fun w => block30_any 0 false w (show U32 0 from ⟨by decide, by decide⟩)
  have hk1 : ∀ w : World, Calls Tryd.prog 67 #[.int .u32 0, .bool true] w fun e w' => e = .returned (.int .u64 cldW) ∧ w' = w := fun w => block30_any 0 true w (show U32 0 from ⟨by decide, by decide⟩)
  have HV := Lib.hid hv
  clear hv
  clear h S
  go_enter Tryd.func42, Tryd.ntmps42
  go_upto_region 1 with (fail)
  revert HX
  generalize w.alloc (.cells #[.int .u8 5, .int .i64 0, .int .i64 0] 34) = X
  generalize w.heap.size = g
  intro HO1
  go_wp2_with fail
  ((with_reducible refine (hk0 _).mono ?_); rintro ee wk ⟨rfl, hwk⟩)
  subst hwk
  go_wp2_with fail
  ((with_reducible refine (hk1 _).mono ?_); rintro ee wk ⟨rfl, hwk⟩)
  subst hwk
  clear hk0 hk1
  obtain ⟨c0, c1, c2, c3⟩ := HO1.out.od.k.c4
  obtain ⟨a0, a1, a2⟩ := HO1.out.a3
  go_wp2_with fail
  ((with_reducible refine (HS.out.ldD hc adN_is HV.out HO1.out.od.pr).mono ?_); rintro ee w4 ⟨rfl, P4, f4⟩)
  have HO2 := Lib.hid (HO1.out.fr hBm hn P4 f4)
  clear P4 f4
  try clear c0
  try clear c1
  try clear c2
  try clear c3
  try clear a0
  try clear a1
  try clear a2
  obtain ⟨c0, c1, c2, c3⟩ := HO2.out.od.k.c4
  obtain ⟨a0, a1, a2⟩ := HO2.out.a3
  have z2_3 := HO2.out.od.k.free 3
  have HO3 := Lib.hid (HO2.out.set hBK (by simp) hn 3 (.int .u64 v) (cs' := RB false 1 e v) rfl)
  have z3_1 := HO3.out.od.k.free 1
  have HO4 := Lib.hid (HO3.out.set hBK (by simp) hn 1 (.int .i64 2) (cs' := RB false 2 e v) rfl)
  go_wp2_with fail
  ((try simp only [Exit.inBlock, Exit.then]); first | go_end0 | refine bodyPost_ret (results_none rfl _ _ _) rfl ?_)
  exact ⟨rfl, _, HA.out, HO4.out.od⟩
set_option maxRecDepth 100000 in
set_option maxHeartbeats 4000000 in
theorem bl1_one (hBm : B ≤ m) (hc : c ≤ 900) (S : Say p m b n D L c M w) (h : Bk K 99 (RB true 1 e wd) w) (hBK : B ≤ K) (hv : M.V adN = v) (h1 : v ≤ 1) :
    Calls Tryd.prog 42 #[.pointer (some ⟨K, 0, none⟩), .pointer (some ⟨b, 0, none⟩)] w (OdS B p m b n c D M.s K [K] (RB true 0 4 v) (ldM M adN) w) := by
  have HA := Lib.hid (S.aftLd adN)
  have _ := And.intro hc hBK
  have hn := h.neQ S.pr
  have hBw : B ≤ w.heap.size := Nat.le_trans hBm S.pr.m_le
  have HS := Lib.hid S
  have HX := Lib.hid (OE.start h S.pr hBw)
  have hk0 : ∀ w : World, Calls Tryd.prog 67 #[.int .u32 0, .bool false] w fun e w' => e = .returned (.int .u64 opnW) ∧ w' = w := fun w => block30_any 0 false w (show U32 0 from ⟨by decide, by decide⟩)
  have hk1 : ∀ w : World, Calls Tryd.prog 67 #[.int .u32 0, .bool true] w fun e w' => e = .returned (.int .u64 cldW) ∧ w' = w := fun w => block30_any 0 true w (show U32 0 from ⟨by decide, by decide⟩)
  have HV := Lib.hid hv
  clear hv
  clear h S
  go_enter Tryd.func42, Tryd.ntmps42
  go_upto_region 1 with (fail)
  revert HX
  generalize w.alloc (.cells #[.int .u8 5, .int .i64 0, .int .i64 0] 34) = X
  generalize w.heap.size = g
  intro HO1
  go_wp2_with fail
  ((with_reducible refine (hk0 _).mono ?_); rintro ee wk ⟨rfl, hwk⟩)
  subst hwk
  go_wp2_with fail
  ((with_reducible refine (hk1 _).mono ?_); rintro ee wk ⟨rfl, hwk⟩)
  subst hwk
  clear hk0 hk1
  obtain ⟨c0, c1, c2, c3⟩ := HO1.out.od.k.c4
  obtain ⟨a0, a1, a2⟩ := HO1.out.a3
  go_wp2_with fail
  ((with_reducible refine (HS.out.ldD hc adN_is HV.out HO1.out.od.pr).mono ?_); rintro ee w4 ⟨rfl, P4, f4⟩)
  have HO2 := Lib.hid (HO1.out.fr hBm hn P4 f4)
  clear P4 f4
  try clear c0
  try clear c1
  try clear c2
  try clear c3
  try clear a0
  try clear a1
  try clear a2
  obtain ⟨c0, c1, c2, c3⟩ := HO2.out.od.k.c4
  obtain ⟨a0, a1, a2⟩ := HO2.out.a3
  have z2_3 := HO2.out.od.k.free 3
  have HO3 := Lib.hid (HO2.out.set hBK (by simp) hn 3 (.int .u64 v) (cs' := RB true 1 e v) rfl)
  have z3_1 := HO3.out.od.k.free 1
  have HO4 := Lib.hid (HO3.out.set hBK (by simp) hn 1 (.int .i64 2) (cs' := RB true 2 e v) rfl)
  go_wp2_with fail
  ((with_reducible refine (end_r HO4.out.od.k 4).mono ?_); rintro ee w5 ⟨rfl, hw5⟩)
  subst hw5
  have z4_1 := HO4.out.od.k.free 1
  have HO5 := Lib.hid (HO4.out.set hBK (by simp) hn 1 (.int .i64 0) (cs' := RB true 0 e v) rfl)
  have z5_2 := HO5.out.od.k.free 2
  have HO6 := Lib.hid (HO5.out.set hBK (by simp) hn 2 (.int .i64 4) (cs' := RB true 0 4 v) rfl)
  go_wp2_with fail
  ((try simp only [Exit.inBlock, Exit.then]); first | go_end0 | refine bodyPost_ret (results_none rfl _ _ _) rfl ?_)
  exact ⟨rfl, _, HA.out, HO6.out.od⟩
set_option maxRecDepth 100000 in
set_option maxHeartbeats 4000000 in
theorem bl1_many (hBm : B ≤ m) (hc : c ≤ 900) (S : Say p m b n D L c M w) (h : Bk K 99 (RB true 1 e wd) w) (hBK : B ≤ K) (hv : M.V adN = v) (_h1 : ¬ v ≤ 1) (h4 : 4 < v) :
    Calls Tryd.prog 42 #[.pointer (some ⟨K, 0, none⟩), .pointer (some ⟨b, 0, none⟩)] w (OdS B p m b n c D M.s K [K] (RB true 0 1 v) (ldM M adN) w) := by
  have HA := Lib.hid (S.aftLd adN)
  have _ := And.intro hc hBK
  have hn := h.neQ S.pr
  have hBw : B ≤ w.heap.size := Nat.le_trans hBm S.pr.m_le
  have HS := Lib.hid S
  have HX := Lib.hid (OE.start h S.pr hBw)
  have hk0 : ∀ w : World, Calls Tryd.prog 67 #[.int .u32 0, .bool false] w fun e w' => e = .returned (.int .u64 opnW) ∧ w' = w := fun w => block30_any 0 false w (show U32 0 from ⟨by decide, by decide⟩)
  have hk1 : ∀ w : World, Calls Tryd.prog 67 #[.int .u32 0, .bool true] w fun e w' => e = .returned (.int .u64 cldW) ∧ w' = w := fun w => block30_any 0 true w (show U32 0 from ⟨by decide, by decide⟩)
  have HV := Lib.hid hv
  clear hv
  clear h S
  go_enter Tryd.func42, Tryd.ntmps42
  go_upto_region 1 with (fail)
  revert HX
  generalize w.alloc (.cells #[.int .u8 5, .int .i64 0, .int .i64 0] 34) = X
  generalize w.heap.size = g
  intro HO1
  go_wp2_with fail
  ((with_reducible refine (hk0 _).mono ?_); rintro ee wk ⟨rfl, hwk⟩)
  subst hwk
  go_wp2_with fail
  ((with_reducible refine (hk1 _).mono ?_); rintro ee wk ⟨rfl, hwk⟩)
  subst hwk
  clear hk0 hk1
  obtain ⟨c0, c1, c2, c3⟩ := HO1.out.od.k.c4
  obtain ⟨a0, a1, a2⟩ := HO1.out.a3
  go_wp2_with fail
  ((with_reducible refine (HS.out.ldD hc adN_is HV.out HO1.out.od.pr).mono ?_); rintro ee w4 ⟨rfl, P4, f4⟩)
  have HO2 := Lib.hid (HO1.out.fr hBm hn P4 f4)
  clear P4 f4
  try clear c0
  try clear c1
  try clear c2
  try clear c3
  try clear a0
  try clear a1
  try clear a2
  obtain ⟨c0, c1, c2, c3⟩ := HO2.out.od.k.c4
  obtain ⟨a0, a1, a2⟩ := HO2.out.a3
  have z2_3 := HO2.out.od.k.free 3
  have HO3 := Lib.hid (HO2.out.set hBK (by simp) hn 3 (.int .u64 v) (cs' := RB true 1 e v) rfl)
  have z3_1 := HO3.out.od.k.free 1
  have HO4 := Lib.hid (HO3.out.set hBK (by simp) hn 1 (.int .i64 2) (cs' := RB true 2 e v) rfl)
  go_wp2_with fail
  ((with_reducible refine (end_r HO4.out.od.k 1).mono ?_); rintro ee w5 ⟨rfl, hw5⟩)
  subst hw5
  have z4_1 := HO4.out.od.k.free 1
  have HO5 := Lib.hid (HO4.out.set hBK (by simp) hn 1 (.int .i64 0) (cs' := RB true 0 e v) rfl)
  have z5_2 := HO5.out.od.k.free 2
  have HO6 := Lib.hid (HO5.out.set hBK (by simp) hn 2 (.int .i64 1) (cs' := RB true 0 1 v) rfl)
  go_wp2_with fail
  ((try simp only [Exit.inBlock, Exit.then]); first | go_end0 | refine bodyPost_ret (results_none rfl _ _ _) rfl ?_)
  exact ⟨rfl, _, HA.out, HO6.out.od⟩
set_option maxRecDepth 100000 in
set_option maxHeartbeats 4000000 in
theorem bl1_go (hBm : B ≤ m) (hc : c ≤ 900) (S : Say p m b n D L c M w) (h : Bk K 99 (RB true 1 e wd) w) (hBK : B ≤ K) (hv : M.V adN = v) (h1 : ¬ v ≤ 1) (h4 : ¬ 4 < v) :
    Calls Tryd.prog 42 #[.pointer (some ⟨K, 0, none⟩), .pointer (some ⟨b, 0, none⟩)] w (OdS B p m b n c D M.s K [K] (RB true 2 e v) (ldM M adN) w) := by
  have HA := Lib.hid (S.aftLd adN)
  have _ := And.intro hc hBK
  have hn := h.neQ S.pr
  have hBw : B ≤ w.heap.size := Nat.le_trans hBm S.pr.m_le
  have HS := Lib.hid S
  have HX := Lib.hid (OE.start h S.pr hBw)
  have hk0 : ∀ w : World, Calls Tryd.prog 67 #[.int .u32 0, .bool false] w fun e w' => e = .returned (.int .u64 opnW) ∧ w' = w := fun w => block30_any 0 false w (show U32 0 from ⟨by decide, by decide⟩)
  have hk1 : ∀ w : World, Calls Tryd.prog 67 #[.int .u32 0, .bool true] w fun e w' => e = .returned (.int .u64 cldW) ∧ w' = w := fun w => block30_any 0 true w (show U32 0 from ⟨by decide, by decide⟩)
  have HV := Lib.hid hv
  clear hv
  clear h S
  go_enter Tryd.func42, Tryd.ntmps42
  go_upto_region 1 with (fail)
  revert HX
  generalize w.alloc (.cells #[.int .u8 5, .int .i64 0, .int .i64 0] 34) = X
  generalize w.heap.size = g
  intro HO1
  go_wp2_with fail
  ((with_reducible refine (hk0 _).mono ?_); rintro ee wk ⟨rfl, hwk⟩)
  subst hwk
  go_wp2_with fail
  ((with_reducible refine (hk1 _).mono ?_); rintro ee wk ⟨rfl, hwk⟩)
  subst hwk
  clear hk0 hk1
  obtain ⟨c0, c1, c2, c3⟩ := HO1.out.od.k.c4
  obtain ⟨a0, a1, a2⟩ := HO1.out.a3
  go_wp2_with fail
  ((with_reducible refine (HS.out.ldD hc adN_is HV.out HO1.out.od.pr).mono ?_); rintro ee w4 ⟨rfl, P4, f4⟩)
  have HO2 := Lib.hid (HO1.out.fr hBm hn P4 f4)
  clear P4 f4
  try clear c0
  try clear c1
  try clear c2
  try clear c3
  try clear a0
  try clear a1
  try clear a2
  obtain ⟨c0, c1, c2, c3⟩ := HO2.out.od.k.c4
  obtain ⟨a0, a1, a2⟩ := HO2.out.a3
  have z2_3 := HO2.out.od.k.free 3
  have HO3 := Lib.hid (HO2.out.set hBK (by simp) hn 3 (.int .u64 v) (cs' := RB true 1 e v) rfl)
  have z3_1 := HO3.out.od.k.free 1
  have HO4 := Lib.hid (HO3.out.set hBK (by simp) hn 1 (.int .i64 2) (cs' := RB true 2 e v) rfl)
  go_wp2_with fail
  ((try simp only [Exit.inBlock, Exit.then]); first | go_end0 | refine bodyPost_ret (results_none rfl _ _ _) rfl ?_)
  exact ⟨rfl, _, HA.out, HO4.out.od⟩
set_option maxRecDepth 100000 in
set_option maxHeartbeats 4000000 in
theorem bm2_yes (hBm : B ≤ m) (hc : c ≤ 900) (S : Say p m b n D L c M w) (h : Bk K 99 (RB false 2 e wd) w) (hBK : B ≤ K) (hb : 0 ≤ wd ∧ wd < 4) (hcs : casV M.V adN wd = true) :
    Calls Tryd.prog 42 #[.pointer (some ⟨K, 0, none⟩), .pointer (some ⟨b, 0, none⟩)] w (OdS B p m b n c D M.s K [K] (RB false 3 e wd) (csM M adN wd (wd + 1)) w) := by
  have HA := Lib.hid (S.aftCs adN wd (wd + 1))
  have _ := And.intro hc hBK
  have hn := h.neQ S.pr
  have hBw : B ≤ w.heap.size := Nat.le_trans hBm S.pr.m_le
  have HS := Lib.hid S
  have HX := Lib.hid (OE.start h S.pr hBw)
  have hk0 : ∀ w : World, Calls Tryd.prog 67 #[.int .u32 0, .bool false] w fun e w' => e = .returned (.int .u64 opnW) ∧ w' = w := fun w => block30_any 0 false w (show U32 0 from ⟨by decide, by decide⟩)
  have hk1 : ∀ w : World, Calls Tryd.prog 67 #[.int .u32 0, .bool true] w fun e w' => e = .returned (.int .u64 cldW) ∧ w' = w := fun w => block30_any 0 true w (show U32 0 from ⟨by decide, by decide⟩)
  have HC := Lib.hid hcs
  clear hcs
  have hw1 := wrapuB (x := wd + 1) (by omega) (by omega)
  clear h S
  go_enter Tryd.func42, Tryd.ntmps42
  go_upto_region 1 with (fail)
  revert HX
  generalize w.alloc (.cells #[.int .u8 5, .int .i64 0, .int .i64 0] 34) = X
  generalize w.heap.size = g
  intro HO1
  go_wp2_with fail
  ((with_reducible refine (hk0 _).mono ?_); rintro ee wk ⟨rfl, hwk⟩)
  subst hwk
  go_wp2_with fail
  ((with_reducible refine (hk1 _).mono ?_); rintro ee wk ⟨rfl, hwk⟩)
  subst hwk
  clear hk0 hk1
  obtain ⟨c0, c1, c2, c3⟩ := HO1.out.od.k.c4
  obtain ⟨a0, a1, a2⟩ := HO1.out.a3
  have z1_1 := HO1.out.od.k.free 1
  have HO2 := Lib.hid (HO1.out.set hBK (by simp) hn 1 (.int .i64 1) (cs' := RB false 1 e wd) rfl)
  go_wp2_with fail
  have HP := Lib.hid (HO2.out.below hBK (Below.refl _ _).drew)
  have hs0 := Lib.hid (And.intro HP.out.od.k.c4.2.2.2 HP.out.a3)
  try clear c0
  try clear c1
  try clear c2
  try clear c3
  try clear a0
  try clear a1
  try clear a2
  go_region_held3 (fun w9 => w9.cell? ⟨K, 3, none⟩ = some (.int .u64 wd) ∧ w9.cell? ⟨g, 0, none⟩ = some (.int .u8 5) ∧ w9.cell? ⟨g, 1, none⟩ = some (.int .i64 0) ∧ w9.cell? ⟨g, 2, none⟩ = some (.int .i64 0))
    (first | exact hs0.out | exact hs3.out)
    (first
      | (go_at_call 70; with_reducible refine (HS.out.csD hc adN_is wd (wd + 1) HC.out HP.out.od.pr).mono ?_; rintro ee wC ⟨rfl, P5, f5⟩; have HR := Lib.hid (HP.out.fr hBm hn P5 f5); have hs3 := Lib.hid (And.intro HR.out.od.k.c4.2.2.2 HR.out.a3); clear P5 f5))
  all_goals
    have HO50 := HR
    try clear c0
    try clear c1
    try clear c2
    try clear c3
    try clear a0
    try clear a1
    try clear a2
    obtain ⟨c0, c1, c2, c3⟩ := HO50.out.od.k.c4
    obtain ⟨a0, a1, a2⟩ := HO50.out.a3
    have z50_1 := HO50.out.od.k.free 1
    have HO51 := Lib.hid (HO50.out.set hBK (by simp) hn 1 (.int .i64 3) (cs' := RB false 3 e wd) rfl)
    go_wp2_with fail
    ((try simp only [Exit.inBlock, Exit.then]); first | go_end0 | refine bodyPost_ret (results_none rfl _ _ _) rfl ?_)
    exact ⟨rfl, _, HA.out, HO51.out.od⟩
set_option maxRecDepth 100000 in
set_option maxHeartbeats 4000000 in
theorem bl3_yes (hBm : B ≤ m) (hc : c ≤ 900) (S : Say p m b n D L c M w) (h : Bk K 99 (RB true 3 e wd) w) (hBK : B ≤ K) (hb : 2 ≤ wd ∧ wd ≤ 4) (hcs : casV M.V adN wd = true) :
    Calls Tryd.prog 42 #[.pointer (some ⟨K, 0, none⟩), .pointer (some ⟨b, 0, none⟩)] w (OdS B p m b n c D M.s K [K] (RB true 0 0 wd) (csM M adN wd (wd - 1)) w) := by
  have HA := Lib.hid (S.aftCs adN wd (wd - 1))
  have _ := And.intro hc hBK
  have hn := h.neQ S.pr
  have hBw : B ≤ w.heap.size := Nat.le_trans hBm S.pr.m_le
  have HS := Lib.hid S
  have HX := Lib.hid (OE.start h S.pr hBw)
  have hk0 : ∀ w : World, Calls Tryd.prog 67 #[.int .u32 0, .bool false] w fun e w' => e = .returned (.int .u64 opnW) ∧ w' = w := fun w => block30_any 0 false w (show U32 0 from ⟨by decide, by decide⟩)
  have hk1 : ∀ w : World, Calls Tryd.prog 67 #[.int .u32 0, .bool true] w fun e w' => e = .returned (.int .u64 cldW) ∧ w' = w := fun w => block30_any 0 true w (show U32 0 from ⟨by decide, by decide⟩)
  have HC := Lib.hid hcs
  clear hcs
  have hw1 := wrapuB (x := wd - 1) (by omega) (by omega)
  clear h S
  go_enter Tryd.func42, Tryd.ntmps42
  go_upto_region 1 with (fail)
  revert HX
  generalize w.alloc (.cells #[.int .u8 5, .int .i64 0, .int .i64 0] 34) = X
  generalize w.heap.size = g
  intro HO1
  go_wp2_with fail
  ((with_reducible refine (hk0 _).mono ?_); rintro ee wk ⟨rfl, hwk⟩)
  subst hwk
  go_wp2_with fail
  ((with_reducible refine (hk1 _).mono ?_); rintro ee wk ⟨rfl, hwk⟩)
  subst hwk
  clear hk0 hk1
  obtain ⟨c0, c1, c2, c3⟩ := HO1.out.od.k.c4
  obtain ⟨a0, a1, a2⟩ := HO1.out.a3
  have z1_1 := HO1.out.od.k.free 1
  have HO2 := Lib.hid (HO1.out.set hBK (by simp) hn 1 (.int .i64 4) (cs' := RB true 4 e wd) rfl)
  go_wp2_with fail
  have HP := Lib.hid (HO2.out.below hBK (Below.refl _ _).drew)
  have hs0 := Lib.hid (And.intro HP.out.od.k.c4.2.2.2 HP.out.a3)
  try clear c0
  try clear c1
  try clear c2
  try clear c3
  try clear a0
  try clear a1
  try clear a2
  go_region_held3 (fun w9 => w9.cell? ⟨K, 3, none⟩ = some (.int .u64 wd) ∧ w9.cell? ⟨g, 0, none⟩ = some (.int .u8 5) ∧ w9.cell? ⟨g, 1, none⟩ = some (.int .i64 0) ∧ w9.cell? ⟨g, 2, none⟩ = some (.int .i64 0))
    (first | exact hs0.out | exact hs3.out)
    (first
      | (go_at_call 70; with_reducible refine (HS.out.csD hc adN_is wd (wd - 1) HC.out HP.out.od.pr).mono ?_; rintro ee wC ⟨rfl, P5, f5⟩; have HR := Lib.hid (HP.out.fr hBm hn P5 f5); have hs3 := Lib.hid (And.intro HR.out.od.k.c4.2.2.2 HR.out.a3); clear P5 f5))
  all_goals
    have HO50 := HR
    try clear c0
    try clear c1
    try clear c2
    try clear c3
    try clear a0
    try clear a1
    try clear a2
    obtain ⟨c0, c1, c2, c3⟩ := HO50.out.od.k.c4
    obtain ⟨a0, a1, a2⟩ := HO50.out.a3
    go_wp2_with fail
    ((with_reducible refine (end_r HO50.out.od.k 0).mono ?_); rintro ee w5 ⟨rfl, hw5⟩)
    subst hw5
    have z50_1 := HO50.out.od.k.free 1
    have HO51 := Lib.hid (HO50.out.set hBK (by simp) hn 1 (.int .i64 0) (cs' := RB true 0 e wd) rfl)
    have z51_2 := HO51.out.od.k.free 2
    have HO52 := Lib.hid (HO51.out.set hBK (by simp) hn 2 (.int .i64 0) (cs' := RB true 0 0 wd) rfl)
    go_wp2_with fail
    ((try simp only [Exit.inBlock, Exit.then]); first | go_end0 | refine bodyPost_ret (results_none rfl _ _ _) rfl ?_)
    exact ⟨rfl, _, HA.out, HO52.out.od⟩
set_option maxRecDepth 100000 in
set_option maxHeartbeats 4000000 in
theorem bl2_yes (hBm : B ≤ m) (hc : c ≤ 900) (S : Say p m b n D L c M w) (h : Bk K 99 (RB true 2 e wd) w) (hBK : B ≤ K) (hb : 2 ≤ wd ∧ wd ≤ 4) (hcs : casV M.V (adK (wd - 1)) opnW = true) :
    Calls Tryd.prog 42 #[.pointer (some ⟨K, 0, none⟩), .pointer (some ⟨b, 0, none⟩)] w (OdS B p m b n c D M.s K [K] (RB true 3 e wd) (csM M (adK (wd - 1)) opnW cldW) w) := by
  have HA := Lib.hid (S.aftCs (adK (wd - 1)) opnW cldW)
  have _ := And.intro hc hBK
  have hn := h.neQ S.pr
  have hBw : B ≤ w.heap.size := Nat.le_trans hBm S.pr.m_le
  have HS := Lib.hid S
  have HX := Lib.hid (OE.start h S.pr hBw)
  have hk0 : ∀ w : World, Calls Tryd.prog 67 #[.int .u32 0, .bool false] w fun e w' => e = .returned (.int .u64 opnW) ∧ w' = w := fun w => block30_any 0 false w (show U32 0 from ⟨by decide, by decide⟩)
  have hk1 : ∀ w : World, Calls Tryd.prog 67 #[.int .u32 0, .bool true] w fun e w' => e = .returned (.int .u64 cldW) ∧ w' = w := fun w => block30_any 0 true w (show U32 0 from ⟨by decide, by decide⟩)
  have HC := Lib.hid hcs
  clear hcs
  have hw1 := wrapiB (x := wd) (by omega) (by omega)
  have hw2 := wrapiB (x := wd - 1) (by omega) (by omega)
  clear h S
  go_enter Tryd.func42, Tryd.ntmps42
  go_upto_region 1 with (fail)
  revert HX
  generalize w.alloc (.cells #[.int .u8 5, .int .i64 0, .int .i64 0] 34) = X
  generalize w.heap.size = g
  intro HO1
  go_wp2_with fail
  ((with_reducible refine (hk0 _).mono ?_); rintro ee wk ⟨rfl, hwk⟩)
  subst hwk
  go_wp2_with fail
  ((with_reducible refine (hk1 _).mono ?_); rintro ee wk ⟨rfl, hwk⟩)
  subst hwk
  clear hk0 hk1
  obtain ⟨c0, c1, c2, c3⟩ := HO1.out.od.k.c4
  obtain ⟨a0, a1, a2⟩ := HO1.out.a3
  have z1_1 := HO1.out.od.k.free 1
  have HO2 := Lib.hid (HO1.out.set hBK (by simp) hn 1 (.int .i64 3) (cs' := RB true 3 e wd) rfl)
  go_wp2_with fail
  ((with_reducible refine (HS.out.csD hc (adK_at (i := wd - 1) ⟨by omega, by omega⟩) opnW cldW HC.out HO2.out.od.pr).mono ?_); rintro ee w4 ⟨rfl, P4, f4⟩)
  have HO3 := Lib.hid (HO2.out.fr hBm hn P4 f4)
  clear P4 f4
  try clear c0
  try clear c1
  try clear c2
  try clear c3
  try clear a0
  try clear a1
  try clear a2
  obtain ⟨c0, c1, c2, c3⟩ := HO3.out.od.k.c4
  obtain ⟨a0, a1, a2⟩ := HO3.out.a3
  go_wp2_with fail
  ((try simp only [Exit.inBlock, Exit.then]); first | go_end0 | refine bodyPost_ret (results_none rfl _ _ _) rfl ?_)
  exact ⟨rfl, _, HA.out, HO3.out.od⟩
set_option maxRecDepth 100000 in
set_option maxHeartbeats 4000000 in
theorem bm3_yes (hBm : B ≤ m) (hc : c ≤ 900) (S : Say p m b n D L c M w) (h : Bk K 99 (RB false 3 e wd) w) (hBK : B ≤ K) (hb : 0 ≤ wd ∧ wd < 4) (hcs : casV M.V (adK wd) cldW = true) :
    Calls Tryd.prog 42 #[.pointer (some ⟨K, 0, none⟩), .pointer (some ⟨b, 0, none⟩)] w (OdS B p m b n c D M.s K [K] (RB false 0 0 wd) (csM M (adK wd) cldW opnW) w) := by
  have HA := Lib.hid (S.aftCs (adK wd) cldW opnW)
  have _ := And.intro hc hBK
  have hn := h.neQ S.pr
  have hBw : B ≤ w.heap.size := Nat.le_trans hBm S.pr.m_le
  have HS := Lib.hid S
  have HX := Lib.hid (OE.start h S.pr hBw)
  have hk0 : ∀ w : World, Calls Tryd.prog 67 #[.int .u32 0, .bool false] w fun e w' => e = .returned (.int .u64 opnW) ∧ w' = w := fun w => block30_any 0 false w (show U32 0 from ⟨by decide, by decide⟩)
  have hk1 : ∀ w : World, Calls Tryd.prog 67 #[.int .u32 0, .bool true] w fun e w' => e = .returned (.int .u64 cldW) ∧ w' = w := fun w => block30_any 0 true w (show U32 0 from ⟨by decide, by decide⟩)
  have HC := Lib.hid hcs
  clear hcs
  have hw1 := wrapiB (x := wd) (by omega) (by omega)
  clear h S
  go_enter Tryd.func42, Tryd.ntmps42
  go_upto_region 1 with (fail)
  revert HX
  generalize w.alloc (.cells #[.int .u8 5, .int .i64 0, .int .i64 0] 34) = X
  generalize w.heap.size = g
  intro HO1
  go_wp2_with fail
  ((with_reducible refine (hk0 _).mono ?_); rintro ee wk ⟨rfl, hwk⟩)
  subst hwk
  go_wp2_with fail
  ((with_reducible refine (hk1 _).mono ?_); rintro ee wk ⟨rfl, hwk⟩)
  subst hwk
  clear hk0 hk1
  obtain ⟨c0, c1, c2, c3⟩ := HO1.out.od.k.c4
  obtain ⟨a0, a1, a2⟩ := HO1.out.a3
  go_wp2_with fail
  ((with_reducible refine (HS.out.csD hc (adK_at (i := wd) ⟨by omega, by omega⟩) cldW opnW HC.out HO1.out.od.pr).mono ?_); rintro ee w4 ⟨rfl, P4, f4⟩)
  have HO2 := Lib.hid (HO1.out.fr hBm hn P4 f4)
  clear P4 f4
  try clear c0
  try clear c1
  try clear c2
  try clear c3
  try clear a0
  try clear a1
  try clear a2
  obtain ⟨c0, c1, c2, c3⟩ := HO2.out.od.k.c4
  obtain ⟨a0, a1, a2⟩ := HO2.out.a3
  go_wp2_with fail
  ((with_reducible refine (end_r HO2.out.od.k 0).mono ?_); rintro ee w5 ⟨rfl, hw5⟩)
  subst hw5
  have z2_1 := HO2.out.od.k.free 1
  have HO3 := Lib.hid (HO2.out.set hBK (by simp) hn 1 (.int .i64 0) (cs' := RB false 0 e wd) rfl)
  have z3_2 := HO3.out.od.k.free 2
  have HO4 := Lib.hid (HO3.out.set hBK (by simp) hn 2 (.int .i64 0) (cs' := RB false 0 0 wd) rfl)
  go_wp2_with fail
  ((try simp only [Exit.inBlock, Exit.then]); first | go_end0 | refine bodyPost_ret (results_none rfl _ _ _) rfl ?_)
  exact ⟨rfl, _, HA.out, HO4.out.od⟩
set_option maxRecDepth 100000 in
set_option maxHeartbeats 4000000 in
theorem bl4_yes (hBm : B ≤ m) (hc : c ≤ 900) (S : Say p m b n D L c M w) (h : Bk K 99 (RB true 4 e wd) w) (hBK : B ≤ K) (hb : 2 ≤ wd ∧ wd ≤ 4) (hcs : casV M.V (adK (wd - 1)) cldW = true) :
    Calls Tryd.prog 42 #[.pointer (some ⟨K, 0, none⟩), .pointer (some ⟨b, 0, none⟩)] w (OdS B p m b n c D M.s K [K] (RB true 0 7 wd) (csM M (adK (wd - 1)) cldW opnW) w) := by
  have HA := Lib.hid (S.aftCs (adK (wd - 1)) cldW opnW)
  have _ := And.intro hc hBK
  have hn := h.neQ S.pr
  have hBw : B ≤ w.heap.size := Nat.le_trans hBm S.pr.m_le
  have HS := Lib.hid S
  have HX := Lib.hid (OE.start h S.pr hBw)
  have hk0 : ∀ w : World, Calls Tryd.prog 67 #[.int .u32 0, .bool false] w fun e w' => e = .returned (.int .u64 opnW) ∧ w' = w := fun w => block30_any 0 false w (show U32 0 from ⟨by decide, by decide⟩)
  have hk1 : ∀ w : World, Calls Tryd.prog 67 #[.int .u32 0, .bool true] w fun e w' => e = .returned (.int .u64 cldW) ∧ w' = w := fun w => block30_any 0 true w (show U32 0 from ⟨by decide, by decide⟩)
  have HC := Lib.hid hcs
  clear hcs
  have hw1 := wrapiB (x := wd) (by omega) (by omega)
  have hw2 := wrapiB (x := wd - 1) (by omega) (by omega)
  clear h S
  go_enter Tryd.func42, Tryd.ntmps42
  go_upto_region 1 with (fail)
  revert HX
  generalize w.alloc (.cells #[.int .u8 5, .int .i64 0, .int .i64 0] 34) = X
  generalize w.heap.size = g
  intro HO1
  go_wp2_with fail
  ((with_reducible refine (hk0 _).mono ?_); rintro ee wk ⟨rfl, hwk⟩)
  subst hwk
  go_wp2_with fail
  ((with_reducible refine (hk1 _).mono ?_); rintro ee wk ⟨rfl, hwk⟩)
  subst hwk
  clear hk0 hk1
  obtain ⟨c0, c1, c2, c3⟩ := HO1.out.od.k.c4
  obtain ⟨a0, a1, a2⟩ := HO1.out.a3
  go_wp2_with fail
  ((with_reducible refine (HS.out.csD hc (adK_at (i := wd - 1) ⟨by omega, by omega⟩) cldW opnW HC.out HO1.out.od.pr).mono ?_); rintro ee w4 ⟨rfl, P4, f4⟩)
  have HO2 := Lib.hid (HO1.out.fr hBm hn P4 f4)
  clear P4 f4
  try clear c0
  try clear c1
  try clear c2
  try clear c3
  try clear a0
  try clear a1
  try clear a2
  obtain ⟨c0, c1, c2, c3⟩ := HO2.out.od.k.c4
  obtain ⟨a0, a1, a2⟩ := HO2.out.a3
  go_wp2_with fail
  ((with_reducible refine (end_r HO2.out.od.k 7).mono ?_); rintro ee w5 ⟨rfl, hw5⟩)
  subst hw5
  have z2_1 := HO2.out.od.k.free 1
  have HO3 := Lib.hid (HO2.out.set hBK (by simp) hn 1 (.int .i64 0) (cs' := RB true 0 e wd) rfl)
  have z3_2 := HO3.out.od.k.free 2
  have HO4 := Lib.hid (HO3.out.set hBK (by simp) hn 2 (.int .i64 7) (cs' := RB true 0 7 wd) rfl)
  go_wp2_with fail
  ((try simp only [Exit.inBlock, Exit.then]); first | go_end0 | refine bodyPost_ret (results_none rfl _ _ _) rfl ?_)
  exact ⟨rfl, _, HA.out, HO4.out.od⟩
set_option maxRecDepth 100000 in
set_option maxHeartbeats 4000000 in
theorem bm2_no (hBm : B ≤ m) (hc : c ≤ 900) (S : Say p m b n D L c M w) (h : Bk K 99 (RB false 2 e wd) w) (hBK : B ≤ K) (hb : 0 ≤ wd ∧ wd < 4) (hcs : casV M.V adN wd = false) :
    Calls Tryd.prog 42 #[.pointer (some ⟨K, 0, none⟩), .pointer (some ⟨b, 0, none⟩)] w (OdS B p m b n c D M.s K [K] (RB false 1 e wd) (csM M adN wd (wd + 1)) w) := by
  have HA := Lib.hid (S.aftCs adN wd (wd + 1))
  have _ := And.intro hc hBK
  have hn := h.neQ S.pr
  have hBw : B ≤ w.heap.size := Nat.le_trans hBm S.pr.m_le
  have HS := Lib.hid S
  have HX := Lib.hid (OE.start h S.pr hBw)
  have hk0 : ∀ w : World, Calls Tryd.prog 67 #[.int .u32 0, .bool false] w fun e w' => e = .returned (.int .u64 opnW) ∧ w' = w := fun w => block30_any 0 false w (show U32 0 from ⟨by decide, by decide⟩)
  have hk1 : ∀ w : World, Calls Tryd.prog 67 #[.int .u32 0, .bool true] w fun e w' => e = .returned (.int .u64 cldW) ∧ w' = w := fun w => block30_any 0 true w (show U32 0 from ⟨by decide, by decide⟩)
  have HC := Lib.hid hcs
  clear hcs
  have hw1 := wrapuB (x := wd + 1) (by omega) (by omega)
  clear h S
  go_enter Tryd.func42, Tryd.ntmps42
  go_upto_region 1 with (fail)
  revert HX
  generalize w.alloc (.cells #[.int .u8 5, .int .i64 0, .int .i64 0] 34) = X
  generalize w.heap.size = g
  intro HO1
  go_wp2_with fail
  ((with_reducible refine (hk0 _).mono ?_); rintro ee wk ⟨rfl, hwk⟩)
  subst hwk
  go_wp2_with fail
  ((with_reducible refine (hk1 _).mono ?_); rintro ee wk ⟨rfl, hwk⟩)
  subst hwk
  clear hk0 hk1
  obtain ⟨c0, c1, c2, c3⟩ := HO1.out.od.k.c4
  obtain ⟨a0, a1, a2⟩ := HO1.out.a3
  have z1_1 := HO1.out.od.k.free 1
  have HO2 := Lib.hid (HO1.out.set hBK (by simp) hn 1 (.int .i64 1) (cs' := RB false 1 e wd) rfl)
  go_wp2_with fail
  have HP := Lib.hid (HO2.out.below hBK (Below.refl _ _).drew)
  have hs0 := Lib.hid (And.intro HP.out.od.k.c4.2.2.2 HP.out.a3)
  try clear c0
  try clear c1
  try clear c2
  try clear c3
  try clear a0
  try clear a1
  try clear a2
  go_region_held3 (fun w9 => w9.cell? ⟨K, 3, none⟩ = some (.int .u64 wd) ∧ w9.cell? ⟨g, 0, none⟩ = some (.int .u8 5) ∧ w9.cell? ⟨g, 1, none⟩ = some (.int .i64 0) ∧ w9.cell? ⟨g, 2, none⟩ = some (.int .i64 0))
    (first | exact hs0.out | exact hs3.out)
    (first
      | (go_at_call 70; with_reducible refine (HS.out.csD hc adN_is wd (wd + 1) HC.out HP.out.od.pr).mono ?_; rintro ee wC ⟨rfl, P5, f5⟩; have HR := Lib.hid (HP.out.fr hBm hn P5 f5); have hs3 := Lib.hid (And.intro HR.out.od.k.c4.2.2.2 HR.out.a3); clear P5 f5))
  all_goals
    have HO50 := HR
    try clear c0
    try clear c1
    try clear c2
    try clear c3
    try clear a0
    try clear a1
    try clear a2
    obtain ⟨c0, c1, c2, c3⟩ := HO50.out.od.k.c4
    obtain ⟨a0, a1, a2⟩ := HO50.out.a3
    go_wp2_with fail
    ((try simp only [Exit.inBlock, Exit.then]); first | go_end0 | refine bodyPost_ret (results_none rfl _ _ _) rfl ?_)
    exact ⟨rfl, _, HA.out, HO50.out.od⟩
set_option maxRecDepth 100000 in
set_option maxHeartbeats 4000000 in
theorem bl3_no (hBm : B ≤ m) (hc : c ≤ 900) (S : Say p m b n D L c M w) (h : Bk K 99 (RB true 3 e wd) w) (hBK : B ≤ K) (hb : 2 ≤ wd ∧ wd ≤ 4) (hcs : casV M.V adN wd = false) :
    Calls Tryd.prog 42 #[.pointer (some ⟨K, 0, none⟩), .pointer (some ⟨b, 0, none⟩)] w (OdS B p m b n c D M.s K [K] (RB true 4 e wd) (csM M adN wd (wd - 1)) w) := by
  have HA := Lib.hid (S.aftCs adN wd (wd - 1))
  have _ := And.intro hc hBK
  have hn := h.neQ S.pr
  have hBw : B ≤ w.heap.size := Nat.le_trans hBm S.pr.m_le
  have HS := Lib.hid S
  have HX := Lib.hid (OE.start h S.pr hBw)
  have hk0 : ∀ w : World, Calls Tryd.prog 67 #[.int .u32 0, .bool false] w fun e w' => e = .returned (.int .u64 opnW) ∧ w' = w := fun w => block30_any 0 false w (show U32 0 from ⟨by decide, by decide⟩)
  have hk1 : ∀ w : World, Calls Tryd.prog 67 #[.int .u32 0, .bool true] w fun e w' => e = .returned (.int .u64 cldW) ∧ w' = w := fun w => block30_any 0 true w (show U32 0 from ⟨by decide, by decide⟩)
  have HC := Lib.hid hcs
  clear hcs
  have hw1 := wrapuB (x := wd - 1) (by omega) (by omega)
  clear h S
  go_enter Tryd.func42, Tryd.ntmps42
  go_upto_region 1 with (fail)
  revert HX
  generalize w.alloc (.cells #[.int .u8 5, .int .i64 0, .int .i64 0] 34) = X
  generalize w.heap.size = g
  intro HO1
  go_wp2_with fail
  ((with_reducible refine (hk0 _).mono ?_); rintro ee wk ⟨rfl, hwk⟩)
  subst hwk
  go_wp2_with fail
  ((with_reducible refine (hk1 _).mono ?_); rintro ee wk ⟨rfl, hwk⟩)
  subst hwk
  clear hk0 hk1
  obtain ⟨c0, c1, c2, c3⟩ := HO1.out.od.k.c4
  obtain ⟨a0, a1, a2⟩ := HO1.out.a3
  have z1_1 := HO1.out.od.k.free 1
  have HO2 := Lib.hid (HO1.out.set hBK (by simp) hn 1 (.int .i64 4) (cs' := RB true 4 e wd) rfl)
  go_wp2_with fail
  have HP := Lib.hid (HO2.out.below hBK (Below.refl _ _).drew)
  have hs0 := Lib.hid (And.intro HP.out.od.k.c4.2.2.2 HP.out.a3)
  try clear c0
  try clear c1
  try clear c2
  try clear c3
  try clear a0
  try clear a1
  try clear a2
  go_region_held3 (fun w9 => w9.cell? ⟨K, 3, none⟩ = some (.int .u64 wd) ∧ w9.cell? ⟨g, 0, none⟩ = some (.int .u8 5) ∧ w9.cell? ⟨g, 1, none⟩ = some (.int .i64 0) ∧ w9.cell? ⟨g, 2, none⟩ = some (.int .i64 0))
    (first | exact hs0.out | exact hs3.out)
    (first
      | (go_at_call 70; with_reducible refine (HS.out.csD hc adN_is wd (wd - 1) HC.out HP.out.od.pr).mono ?_; rintro ee wC ⟨rfl, P5, f5⟩; have HR := Lib.hid (HP.out.fr hBm hn P5 f5); have hs3 := Lib.hid (And.intro HR.out.od.k.c4.2.2.2 HR.out.a3); clear P5 f5))
  all_goals
    have HO50 := HR
    try clear c0
    try clear c1
    try clear c2
    try clear c3
    try clear a0
    try clear a1
    try clear a2
    obtain ⟨c0, c1, c2, c3⟩ := HO50.out.od.k.c4
    obtain ⟨a0, a1, a2⟩ := HO50.out.a3
    go_wp2_with fail
    ((try simp only [Exit.inBlock, Exit.then]); first | go_end0 | refine bodyPost_ret (results_none rfl _ _ _) rfl ?_)
    exact ⟨rfl, _, HA.out, HO50.out.od⟩
set_option maxRecDepth 100000 in
set_option maxHeartbeats 4000000 in
theorem bl2_no (hBm : B ≤ m) (hc : c ≤ 900) (S : Say p m b n D L c M w) (h : Bk K 99 (RB true 2 e wd) w) (hBK : B ≤ K) (hb : 2 ≤ wd ∧ wd ≤ 4) (hcs : casV M.V (adK (wd - 1)) opnW = false) :
    Calls Tryd.prog 42 #[.pointer (some ⟨K, 0, none⟩), .pointer (some ⟨b, 0, none⟩)] w (OdS B p m b n c D M.s K [K] (RB true 0 7 wd) (csM M (adK (wd - 1)) opnW cldW) w) := by
  have HA := Lib.hid (S.aftCs (adK (wd - 1)) opnW cldW)
  have _ := And.intro hc hBK
  have hn := h.neQ S.pr
  have hBw : B ≤ w.heap.size := Nat.le_trans hBm S.pr.m_le
  have HS := Lib.hid S
  have HX := Lib.hid (OE.start h S.pr hBw)
  have hk0 : ∀ w : World, Calls Tryd.prog 67 #[.int .u32 0, .bool false] w fun e w' => e = .returned (.int .u64 opnW) ∧ w' = w := fun w => block30_any 0 false w (show U32 0 from ⟨by decide, by decide⟩)
  have hk1 : ∀ w : World, Calls Tryd.prog 67 #[.int .u32 0, .bool true] w fun e w' => e = .returned (.int .u64 cldW) ∧ w' = w := fun w => block30_any 0 true w (show U32 0 from ⟨by decide, by decide⟩)
  have HC := Lib.hid hcs
  clear hcs
  have hw1 := wrapiB (x := wd) (by omega) (by omega)
  have hw2 := wrapiB (x := wd - 1) (by omega) (by omega)
  clear h S
  go_enter Tryd.func42, Tryd.ntmps42
  go_upto_region 1 with (fail)
  revert HX
  generalize w.alloc (.cells #[.int .u8 5, .int .i64 0, .int .i64 0] 34) = X
  generalize w.heap.size = g
  intro HO1
  go_wp2_with fail
  ((with_reducible refine (hk0 _).mono ?_); rintro ee wk ⟨rfl, hwk⟩)
  subst hwk
  go_wp2_with fail
  ((with_reducible refine (hk1 _).mono ?_); rintro ee wk ⟨rfl, hwk⟩)
  subst hwk
  clear hk0 hk1
  obtain ⟨c0, c1, c2, c3⟩ := HO1.out.od.k.c4
  obtain ⟨a0, a1, a2⟩ := HO1.out.a3
  have z1_1 := HO1.out.od.k.free 1
  have HO2 := Lib.hid (HO1.out.set hBK (by simp) hn 1 (.int .i64 3) (cs' := RB true 3 e wd) rfl)
  go_wp2_with fail
  ((with_reducible refine (HS.out.csD hc (adK_at (i := wd - 1) ⟨by omega, by omega⟩) opnW cldW HC.out HO2.out.od.pr).mono ?_); rintro ee w4 ⟨rfl, P4, f4⟩)
  have HO3 := Lib.hid (HO2.out.fr hBm hn P4 f4)
  clear P4 f4
  try clear c0
  try clear c1
  try clear c2
  try clear c3
  try clear a0
  try clear a1
  try clear a2
  obtain ⟨c0, c1, c2, c3⟩ := HO3.out.od.k.c4
  obtain ⟨a0, a1, a2⟩ := HO3.out.a3
  go_wp2_with fail
  ((with_reducible refine (end_r HO3.out.od.k 7).mono ?_); rintro ee w5 ⟨rfl, hw5⟩)
  subst hw5
  have z3_1 := HO3.out.od.k.free 1
  have HO4 := Lib.hid (HO3.out.set hBK (by simp) hn 1 (.int .i64 0) (cs' := RB true 0 e wd) rfl)
  have z4_2 := HO4.out.od.k.free 2
  have HO5 := Lib.hid (HO4.out.set hBK (by simp) hn 2 (.int .i64 7) (cs' := RB true 0 7 wd) rfl)
  go_wp2_with fail
  ((try simp only [Exit.inBlock, Exit.then]); first | go_end0 | refine bodyPost_ret (results_none rfl _ _ _) rfl ?_)
  exact ⟨rfl, _, HA.out, HO5.out.od⟩
set_option maxRecDepth 100000 in
set_option maxHeartbeats 4000000 in
theorem bm3_no (hBm : B ≤ m) (hc : c ≤ 900) (S : Say p m b n D L c M w) (h : Bk K 99 (RB false 3 e wd) w) (hBK : B ≤ K) (hb : 0 ≤ wd ∧ wd < 4) (hcs : casV M.V (adK wd) cldW = false) :
    Calls Tryd.prog 42 #[.pointer (some ⟨K, 0, none⟩), .pointer (some ⟨b, 0, none⟩)] w (OdS B p m b n c D M.s K [K] (RB false 0 0 wd) (csM M (adK wd) cldW opnW) w) := by
  have HA := Lib.hid (S.aftCs (adK wd) cldW opnW)
  have _ := And.intro hc hBK
  have hn := h.neQ S.pr
  have hBw : B ≤ w.heap.size := Nat.le_trans hBm S.pr.m_le
  have HS := Lib.hid S
  have HX := Lib.hid (OE.start h S.pr hBw)
  have hk0 : ∀ w : World, Calls Tryd.prog 67 #[.int .u32 0, .bool false] w fun e w' => e = .returned (.int .u64 opnW) ∧ w' = w := fun w => block30_any 0 false w (show U32 0 from ⟨by decide, by decide⟩)
  have hk1 : ∀ w : World, Calls Tryd.prog 67 #[.int .u32 0, .bool true] w fun e w' => e = .returned (.int .u64 cldW) ∧ w' = w := fun w => block30_any 0 true w (show U32 0 from ⟨by decide, by decide⟩)
  have HC := Lib.hid hcs
  clear hcs
  have hw1 := wrapiB (x := wd) (by omega) (by omega)
  clear h S
  go_enter Tryd.func42, Tryd.ntmps42
  go_upto_region 1 with (fail)
  revert HX
  generalize w.alloc (.cells #[.int .u8 5, .int .i64 0, .int .i64 0] 34) = X
  generalize w.heap.size = g
  intro HO1
  go_wp2_with fail
  ((with_reducible refine (hk0 _).mono ?_); rintro ee wk ⟨rfl, hwk⟩)
  subst hwk
  go_wp2_with fail
  ((with_reducible refine (hk1 _).mono ?_); rintro ee wk ⟨rfl, hwk⟩)
  subst hwk
  clear hk0 hk1
  obtain ⟨c0, c1, c2, c3⟩ := HO1.out.od.k.c4
  obtain ⟨a0, a1, a2⟩ := HO1.out.a3
  go_wp2_with fail
  ((with_reducible refine (HS.out.csD hc (adK_at (i := wd) ⟨by omega, by omega⟩) cldW opnW HC.out HO1.out.od.pr).mono ?_); rintro ee w4 ⟨rfl, P4, f4⟩)
  have HO2 := Lib.hid (HO1.out.fr hBm hn P4 f4)
  clear P4 f4
  try clear c0
  try clear c1
  try clear c2
  try clear c3
  try clear a0
  try clear a1
  try clear a2
  obtain ⟨c0, c1, c2, c3⟩ := HO2.out.od.k.c4
  obtain ⟨a0, a1, a2⟩ := HO2.out.a3
  go_wp2_with fail
  ((with_reducible refine (end_r HO2.out.od.k 0).mono ?_); rintro ee w5 ⟨rfl, hw5⟩)
  subst hw5
  have z2_1 := HO2.out.od.k.free 1
  have HO3 := Lib.hid (HO2.out.set hBK (by simp) hn 1 (.int .i64 0) (cs' := RB false 0 e wd) rfl)
  have z3_2 := HO3.out.od.k.free 2
  have HO4 := Lib.hid (HO3.out.set hBK (by simp) hn 2 (.int .i64 0) (cs' := RB false 0 0 wd) rfl)
  go_wp2_with fail
  ((try simp only [Exit.inBlock, Exit.then]); first | go_end0 | refine bodyPost_ret (results_none rfl _ _ _) rfl ?_)
  exact ⟨rfl, _, HA.out, HO4.out.od⟩
set_option maxRecDepth 100000 in
set_option maxHeartbeats 4000000 in
theorem bl4_no (hBm : B ≤ m) (hc : c ≤ 900) (S : Say p m b n D L c M w) (h : Bk K 99 (RB true 4 e wd) w) (hBK : B ≤ K) (hb : 2 ≤ wd ∧ wd ≤ 4) (hcs : casV M.V (adK (wd - 1)) cldW = false) :
    Calls Tryd.prog 42 #[.pointer (some ⟨K, 0, none⟩), .pointer (some ⟨b, 0, none⟩)] w (OdS B p m b n c D M.s K [K] (RB true 0 7 wd) (csM M (adK (wd - 1)) cldW opnW) w) := by
  have HA := Lib.hid (S.aftCs (adK (wd - 1)) cldW opnW)
  have _ := And.intro hc hBK
  have hn := h.neQ S.pr
  have hBw : B ≤ w.heap.size := Nat.le_trans hBm S.pr.m_le
  have HS := Lib.hid S
  have HX := Lib.hid (OE.start h S.pr hBw)
  have hk0 : ∀ w : World, Calls Tryd.prog 67 #[.int .u32 0, .bool false] w fun e w' => e = .returned (.int .u64 opnW) ∧ w' = w := fun w => block30_any 0 false w (show U32 0 from ⟨by decide, by decide⟩)
  have hk1 : ∀ w : World, Calls Tryd.prog 67 #[.int .u32 0, .bool true] w fun e w' => e = .returned (.int .u64 cldW) ∧ w' = w := fun w => block30_any 0 true w (show U32 0 from ⟨by decide, by decide⟩)
  have HC := Lib.hid hcs
  clear hcs
  have hw1 := wrapiB (x := wd) (by omega) (by omega)
  have hw2 := wrapiB (x := wd - 1) (by omega) (by omega)
  clear h S
  go_enter Tryd.func42, Tryd.ntmps42
  go_upto_region 1 with (fail)
  revert HX
  generalize w.alloc (.cells #[.int .u8 5, .int .i64 0, .int .i64 0] 34) = X
  generalize w.heap.size = g
  intro HO1
  go_wp2_with fail
  ((with_reducible refine (hk0 _).mono ?_); rintro ee wk ⟨rfl, hwk⟩)
  subst hwk
  go_wp2_with fail
  ((with_reducible refine (hk1 _).mono ?_); rintro ee wk ⟨rfl, hwk⟩)
  subst hwk
  clear hk0 hk1
  obtain ⟨c0, c1, c2, c3⟩ := HO1.out.od.k.c4
  obtain ⟨a0, a1, a2⟩ := HO1.out.a3
  go_wp2_with fail
  ((with_reducible refine (HS.out.csD hc (adK_at (i := wd - 1) ⟨by omega, by omega⟩) cldW opnW HC.out HO1.out.od.pr).mono ?_); rintro ee w4 ⟨rfl, P4, f4⟩)
  have HO2 := Lib.hid (HO1.out.fr hBm hn P4 f4)
  clear P4 f4
  try clear c0
  try clear c1
  try clear c2
  try clear c3
  try clear a0
  try clear a1
  try clear a2
  obtain ⟨c0, c1, c2, c3⟩ := HO2.out.od.k.c4
  obtain ⟨a0, a1, a2⟩ := HO2.out.a3
  go_wp2_with fail
  ((with_reducible refine (end_r HO2.out.od.k 7).mono ?_); rintro ee w5 ⟨rfl, hw5⟩)
  subst hw5
  have z2_1 := HO2.out.od.k.free 1
  have HO3 := Lib.hid (HO2.out.set hBK (by simp) hn 1 (.int .i64 0) (cs' := RB true 0 e wd) rfl)
  have z3_2 := HO3.out.od.k.free 2
  have HO4 := Lib.hid (HO3.out.set hBK (by simp) hn 2 (.int .i64 7) (cs' := RB true 0 7 wd) rfl)
  go_wp2_with fail
  ((try simp only [Exit.inBlock, Exit.then]); first | go_end0 | refine bodyPost_ret (results_none rfl _ _ _) rfl ?_)
  exact ⟨rfl, _, HA.out, HO4.out.od⟩
set_option maxRecDepth 100000 in
set_option maxHeartbeats 4000000 in
theorem bm0 (hBm : B ≤ m) (hc : c ≤ 900) (S : Say p m b n D L c M w) (h : Bk K 99 (RB false 0 e wd) w) (hBK : B ≤ K) :
    Calls Tryd.prog 42 #[.pointer (some ⟨K, 0, none⟩), .pointer (some ⟨b, 0, none⟩)] w (OdS B p m b n c D M.s K [K] (RB false 0 e wd) (M) w) := by
  have HA := Lib.hid (S.aft)
  have _ := And.intro hc hBK
  have hn := h.neQ S.pr
  have hBw : B ≤ w.heap.size := Nat.le_trans hBm S.pr.m_le
  have HS := Lib.hid S
  have HX := Lib.hid (OE.start h S.pr hBw)
  have hk0 : ∀ w : World, Calls Tryd.prog 67 #[.int .u32 0, .bool false] w fun e w' => e = .returned (.int .u64 opnW) ∧ w' = w := fun w => block30_any 0 false w (show U32 0 from ⟨by decide, by decide⟩)
  have hk1 : ∀ w : World, Calls Tryd.prog 67 #[.int .u32 0, .bool true] w fun e w' => e = .returned (.int .u64 cldW) ∧ w' = w := fun w => block30_any 0 true w (show U32 0 from ⟨by decide, by decide⟩)
  clear h S
  go_enter Tryd.func42, Tryd.ntmps42
  go_upto_region 1 with (fail)
  revert HX
  generalize w.alloc (.cells #[.int .u8 5, .int .i64 0, .int .i64 0] 34) = X
  generalize w.heap.size = g
  intro HO1
  go_wp2_with fail
  ((with_reducible refine (hk0 _).mono ?_); rintro ee wk ⟨rfl, hwk⟩)
  subst hwk
  go_wp2_with fail
  ((with_reducible refine (hk1 _).mono ?_); rintro ee wk ⟨rfl, hwk⟩)
  subst hwk
  clear hk0 hk1
  obtain ⟨c0, c1, c2, c3⟩ := HO1.out.od.k.c4
  obtain ⟨a0, a1, a2⟩ := HO1.out.a3
  go_wp2_with fail
  ((try simp only [Exit.inBlock, Exit.then]); first | go_end0 | refine bodyPost_ret (results_none rfl _ _ _) rfl ?_)
  exact ⟨rfl, _, HA.out, HO1.out.od⟩
set_option maxRecDepth 100000 in
set_option maxHeartbeats 4000000 in
theorem bl0 (hBm : B ≤ m) (hc : c ≤ 900) (S : Say p m b n D L c M w) (h : Bk K 99 (RB true 0 e wd) w) (hBK : B ≤ K) :
    Calls Tryd.prog 42 #[.pointer (some ⟨K, 0, none⟩), .pointer (some ⟨b, 0, none⟩)] w (OdS B p m b n c D M.s K [K] (RB true 0 e wd) (M) w) := by
  have HA := Lib.hid (S.aft)
  have _ := And.intro hc hBK
  have hn := h.neQ S.pr
  have hBw : B ≤ w.heap.size := Nat.le_trans hBm S.pr.m_le
  have HS := Lib.hid S
  have HX := Lib.hid (OE.start h S.pr hBw)
  have hk0 : ∀ w : World, Calls Tryd.prog 67 #[.int .u32 0, .bool false] w fun e w' => e = .returned (.int .u64 opnW) ∧ w' = w := fun w => block30_any 0 false w (show U32 0 from ⟨by decide, by decide⟩)
  have hk1 : ∀ w : World, Calls Tryd.prog 67 #[.int .u32 0, .bool true] w fun e w' => e = .returned (.int .u64 cldW) ∧ w' = w := fun w => block30_any 0 true w (show U32 0 from ⟨by decide, by decide⟩)
  clear h S
  go_enter Tryd.func42, Tryd.ntmps42
  go_upto_region 1 with (fail)
  revert HX
  generalize w.alloc (.cells #[.int .u8 5, .int .i64 0, .int .i64 0] 34) = X
  generalize w.heap.size = g
  intro HO1
  go_wp2_with fail
  ((with_reducible refine (hk0 _).mono ?_); rintro ee wk ⟨rfl, hwk⟩)
  subst hwk
  go_wp2_with fail
  ((with_reducible refine (hk1 _).mono ?_); rintro ee wk ⟨rfl, hwk⟩)
  subst hwk
  clear hk0 hk1
  obtain ⟨c0, c1, c2, c3⟩ := HO1.out.od.k.c4
  obtain ⟨a0, a1, a2⟩ := HO1.out.a3
  go_wp2_with fail
  ((try simp only [Exit.inBlock, Exit.then]); first | go_end0 | refine bodyPost_ret (results_none rfl _ _ _) rfl ?_)
  exact ⟨rfl, _, HA.out, HO1.out.od⟩
end
end Go.Proofs.YtffkjdmpeeagoaaDoor
