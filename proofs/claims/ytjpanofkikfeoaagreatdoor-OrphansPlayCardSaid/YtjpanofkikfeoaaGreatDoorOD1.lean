/-
  A Take of the document's, line by line: what each does to its memory, and what it leaves; condition: both memories say the same, the operation lies as it says, numbers of their kinds.
  A Take of the document's, line 6: an entry more; condition: both memories say the same, the operation lies as it says, numbers of their kinds.
-/
import Derived.Test.YtjpanofkikfeoaaGreatDoorOD0
import Derived.Test.YtjpanofkikfeoaaGreatDoorW3
import Derived.Deep.RegionHeld3
import Derived.Deep.RegionLaw
import Derived.Deep.DeepCutAuto
namespace Go.Proofs.YtjpanofkikfeoaaGreatDoor
open Go.RowKit Go.Maps

section
variable {B p m b n c K : Nat} {D : DataW Unit} {L L' : List (Ad × Int)} {M : MV} {w : World}
theorem OwnE.slice {w : World} {B : Nat} {v : Value} {xs : List EP} (h : OwnE w B v xs) : ∃ A k, v = .slice A xs.length k ∧ xs.length ≤ k ∧ k ≤ 9223372036854775807 ∧ (0 < xs.length → ∃ g, A = some ⟨g, 0, none⟩) := by
  obtain ⟨_, h⟩ := h
  rcases h with ⟨rfl, h0⟩ | ⟨g, cap, cur, rfl, _, hg, hc, hm, hs, ht⟩
  · exact ⟨none, 0, by rw [h0], by omega, by omega, fun k => by omega⟩
  · exact ⟨_, cap, rfl, hc, by unfold maxLen at hm; exact hm, fun _ => ⟨g, rfl⟩⟩
set_option maxHeartbeats 2000000 in
/-- A word of the slot that a Take is at. -/
theorem field_r {o : OG} {vg vv : Value} {w1 : World} {f v : Int} (hc : c ≤ 4900) (S : Say p m b n D L c M w) (k : Bk K 80 (RD o vg vv) w1) (hs : 0 ≤ o.s ∧ o.s < 256) (hf : 0 ≤ f ∧ f < 8) (hv : M.V (adS o.s f) = v) (P : Pr p m b n D M.s L M.s w1) :
    Calls Tryz.prog 49 #[.pointer (some ⟨K, 0, none⟩), .pointer (some ⟨b, 0, none⟩), .int .i64 f] w1 fun ee w' => ee = .returned (.int .u64 v) ∧ ∃ wk, Below w1.heap.size w1 wk ∧ Pr p m b n D M.s L (ldM M (adS o.s f)).s w' ∧ Fr p m b wk w' := by
  have HK := Lib.hid k
  have HP := Lib.hid P
  have HS := Lib.hid S
  have hcl := k.c12.2.2.2.2.2
  obtain ⟨ln, got, g, i, h, s, e⟩ := o
  dsimp only at hs hv hcl
  clear k P S
  go_enter Tryz.func49, Tryz.ntmps49
  go_wp2_with fail
  ((with_reducible refine (HS.out.ldD hc (adS_at hs hf) hv HP.out).mono ?_); rintro ee w4 ⟨rfl, P4, f4⟩)
  have HP4 := Lib.hid P4
  have HF4 := Lib.hid f4
  clear P4 f4
  go_wp2_with fail
  go_ret
  exact ⟨rfl, _, Below.refl _ _, HP4.out, HF4.out⟩
set_option maxRecDepth 100000 in
set_option maxHeartbeats 4000000 in
theorem tk1_none {Ag Av : Option Addr} {kg kv i : Nat} {hh s v es eg eb ec ed : Int} {ek : Bool} {got : List EP} (hBm : B ≤ m) (hc : c ≤ 4900) (S : Say p m b n D L c M w) (h : Bk K 80 (RD ⟨1, got, [], i, hh, s, ⟨es, eg, ek, eb, ec, ed⟩⟩ (.slice Ag got.length kg) (.slice Av 0 kv)) w) (R : Rw B ⟨1, got, [], i, hh, s, ⟨es, eg, ek, eb, ec, ed⟩⟩ (.slice Ag got.length kg) (.slice Av 0 kv) w) (hBK : B ≤ K) (hu : U64 hh) (hv : M.V adO = v) (hvu : U64 v) (hneg : wSlot v < 0) :
    Calls Tryz.prog 25 #[.pointer (some ⟨K, 0, none⟩), .pointer (some ⟨b, 0, none⟩)] w (OdS B p m b n c D M.s K (.slice Ag got.length kg) (.slice Av 0 kv) ⟨0, got, [], i, v, s, ⟨es, eg, ek, eb, ec, ed⟩⟩ (ldM M adO) w) := by
  have HA := Lib.hid (S.aftLd adO)
  have _ := And.intro hc hBK
  have hn := h.neQ S.pr
  have hBw : B ≤ w.heap.size := Nat.le_trans hBm S.pr.m_le
  have HS := Lib.hid S
  have hmem : K ∈ K :: ((Value.slice Ag got.length kg).ownBlock.toList ++ (Value.slice Av 0 kv).ownBlock.toList) := by simp
  have HX := Lib.hid (OD.start hmem h R S.pr hBw)
  obtain ⟨c0, c1, c2, c3, c4, c5⟩ := h.c12
  dsimp only at c0 c1 c2 c3 c4 c5
  have HV := Lib.hid hv
  clear hv
  clear h S R
  go_enter Tryz.func25, Tryz.ntmps25
  go_upto_region 3 with (fail)
  clear c0 c1 c2 c3 c4 c5
  revert HX
  generalize w.alloc (.cells #[.int .u8 4, .int .i64 0, .int .i64 0] 34) = X
  generalize w.heap.size = st
  intro HO1
  obtain ⟨c0, c1, c2, c3, c4, c5⟩ := HO1.out.k.c12
  obtain ⟨a0, a1, a2⟩ := HO1.out.a3
  dsimp only at c0 c1 c2 c3 c4 c5
  go_wp2_with fail
  ((with_reducible refine (asHead10_any hh _ hu).mono ?_); rintro ee wk ⟨rfl, hwk⟩)
  subst hwk
  go_wp2_with fail
  ((with_reducible refine (HS.out.ldD hc adO_at HV.out HO1.out.pr).mono ?_); rintro ee w4 ⟨rfl, P4, f4⟩)
  have HO2 := Lib.hid (HO1.out.fr hBm hn P4 f4)
  clear P4 f4
  try clear c0
  try clear c1
  try clear c2
  try clear c3
  try clear c4
  try clear c5
  try clear a0
  try clear a1
  try clear a2
  obtain ⟨c0, c1, c2, c3, c4, c5⟩ := HO2.out.k.c12
  obtain ⟨a0, a1, a2⟩ := HO2.out.a3
  dsimp only at c0 c1 c2 c3 c4 c5
  have z2_4 := HO2.out.k.free 4
  have HO3 := Lib.hid (HO2.out.set hBK (by simp) hn 4 (.int .u64 v) (o' := ⟨1, got, [], i, v, s, ⟨es, eg, ek, eb, ec, ed⟩⟩) rfl rfl rfl)
  go_wp2_with fail
  ((with_reducible refine (asHead10_any v _ hvu).mono ?_); rintro ee wk ⟨rfl, hwk⟩)
  subst hwk
  have z3_0 := HO3.out.k.free 0
  have HO4 := Lib.hid (HO3.out.set hBK (by simp) hn 0 (.int .i64 2) (o' := ⟨2, got, [], i, v, s, ⟨es, eg, ek, eb, ec, ed⟩⟩) rfl rfl rfl)
  go_wp2_with fail
  have z4_0 := HO4.out.k.free 0
  have HO5 := Lib.hid (HO4.out.set hBK (by simp) hn 0 (.int .i64 0) (o' := ⟨0, got, [], i, v, s, ⟨es, eg, ek, eb, ec, ed⟩⟩) rfl rfl rfl)
  go_wp2_with fail
  ((try simp only [Exit.inBlock, Exit.then]); first | go_end0 | refine bodyPost_ret (results_none rfl _ _ _) rfl ?_)
  exact ⟨rfl, _, _, _, HA.out, HO5.out, fun x hx => .inl hx⟩
set_option maxRecDepth 100000 in
set_option maxHeartbeats 4000000 in
theorem tk1_some {Ag Av : Option Addr} {kg kv i : Nat} {hh s v es eg eb ec ed : Int} {ek : Bool} {got : List EP} (hBm : B ≤ m) (hc : c ≤ 4900) (S : Say p m b n D L c M w) (h : Bk K 80 (RD ⟨1, got, [], i, hh, s, ⟨es, eg, ek, eb, ec, ed⟩⟩ (.slice Ag got.length kg) (.slice Av 0 kv)) w) (R : Rw B ⟨1, got, [], i, hh, s, ⟨es, eg, ek, eb, ec, ed⟩⟩ (.slice Ag got.length kg) (.slice Av 0 kv) w) (hBK : B ≤ K) (hu : U64 hh) (hv : M.V adO = v) (hvu : U64 v) (hneg : ¬ wSlot v < 0) :
    Calls Tryz.prog 25 #[.pointer (some ⟨K, 0, none⟩), .pointer (some ⟨b, 0, none⟩)] w (OdS B p m b n c D M.s K (.slice Ag got.length kg) (.slice Av 0 kv) ⟨2, got, [], i, v, s, ⟨es, eg, ek, eb, ec, ed⟩⟩ (ldM M adO) w) := by
  have HA := Lib.hid (S.aftLd adO)
  have _ := And.intro hc hBK
  have hn := h.neQ S.pr
  have hBw : B ≤ w.heap.size := Nat.le_trans hBm S.pr.m_le
  have HS := Lib.hid S
  have hmem : K ∈ K :: ((Value.slice Ag got.length kg).ownBlock.toList ++ (Value.slice Av 0 kv).ownBlock.toList) := by simp
  have HX := Lib.hid (OD.start hmem h R S.pr hBw)
  obtain ⟨c0, c1, c2, c3, c4, c5⟩ := h.c12
  dsimp only at c0 c1 c2 c3 c4 c5
  have HV := Lib.hid hv
  clear hv
  clear h S R
  go_enter Tryz.func25, Tryz.ntmps25
  go_upto_region 3 with (fail)
  clear c0 c1 c2 c3 c4 c5
  revert HX
  generalize w.alloc (.cells #[.int .u8 4, .int .i64 0, .int .i64 0] 34) = X
  generalize w.heap.size = st
  intro HO1
  obtain ⟨c0, c1, c2, c3, c4, c5⟩ := HO1.out.k.c12
  obtain ⟨a0, a1, a2⟩ := HO1.out.a3
  dsimp only at c0 c1 c2 c3 c4 c5
  go_wp2_with fail
  ((with_reducible refine (asHead10_any hh _ hu).mono ?_); rintro ee wk ⟨rfl, hwk⟩)
  subst hwk
  go_wp2_with fail
  ((with_reducible refine (HS.out.ldD hc adO_at HV.out HO1.out.pr).mono ?_); rintro ee w4 ⟨rfl, P4, f4⟩)
  have HO2 := Lib.hid (HO1.out.fr hBm hn P4 f4)
  clear P4 f4
  try clear c0
  try clear c1
  try clear c2
  try clear c3
  try clear c4
  try clear c5
  try clear a0
  try clear a1
  try clear a2
  obtain ⟨c0, c1, c2, c3, c4, c5⟩ := HO2.out.k.c12
  obtain ⟨a0, a1, a2⟩ := HO2.out.a3
  dsimp only at c0 c1 c2 c3 c4 c5
  have z2_4 := HO2.out.k.free 4
  have HO3 := Lib.hid (HO2.out.set hBK (by simp) hn 4 (.int .u64 v) (o' := ⟨1, got, [], i, v, s, ⟨es, eg, ek, eb, ec, ed⟩⟩) rfl rfl rfl)
  go_wp2_with fail
  ((with_reducible refine (asHead10_any v _ hvu).mono ?_); rintro ee wk ⟨rfl, hwk⟩)
  subst hwk
  have z3_0 := HO3.out.k.free 0
  have HO4 := Lib.hid (HO3.out.set hBK (by simp) hn 0 (.int .i64 2) (o' := ⟨2, got, [], i, v, s, ⟨es, eg, ek, eb, ec, ed⟩⟩) rfl rfl rfl)
  go_wp2_with fail
  go_wp2_with fail
  ((try simp only [Exit.inBlock, Exit.then]); first | go_end0 | refine bodyPost_ret (results_none rfl _ _ _) rfl ?_)
  exact ⟨rfl, _, _, _, HA.out, HO4.out, fun x hx => .inl hx⟩
set_option maxRecDepth 100000 in
set_option maxHeartbeats 4000000 in
theorem tk2_true {Ag Av : Option Addr} {kg kv i : Nat} {hh s es eg eb ec ed : Int} {ek : Bool} {got : List EP} (hBm : B ≤ m) (hc : c ≤ 4900) (S : Say p m b n D L c M w) (h : Bk K 80 (RD ⟨2, got, [], i, hh, s, ⟨es, eg, ek, eb, ec, ed⟩⟩ (.slice Ag got.length kg) (.slice Av 0 kv)) w) (R : Rw B ⟨2, got, [], i, hh, s, ⟨es, eg, ek, eb, ec, ed⟩⟩ (.slice Ag got.length kg) (.slice Av 0 kv) w) (hBK : B ≤ K) (hu : U64 hh) (hcs : casV M.V adO hh = true) (htg : IntKind.u64.wrap (fld hh 16 48 + 1) = fld hh 16 48 + 1) (htu : U64 (fld hh 16 48 + 1)) :
    Calls Tryz.prog 25 #[.pointer (some ⟨K, 0, none⟩), .pointer (some ⟨b, 0, none⟩)] w (OdS B p m b n c D M.s K (.slice Ag got.length kg) (.slice Av 0 kv) ⟨3, got, [], i, hh, wSlot hh, ⟨es, eg, ek, eb, ec, ed⟩⟩ (csM M adO hh (headW (-1) (fld hh 16 48 + 1))) w) := by
  have HA := Lib.hid (S.aftCs adO hh (headW (-1) (fld hh 16 48 + 1)))
  have _ := And.intro hc hBK
  have hn := h.neQ S.pr
  have hBw : B ≤ w.heap.size := Nat.le_trans hBm S.pr.m_le
  have HS := Lib.hid S
  have hmem : K ∈ K :: ((Value.slice Ag got.length kg).ownBlock.toList ++ (Value.slice Av 0 kv).ownBlock.toList) := by simp
  have HX := Lib.hid (OD.start hmem h R S.pr hBw)
  obtain ⟨c0, c1, c2, c3, c4, c5⟩ := h.c12
  dsimp only at c0 c1 c2 c3 c4 c5
  have HC := Lib.hid hcs
  clear hcs
  clear h S R
  go_enter Tryz.func25, Tryz.ntmps25
  go_upto_region 3 with (fail)
  clear c0 c1 c2 c3 c4 c5
  revert HX
  generalize w.alloc (.cells #[.int .u8 4, .int .i64 0, .int .i64 0] 34) = X
  generalize w.heap.size = st
  intro HO1
  obtain ⟨c0, c1, c2, c3, c4, c5⟩ := HO1.out.k.c12
  obtain ⟨a0, a1, a2⟩ := HO1.out.a3
  dsimp only at c0 c1 c2 c3 c4 c5
  go_wp2_with fail
  ((with_reducible refine (asHead10_any hh _ hu).mono ?_); rintro ee wk ⟨rfl, hwk⟩)
  subst hwk
  have z1_0 := HO1.out.k.free 0
  have HO2 := Lib.hid (HO1.out.set hBK (by simp) hn 0 (.int .i64 1) (o' := ⟨1, got, [], i, hh, s, ⟨es, eg, ek, eb, ec, ed⟩⟩) rfl rfl rfl)
  go_wp2_with fail
  have HP := Lib.hid (HO2.out.below hBK (Below.refl _ _).drew)
  have hs0 := Lib.hid (And.intro HP.out.k.c12.2.2.2.2.1 HP.out.a3)
  try clear c0
  try clear c1
  try clear c2
  try clear c3
  try clear c4
  try clear c5
  try clear a0
  try clear a1
  try clear a2
  go_region_held3 (fun w9 => w9.cell? ⟨K, 4, none⟩ = some (.int .u64 hh) ∧ w9.cell? ⟨st, 0, none⟩ = some (.int .u8 4) ∧ w9.cell? ⟨st, 1, none⟩ = some (.int .i64 0) ∧ w9.cell? ⟨st, 2, none⟩ = some (.int .i64 0))
    (first | exact hs0.out | exact hs1.out | exact hs3.out | fail)
    (first
      | (go_at_call 47; (with_reducible refine (head16_any (-1) (fld hh 16 48 + 1) _ htu).mono ?_); rintro ee wB ⟨rfl, hwB⟩; subst hwB; have hs1 := Lib.hid (And.intro HP.out.k.c12.2.2.2.2.1 HP.out.a3))
      | (go_at_call 46; (with_reducible refine (HS.out.csD hc adO_at hh (headW (-1) (fld hh 16 48 + 1)) HC.out HP.out.pr).mono ?_); rintro ee wC ⟨rfl, P5, f5⟩; have HR := Lib.hid (HP.out.fr hBm hn P5 f5); have hs3 := Lib.hid (And.intro HR.out.k.c12.2.2.2.2.1 HR.out.a3); clear P5 f5)
      | fail)
  all_goals
    have HO50 := HR
    try clear c0
    try clear c1
    try clear c2
    try clear c3
    try clear c4
    try clear c5
    try clear a0
    try clear a1
    try clear a2
    obtain ⟨c0, c1, c2, c3, c4, c5⟩ := HO50.out.k.c12
    obtain ⟨a0, a1, a2⟩ := HO50.out.a3
    dsimp only at c0 c1 c2 c3 c4 c5
    have z50_5 := HO50.out.k.free 5
    have HO51 := Lib.hid (HO50.out.set hBK (by simp) hn 5 (.int .i64 (wSlot hh)) (o' := ⟨1, got, [], i, hh, wSlot hh, ⟨es, eg, ek, eb, ec, ed⟩⟩) rfl rfl rfl)
    have z51_0 := HO51.out.k.free 0
    have HO52 := Lib.hid (HO51.out.set hBK (by simp) hn 0 (.int .i64 3) (o' := ⟨3, got, [], i, hh, wSlot hh, ⟨es, eg, ek, eb, ec, ed⟩⟩) rfl rfl rfl)
    go_wp2_with fail
    ((try simp only [Exit.inBlock, Exit.then]); first | go_end0 | refine bodyPost_ret (results_none rfl _ _ _) rfl ?_)
    exact ⟨rfl, _, _, _, HA.out, HO52.out, fun x hx => .inl hx⟩
set_option maxRecDepth 100000 in
set_option maxHeartbeats 4000000 in
theorem tk2_false {Ag Av : Option Addr} {kg kv i : Nat} {hh s es eg eb ec ed : Int} {ek : Bool} {got : List EP} (hBm : B ≤ m) (hc : c ≤ 4900) (S : Say p m b n D L c M w) (h : Bk K 80 (RD ⟨2, got, [], i, hh, s, ⟨es, eg, ek, eb, ec, ed⟩⟩ (.slice Ag got.length kg) (.slice Av 0 kv)) w) (R : Rw B ⟨2, got, [], i, hh, s, ⟨es, eg, ek, eb, ec, ed⟩⟩ (.slice Ag got.length kg) (.slice Av 0 kv) w) (hBK : B ≤ K) (hu : U64 hh) (hcs : casV M.V adO hh = false) (htg : IntKind.u64.wrap (fld hh 16 48 + 1) = fld hh 16 48 + 1) (htu : U64 (fld hh 16 48 + 1)) :
    Calls Tryz.prog 25 #[.pointer (some ⟨K, 0, none⟩), .pointer (some ⟨b, 0, none⟩)] w (OdS B p m b n c D M.s K (.slice Ag got.length kg) (.slice Av 0 kv) ⟨1, got, [], i, hh, s, ⟨es, eg, ek, eb, ec, ed⟩⟩ (csM M adO hh (headW (-1) (fld hh 16 48 + 1))) w) := by
  have HA := Lib.hid (S.aftCs adO hh (headW (-1) (fld hh 16 48 + 1)))
  have _ := And.intro hc hBK
  have hn := h.neQ S.pr
  have hBw : B ≤ w.heap.size := Nat.le_trans hBm S.pr.m_le
  have HS := Lib.hid S
  have hmem : K ∈ K :: ((Value.slice Ag got.length kg).ownBlock.toList ++ (Value.slice Av 0 kv).ownBlock.toList) := by simp
  have HX := Lib.hid (OD.start hmem h R S.pr hBw)
  obtain ⟨c0, c1, c2, c3, c4, c5⟩ := h.c12
  dsimp only at c0 c1 c2 c3 c4 c5
  have HC := Lib.hid hcs
  clear hcs
  clear h S R
  go_enter Tryz.func25, Tryz.ntmps25
  go_upto_region 3 with (fail)
  clear c0 c1 c2 c3 c4 c5
  revert HX
  generalize w.alloc (.cells #[.int .u8 4, .int .i64 0, .int .i64 0] 34) = X
  generalize w.heap.size = st
  intro HO1
  obtain ⟨c0, c1, c2, c3, c4, c5⟩ := HO1.out.k.c12
  obtain ⟨a0, a1, a2⟩ := HO1.out.a3
  dsimp only at c0 c1 c2 c3 c4 c5
  go_wp2_with fail
  ((with_reducible refine (asHead10_any hh _ hu).mono ?_); rintro ee wk ⟨rfl, hwk⟩)
  subst hwk
  have z1_0 := HO1.out.k.free 0
  have HO2 := Lib.hid (HO1.out.set hBK (by simp) hn 0 (.int .i64 1) (o' := ⟨1, got, [], i, hh, s, ⟨es, eg, ek, eb, ec, ed⟩⟩) rfl rfl rfl)
  go_wp2_with fail
  have HP := Lib.hid (HO2.out.below hBK (Below.refl _ _).drew)
  have hs0 := Lib.hid (And.intro HP.out.k.c12.2.2.2.2.1 HP.out.a3)
  try clear c0
  try clear c1
  try clear c2
  try clear c3
  try clear c4
  try clear c5
  try clear a0
  try clear a1
  try clear a2
  go_region_held3 (fun w9 => w9.cell? ⟨K, 4, none⟩ = some (.int .u64 hh) ∧ w9.cell? ⟨st, 0, none⟩ = some (.int .u8 4) ∧ w9.cell? ⟨st, 1, none⟩ = some (.int .i64 0) ∧ w9.cell? ⟨st, 2, none⟩ = some (.int .i64 0))
    (first | exact hs0.out | exact hs1.out | exact hs3.out | fail)
    (first
      | (go_at_call 47; (with_reducible refine (head16_any (-1) (fld hh 16 48 + 1) _ htu).mono ?_); rintro ee wB ⟨rfl, hwB⟩; subst hwB; have hs1 := Lib.hid (And.intro HP.out.k.c12.2.2.2.2.1 HP.out.a3))
      | (go_at_call 46; (with_reducible refine (HS.out.csD hc adO_at hh (headW (-1) (fld hh 16 48 + 1)) HC.out HP.out.pr).mono ?_); rintro ee wC ⟨rfl, P5, f5⟩; have HR := Lib.hid (HP.out.fr hBm hn P5 f5); have hs3 := Lib.hid (And.intro HR.out.k.c12.2.2.2.2.1 HR.out.a3); clear P5 f5)
      | fail)
  all_goals
    have HO50 := HR
    try clear c0
    try clear c1
    try clear c2
    try clear c3
    try clear c4
    try clear c5
    try clear a0
    try clear a1
    try clear a2
    obtain ⟨c0, c1, c2, c3, c4, c5⟩ := HO50.out.k.c12
    obtain ⟨a0, a1, a2⟩ := HO50.out.a3
    dsimp only at c0 c1 c2 c3 c4 c5
    go_wp2_with fail
    ((try simp only [Exit.inBlock, Exit.then]); first | go_end0 | refine bodyPost_ret (results_none rfl _ _ _) rfl ?_)
    exact ⟨rfl, _, _, _, HA.out, HO50.out, fun x hx => .inl hx⟩
set_option maxRecDepth 100000 in
set_option maxHeartbeats 4000000 in
theorem tk3_any {Ag Av : Option Addr} {kg kv i : Nat} {hh s v es eg eb ec ed : Int} {ek : Bool} {got : List EP} (hBm : B ≤ m) (hc : c ≤ 4900) (S : Say p m b n D L c M w) (h : Bk K 80 (RD ⟨3, got, [], i, hh, s, ⟨es, eg, ek, eb, ec, ed⟩⟩ (.slice Ag got.length kg) (.slice Av 0 kv)) w) (R : Rw B ⟨3, got, [], i, hh, s, ⟨es, eg, ek, eb, ec, ed⟩⟩ (.slice Ag got.length kg) (.slice Av 0 kv) w) (hBK : B ≤ K) (hu : U64 hh) (hs0 : 0 ≤ s ∧ s < 256) (hv : M.V (adS s 0) = v) (hvu : U64 v) :
    Calls Tryz.prog 25 #[.pointer (some ⟨K, 0, none⟩), .pointer (some ⟨b, 0, none⟩)] w (OdS B p m b n c D M.s K (.slice Ag got.length kg) (.slice Av 0 kv) ⟨4, got, [], i, hh, s, ⟨s, fld v 3 32, false, 0, 0, 0⟩⟩ (ldM M (adS s 0)) w) := by
  have HA := Lib.hid (S.aftLd (adS s 0))
  have _ := And.intro hc hBK
  have hn := h.neQ S.pr
  have hBw : B ≤ w.heap.size := Nat.le_trans hBm S.pr.m_le
  have HS := Lib.hid S
  have hmem : K ∈ K :: ((Value.slice Ag got.length kg).ownBlock.toList ++ (Value.slice Av 0 kv).ownBlock.toList) := by simp
  have HX := Lib.hid (OD.start hmem h R S.pr hBw)
  obtain ⟨c0, c1, c2, c3, c4, c5⟩ := h.c12
  dsimp only at c0 c1 c2 c3 c4 c5
  have HV := Lib.hid hv
  clear hv
  clear h S R
  go_enter Tryz.func25, Tryz.ntmps25
  go_upto_region 3 with (fail)
  clear c0 c1 c2 c3 c4 c5
  revert HX
  generalize w.alloc (.cells #[.int .u8 4, .int .i64 0, .int .i64 0] 34) = X
  generalize w.heap.size = st
  intro HO1
  obtain ⟨c0, c1, c2, c3, c4, c5⟩ := HO1.out.k.c12
  obtain ⟨a0, a1, a2⟩ := HO1.out.a3
  dsimp only at c0 c1 c2 c3 c4 c5
  go_wp2_with fail
  ((with_reducible refine (asHead10_any hh _ hu).mono ?_); rintro ee wk ⟨rfl, hwk⟩)
  subst hwk
  go_wp2_with fail
  ((with_reducible refine (field_r (f := 0) (v := v) hc HS.out HO1.out.k hs0 (by decide) HV.out HO1.out.pr).mono ?_); rintro ee w4 ⟨rfl, wk, bk, P4, f4⟩)
  have HO2 := Lib.hid ((HO1.out.below hBK bk).fr hBm hn P4 f4)
  clear P4 f4 bk
  try clear c0
  try clear c1
  try clear c2
  try clear c3
  try clear c4
  try clear c5
  try clear a0
  try clear a1
  try clear a2
  obtain ⟨c0, c1, c2, c3, c4, c5⟩ := HO2.out.k.c12
  obtain ⟨a0, a1, a2⟩ := HO2.out.a3
  dsimp only at c0 c1 c2 c3 c4 c5
  try clear e0
  try clear e1
  try clear e2
  try clear e3
  try clear e4
  try clear e5
  obtain ⟨e0, e1, e2, e3, e4, e5⟩ := HO2.out.k.e6
  dsimp only at e0 e1 e2 e3 e4 e5
  go_wp2_with fail
  ((with_reducible refine (asHeader24_any v _ hvu).mono ?_); rintro ee wk ⟨rfl, hwk⟩)
  subst hwk
  have z2_6 := HO2.out.k.free 6
  have HO3 := Lib.hid (HO2.out.set hBK (by simp) hn 6 (.int .i64 s) (o' := ⟨3, got, [], i, hh, s, ⟨s, eg, ek, eb, ec, ed⟩⟩) rfl rfl rfl)
  have z3_7 := HO3.out.k.free 7
  have HO4 := Lib.hid (HO3.out.set hBK (by simp) hn 7 (.int .u32 (fld v 3 32)) (o' := ⟨3, got, [], i, hh, s, ⟨s, fld v 3 32, ek, eb, ec, ed⟩⟩) rfl rfl rfl)
  have z4_8 := HO4.out.k.free 8
  have HO5 := Lib.hid (HO4.out.set hBK (by simp) hn 8 (.bool false) (o' := ⟨3, got, [], i, hh, s, ⟨s, fld v 3 32, false, eb, ec, ed⟩⟩) rfl rfl rfl)
  have z5_9 := HO5.out.k.free 9
  have HO6 := Lib.hid (HO5.out.set hBK (by simp) hn 9 (.int .u64 0) (o' := ⟨3, got, [], i, hh, s, ⟨s, fld v 3 32, false, 0, ec, ed⟩⟩) rfl rfl rfl)
  have z6_10 := HO6.out.k.free 10
  have HO7 := Lib.hid (HO6.out.set hBK (by simp) hn 10 (.int .u64 0) (o' := ⟨3, got, [], i, hh, s, ⟨s, fld v 3 32, false, 0, 0, ed⟩⟩) rfl rfl rfl)
  have z7_11 := HO7.out.k.free 11
  have HO8 := Lib.hid (HO7.out.set hBK (by simp) hn 11 (.int .u64 0) (o' := ⟨3, got, [], i, hh, s, ⟨s, fld v 3 32, false, 0, 0, 0⟩⟩) rfl rfl rfl)
  have z8_0 := HO8.out.k.free 0
  have HO9 := Lib.hid (HO8.out.set hBK (by simp) hn 0 (.int .i64 4) (o' := ⟨4, got, [], i, hh, s, ⟨s, fld v 3 32, false, 0, 0, 0⟩⟩) rfl rfl rfl)
  go_wp2_with fail
  ((try simp only [Exit.inBlock, Exit.then]); first | go_end0 | refine bodyPost_ret (results_none rfl _ _ _) rfl ?_)
  exact ⟨rfl, _, _, _, HA.out, HO9.out, fun x hx => .inl hx⟩
set_option maxRecDepth 100000 in
set_option maxHeartbeats 4000000 in
theorem tk4_any {Ag Av : Option Addr} {kg kv i : Nat} {hh s v es eg eb ec ed : Int} {ek : Bool} {got : List EP} (hBm : B ≤ m) (hc : c ≤ 4900) (S : Say p m b n D L c M w) (h : Bk K 80 (RD ⟨4, got, [], i, hh, s, ⟨es, eg, ek, eb, ec, ed⟩⟩ (.slice Ag got.length kg) (.slice Av 0 kv)) w) (R : Rw B ⟨4, got, [], i, hh, s, ⟨es, eg, ek, eb, ec, ed⟩⟩ (.slice Ag got.length kg) (.slice Av 0 kv) w) (hBK : B ≤ K) (hu : U64 hh) (hs0 : 0 ≤ s ∧ s < 256) (hv : M.V (adS s 1) = v) :
    Calls Tryz.prog 25 #[.pointer (some ⟨K, 0, none⟩), .pointer (some ⟨b, 0, none⟩)] w (OdS B p m b n c D M.s K (.slice Ag got.length kg) (.slice Av 0 kv) ⟨5, got, [], i, hh, s, ⟨es, eg, ek, v, ec, ed⟩⟩ (ldM M (adS s 1)) w) := by
  have HA := Lib.hid (S.aftLd (adS s 1))
  have _ := And.intro hc hBK
  have hn := h.neQ S.pr
  have hBw : B ≤ w.heap.size := Nat.le_trans hBm S.pr.m_le
  have HS := Lib.hid S
  have hmem : K ∈ K :: ((Value.slice Ag got.length kg).ownBlock.toList ++ (Value.slice Av 0 kv).ownBlock.toList) := by simp
  have HX := Lib.hid (OD.start hmem h R S.pr hBw)
  obtain ⟨c0, c1, c2, c3, c4, c5⟩ := h.c12
  dsimp only at c0 c1 c2 c3 c4 c5
  have HV := Lib.hid hv
  clear hv
  clear h S R
  go_enter Tryz.func25, Tryz.ntmps25
  go_upto_region 3 with (fail)
  clear c0 c1 c2 c3 c4 c5
  revert HX
  generalize w.alloc (.cells #[.int .u8 4, .int .i64 0, .int .i64 0] 34) = X
  generalize w.heap.size = st
  intro HO1
  obtain ⟨c0, c1, c2, c3, c4, c5⟩ := HO1.out.k.c12
  obtain ⟨a0, a1, a2⟩ := HO1.out.a3
  dsimp only at c0 c1 c2 c3 c4 c5
  go_wp2_with fail
  ((with_reducible refine (asHead10_any hh _ hu).mono ?_); rintro ee wk ⟨rfl, hwk⟩)
  subst hwk
  go_wp2_with fail
  ((with_reducible refine (field_r (f := 1) (v := v) hc HS.out HO1.out.k hs0 (by decide) HV.out HO1.out.pr).mono ?_); rintro ee w4 ⟨rfl, wk, bk, P4, f4⟩)
  have HO2 := Lib.hid ((HO1.out.below hBK bk).fr hBm hn P4 f4)
  clear P4 f4 bk
  try clear c0
  try clear c1
  try clear c2
  try clear c3
  try clear c4
  try clear c5
  try clear a0
  try clear a1
  try clear a2
  obtain ⟨c0, c1, c2, c3, c4, c5⟩ := HO2.out.k.c12
  obtain ⟨a0, a1, a2⟩ := HO2.out.a3
  dsimp only at c0 c1 c2 c3 c4 c5
  try clear e0
  try clear e1
  try clear e2
  try clear e3
  try clear e4
  try clear e5
  obtain ⟨e0, e1, e2, e3, e4, e5⟩ := HO2.out.k.e6
  dsimp only at e0 e1 e2 e3 e4 e5
  have z2_9 := HO2.out.k.free 9
  have HO3 := Lib.hid (HO2.out.set hBK (by simp) hn 9 (.int .u64 v) (o' := ⟨4, got, [], i, hh, s, ⟨es, eg, ek, v, ec, ed⟩⟩) rfl rfl rfl)
  have z3_0 := HO3.out.k.free 0
  have HO4 := Lib.hid (HO3.out.set hBK (by simp) hn 0 (.int .i64 5) (o' := ⟨5, got, [], i, hh, s, ⟨es, eg, ek, v, ec, ed⟩⟩) rfl rfl rfl)
  go_wp2_with fail
  ((try simp only [Exit.inBlock, Exit.then]); first | go_end0 | refine bodyPost_ret (results_none rfl _ _ _) rfl ?_)
  exact ⟨rfl, _, _, _, HA.out, HO4.out, fun x hx => .inl hx⟩
set_option maxRecDepth 100000 in
set_option maxHeartbeats 4000000 in
theorem tk5_any {Ag Av : Option Addr} {kg kv i : Nat} {hh s v es eg eb ec ed : Int} {ek : Bool} {got : List EP} (hBm : B ≤ m) (hc : c ≤ 4900) (S : Say p m b n D L c M w) (h : Bk K 80 (RD ⟨5, got, [], i, hh, s, ⟨es, eg, ek, eb, ec, ed⟩⟩ (.slice Ag got.length kg) (.slice Av 0 kv)) w) (R : Rw B ⟨5, got, [], i, hh, s, ⟨es, eg, ek, eb, ec, ed⟩⟩ (.slice Ag got.length kg) (.slice Av 0 kv) w) (hBK : B ≤ K) (hu : U64 hh) (hs0 : 0 ≤ s ∧ s < 256) (hv : M.V (adS s 3) = v) :
    Calls Tryz.prog 25 #[.pointer (some ⟨K, 0, none⟩), .pointer (some ⟨b, 0, none⟩)] w (OdS B p m b n c D M.s K (.slice Ag got.length kg) (.slice Av 0 kv) ⟨6, got, [], i, hh, s, ⟨es, eg, ek, eb, v, ed⟩⟩ (ldM M (adS s 3)) w) := by
  have HA := Lib.hid (S.aftLd (adS s 3))
  have _ := And.intro hc hBK
  have hn := h.neQ S.pr
  have hBw : B ≤ w.heap.size := Nat.le_trans hBm S.pr.m_le
  have HS := Lib.hid S
  have hmem : K ∈ K :: ((Value.slice Ag got.length kg).ownBlock.toList ++ (Value.slice Av 0 kv).ownBlock.toList) := by simp
  have HX := Lib.hid (OD.start hmem h R S.pr hBw)
  obtain ⟨c0, c1, c2, c3, c4, c5⟩ := h.c12
  dsimp only at c0 c1 c2 c3 c4 c5
  have HV := Lib.hid hv
  clear hv
  clear h S R
  go_enter Tryz.func25, Tryz.ntmps25
  go_upto_region 3 with (fail)
  clear c0 c1 c2 c3 c4 c5
  revert HX
  generalize w.alloc (.cells #[.int .u8 4, .int .i64 0, .int .i64 0] 34) = X
  generalize w.heap.size = st
  intro HO1
  obtain ⟨c0, c1, c2, c3, c4, c5⟩ := HO1.out.k.c12
  obtain ⟨a0, a1, a2⟩ := HO1.out.a3
  dsimp only at c0 c1 c2 c3 c4 c5
  go_wp2_with fail
  ((with_reducible refine (asHead10_any hh _ hu).mono ?_); rintro ee wk ⟨rfl, hwk⟩)
  subst hwk
  go_wp2_with fail
  ((with_reducible refine (field_r (f := 3) (v := v) hc HS.out HO1.out.k hs0 (by decide) HV.out HO1.out.pr).mono ?_); rintro ee w4 ⟨rfl, wk, bk, P4, f4⟩)
  have HO2 := Lib.hid ((HO1.out.below hBK bk).fr hBm hn P4 f4)
  clear P4 f4 bk
  try clear c0
  try clear c1
  try clear c2
  try clear c3
  try clear c4
  try clear c5
  try clear a0
  try clear a1
  try clear a2
  obtain ⟨c0, c1, c2, c3, c4, c5⟩ := HO2.out.k.c12
  obtain ⟨a0, a1, a2⟩ := HO2.out.a3
  dsimp only at c0 c1 c2 c3 c4 c5
  try clear e0
  try clear e1
  try clear e2
  try clear e3
  try clear e4
  try clear e5
  obtain ⟨e0, e1, e2, e3, e4, e5⟩ := HO2.out.k.e6
  dsimp only at e0 e1 e2 e3 e4 e5
  have z2_10 := HO2.out.k.free 10
  have HO3 := Lib.hid (HO2.out.set hBK (by simp) hn 10 (.int .u64 v) (o' := ⟨5, got, [], i, hh, s, ⟨es, eg, ek, eb, v, ed⟩⟩) rfl rfl rfl)
  have z3_0 := HO3.out.k.free 0
  have HO4 := Lib.hid (HO3.out.set hBK (by simp) hn 0 (.int .i64 6) (o' := ⟨6, got, [], i, hh, s, ⟨es, eg, ek, eb, v, ed⟩⟩) rfl rfl rfl)
  go_wp2_with fail
  ((try simp only [Exit.inBlock, Exit.then]); first | go_end0 | refine bodyPost_ret (results_none rfl _ _ _) rfl ?_)
  exact ⟨rfl, _, _, _, HA.out, HO4.out, fun x hx => .inl hx⟩
set_option maxRecDepth 100000 in
set_option maxHeartbeats 4000000 in
theorem tk7_on {Ag Av : Option Addr} {kg kv i : Nat} {hh s v es eg eb ec ed : Int} {ek : Bool} {got : List EP} (hBm : B ≤ m) (hc : c ≤ 4900) (S : Say p m b n D L c M w) (h : Bk K 80 (RD ⟨7, got, [], i, hh, s, ⟨es, eg, ek, eb, ec, ed⟩⟩ (.slice Ag got.length kg) (.slice Av 0 kv)) w) (R : Rw B ⟨7, got, [], i, hh, s, ⟨es, eg, ek, eb, ec, ed⟩⟩ (.slice Ag got.length kg) (.slice Av 0 kv) w) (hBK : B ≤ K) (hu : U64 hh) (hs0 : 0 ≤ s ∧ s < 256) (hv : M.V (adS s 2) = v) (hvu : U64 v) (h7 : 0 ≤ wSlot v) (hl : got.length < 256) :
    Calls Tryz.prog 25 #[.pointer (some ⟨K, 0, none⟩), .pointer (some ⟨b, 0, none⟩)] w (OdS B p m b n c D M.s K (.slice Ag got.length kg) (.slice Av 0 kv) ⟨3, got, [], i, hh, wSlot v, ⟨es, eg, ek, eb, ec, ed⟩⟩ (ldM M (adS s 2)) w) := by
  have HA := Lib.hid (S.aftLd (adS s 2))
  have _ := And.intro hc hBK
  have hn := h.neQ S.pr
  have hBw : B ≤ w.heap.size := Nat.le_trans hBm S.pr.m_le
  have HS := Lib.hid S
  have hmem : K ∈ K :: ((Value.slice Ag got.length kg).ownBlock.toList ++ (Value.slice Av 0 kv).ownBlock.toList) := by simp
  have HX := Lib.hid (OD.start hmem h R S.pr hBw)
  obtain ⟨c0, c1, c2, c3, c4, c5⟩ := h.c12
  dsimp only at c0 c1 c2 c3 c4 c5
  have HV := Lib.hid hv
  clear hv
  have hl2 : (got.length : Int) < 256 := by omega
  clear h S R
  go_enter Tryz.func25, Tryz.ntmps25
  go_upto_region 3 with (fail)
  clear c0 c1 c2 c3 c4 c5
  revert HX
  generalize w.alloc (.cells #[.int .u8 4, .int .i64 0, .int .i64 0] 34) = X
  generalize w.heap.size = st
  intro HO1
  obtain ⟨c0, c1, c2, c3, c4, c5⟩ := HO1.out.k.c12
  obtain ⟨a0, a1, a2⟩ := HO1.out.a3
  dsimp only at c0 c1 c2 c3 c4 c5
  go_wp2_with fail
  ((with_reducible refine (asHead10_any hh _ hu).mono ?_); rintro ee wk ⟨rfl, hwk⟩)
  subst hwk
  go_wp2_with fail
  ((with_reducible refine (field_r (f := 2) (v := v) hc HS.out HO1.out.k hs0 (by decide) HV.out HO1.out.pr).mono ?_); rintro ee w4 ⟨rfl, wk, bk, P4, f4⟩)
  have HO2 := Lib.hid ((HO1.out.below hBK bk).fr hBm hn P4 f4)
  clear P4 f4 bk
  try clear c0
  try clear c1
  try clear c2
  try clear c3
  try clear c4
  try clear c5
  try clear a0
  try clear a1
  try clear a2
  obtain ⟨c0, c1, c2, c3, c4, c5⟩ := HO2.out.k.c12
  obtain ⟨a0, a1, a2⟩ := HO2.out.a3
  dsimp only at c0 c1 c2 c3 c4 c5
  try clear e0
  try clear e1
  try clear e2
  try clear e3
  try clear e4
  try clear e5
  obtain ⟨e0, e1, e2, e3, e4, e5⟩ := HO2.out.k.e6
  dsimp only at e0 e1 e2 e3 e4 e5
  go_wp2_with fail
  ((with_reducible refine (asHead10_any v _ hvu).mono ?_); rintro ee wk ⟨rfl, hwk⟩)
  subst hwk
  have z2_0 := HO2.out.k.free 0
  have HO3 := Lib.hid (HO2.out.set hBK (by simp) hn 0 (.int .i64 0) (o' := ⟨0, got, [], i, hh, s, ⟨es, eg, ek, eb, ec, ed⟩⟩) rfl rfl rfl)
  have z3_5 := HO3.out.k.free 5
  have HO4 := Lib.hid (HO3.out.set hBK (by simp) hn 5 (.int .i64 (wSlot v)) (o' := ⟨0, got, [], i, hh, wSlot v, ⟨es, eg, ek, eb, ec, ed⟩⟩) rfl rfl rfl)
  have z4_0 := HO4.out.k.free 0
  have HO5 := Lib.hid (HO4.out.set hBK (by simp) hn 0 (.int .i64 3) (o' := ⟨3, got, [], i, hh, wSlot v, ⟨es, eg, ek, eb, ec, ed⟩⟩) rfl rfl rfl)
  go_wp2_with fail
  ((try simp only [Exit.inBlock, Exit.then]); first | go_end0 | refine bodyPost_ret (results_none rfl _ _ _) rfl ?_)
  exact ⟨rfl, _, _, _, HA.out, HO5.out, fun x hx => .inl hx⟩
set_option maxRecDepth 100000 in
set_option maxHeartbeats 4000000 in
theorem tk7_none {Ag Av : Option Addr} {kg kv i : Nat} {hh s v es eg eb ec ed : Int} {ek : Bool} {got : List EP} (hBm : B ≤ m) (hc : c ≤ 4900) (S : Say p m b n D L c M w) (h : Bk K 80 (RD ⟨7, got, [], i, hh, s, ⟨es, eg, ek, eb, ec, ed⟩⟩ (.slice Ag got.length kg) (.slice Av 0 kv)) w) (R : Rw B ⟨7, got, [], i, hh, s, ⟨es, eg, ek, eb, ec, ed⟩⟩ (.slice Ag got.length kg) (.slice Av 0 kv) w) (hBK : B ≤ K) (hu : U64 hh) (hs0 : 0 ≤ s ∧ s < 256) (hv : M.V (adS s 2) = v) (hvu : U64 v) (h7 : ¬ 0 ≤ wSlot v) :
    Calls Tryz.prog 25 #[.pointer (some ⟨K, 0, none⟩), .pointer (some ⟨b, 0, none⟩)] w (OdS B p m b n c D M.s K (.slice Ag got.length kg) (.slice Av 0 kv) ⟨0, got, [], i, hh, s, ⟨es, eg, ek, eb, ec, ed⟩⟩ (ldM M (adS s 2)) w) := by
  have HA := Lib.hid (S.aftLd (adS s 2))
  have _ := And.intro hc hBK
  have hn := h.neQ S.pr
  have hBw : B ≤ w.heap.size := Nat.le_trans hBm S.pr.m_le
  have HS := Lib.hid S
  have hmem : K ∈ K :: ((Value.slice Ag got.length kg).ownBlock.toList ++ (Value.slice Av 0 kv).ownBlock.toList) := by simp
  have HX := Lib.hid (OD.start hmem h R S.pr hBw)
  obtain ⟨c0, c1, c2, c3, c4, c5⟩ := h.c12
  dsimp only at c0 c1 c2 c3 c4 c5
  have HV := Lib.hid hv
  clear hv
  clear h S R
  go_enter Tryz.func25, Tryz.ntmps25
  go_upto_region 3 with (fail)
  clear c0 c1 c2 c3 c4 c5
  revert HX
  generalize w.alloc (.cells #[.int .u8 4, .int .i64 0, .int .i64 0] 34) = X
  generalize w.heap.size = st
  intro HO1
  obtain ⟨c0, c1, c2, c3, c4, c5⟩ := HO1.out.k.c12
  obtain ⟨a0, a1, a2⟩ := HO1.out.a3
  dsimp only at c0 c1 c2 c3 c4 c5
  go_wp2_with fail
  ((with_reducible refine (asHead10_any hh _ hu).mono ?_); rintro ee wk ⟨rfl, hwk⟩)
  subst hwk
  go_wp2_with fail
  ((with_reducible refine (field_r (f := 2) (v := v) hc HS.out HO1.out.k hs0 (by decide) HV.out HO1.out.pr).mono ?_); rintro ee w4 ⟨rfl, wk, bk, P4, f4⟩)
  have HO2 := Lib.hid ((HO1.out.below hBK bk).fr hBm hn P4 f4)
  clear P4 f4 bk
  try clear c0
  try clear c1
  try clear c2
  try clear c3
  try clear c4
  try clear c5
  try clear a0
  try clear a1
  try clear a2
  obtain ⟨c0, c1, c2, c3, c4, c5⟩ := HO2.out.k.c12
  obtain ⟨a0, a1, a2⟩ := HO2.out.a3
  dsimp only at c0 c1 c2 c3 c4 c5
  try clear e0
  try clear e1
  try clear e2
  try clear e3
  try clear e4
  try clear e5
  obtain ⟨e0, e1, e2, e3, e4, e5⟩ := HO2.out.k.e6
  dsimp only at e0 e1 e2 e3 e4 e5
  go_wp2_with fail
  ((with_reducible refine (asHead10_any v _ hvu).mono ?_); rintro ee wk ⟨rfl, hwk⟩)
  subst hwk
  have z2_0 := HO2.out.k.free 0
  have HO3 := Lib.hid (HO2.out.set hBK (by simp) hn 0 (.int .i64 0) (o' := ⟨0, got, [], i, hh, s, ⟨es, eg, ek, eb, ec, ed⟩⟩) rfl rfl rfl)
  go_wp2_with fail
  ((try simp only [Exit.inBlock, Exit.then]); first | go_end0 | refine bodyPost_ret (results_none rfl _ _ _) rfl ?_)
  exact ⟨rfl, _, _, _, HA.out, HO3.out, fun x hx => .inl hx⟩
set_option maxRecDepth 100000 in
set_option maxHeartbeats 4000000 in
theorem tk7_full {Ag Av : Option Addr} {kg kv i : Nat} {hh s v es eg eb ec ed : Int} {ek : Bool} {got : List EP} (hBm : B ≤ m) (hc : c ≤ 4900) (S : Say p m b n D L c M w) (h : Bk K 80 (RD ⟨7, got, [], i, hh, s, ⟨es, eg, ek, eb, ec, ed⟩⟩ (.slice Ag got.length kg) (.slice Av 0 kv)) w) (R : Rw B ⟨7, got, [], i, hh, s, ⟨es, eg, ek, eb, ec, ed⟩⟩ (.slice Ag got.length kg) (.slice Av 0 kv) w) (hBK : B ≤ K) (hu : U64 hh) (hs0 : 0 ≤ s ∧ s < 256) (hv : M.V (adS s 2) = v) (hvu : U64 v) (h7 : 0 ≤ wSlot v) (hl : ¬ got.length < 256) :
    Calls Tryz.prog 25 #[.pointer (some ⟨K, 0, none⟩), .pointer (some ⟨b, 0, none⟩)] w (OdS B p m b n c D M.s K (.slice Ag got.length kg) (.slice Av 0 kv) ⟨0, got, [], i, hh, s, ⟨es, eg, ek, eb, ec, ed⟩⟩ (ldM M (adS s 2)) w) := by
  have HA := Lib.hid (S.aftLd (adS s 2))
  have _ := And.intro hc hBK
  have hn := h.neQ S.pr
  have hBw : B ≤ w.heap.size := Nat.le_trans hBm S.pr.m_le
  have HS := Lib.hid S
  have hmem : K ∈ K :: ((Value.slice Ag got.length kg).ownBlock.toList ++ (Value.slice Av 0 kv).ownBlock.toList) := by simp
  have HX := Lib.hid (OD.start hmem h R S.pr hBw)
  obtain ⟨c0, c1, c2, c3, c4, c5⟩ := h.c12
  dsimp only at c0 c1 c2 c3 c4 c5
  have HV := Lib.hid hv
  clear hv
  have hl2 : ¬ (got.length : Int) < 256 := by omega
  clear h S R
  go_enter Tryz.func25, Tryz.ntmps25
  go_upto_region 3 with (fail)
  clear c0 c1 c2 c3 c4 c5
  revert HX
  generalize w.alloc (.cells #[.int .u8 4, .int .i64 0, .int .i64 0] 34) = X
  generalize w.heap.size = st
  intro HO1
  obtain ⟨c0, c1, c2, c3, c4, c5⟩ := HO1.out.k.c12
  obtain ⟨a0, a1, a2⟩ := HO1.out.a3
  dsimp only at c0 c1 c2 c3 c4 c5
  go_wp2_with fail
  ((with_reducible refine (asHead10_any hh _ hu).mono ?_); rintro ee wk ⟨rfl, hwk⟩)
  subst hwk
  go_wp2_with fail
  ((with_reducible refine (field_r (f := 2) (v := v) hc HS.out HO1.out.k hs0 (by decide) HV.out HO1.out.pr).mono ?_); rintro ee w4 ⟨rfl, wk, bk, P4, f4⟩)
  have HO2 := Lib.hid ((HO1.out.below hBK bk).fr hBm hn P4 f4)
  clear P4 f4 bk
  try clear c0
  try clear c1
  try clear c2
  try clear c3
  try clear c4
  try clear c5
  try clear a0
  try clear a1
  try clear a2
  obtain ⟨c0, c1, c2, c3, c4, c5⟩ := HO2.out.k.c12
  obtain ⟨a0, a1, a2⟩ := HO2.out.a3
  dsimp only at c0 c1 c2 c3 c4 c5
  try clear e0
  try clear e1
  try clear e2
  try clear e3
  try clear e4
  try clear e5
  obtain ⟨e0, e1, e2, e3, e4, e5⟩ := HO2.out.k.e6
  dsimp only at e0 e1 e2 e3 e4 e5
  go_wp2_with fail
  ((with_reducible refine (asHead10_any v _ hvu).mono ?_); rintro ee wk ⟨rfl, hwk⟩)
  subst hwk
  have z2_0 := HO2.out.k.free 0
  have HO3 := Lib.hid (HO2.out.set hBK (by simp) hn 0 (.int .i64 0) (o' := ⟨0, got, [], i, hh, s, ⟨es, eg, ek, eb, ec, ed⟩⟩) rfl rfl rfl)
  go_wp2_with fail
  ((try simp only [Exit.inBlock, Exit.then]); first | go_end0 | refine bodyPost_ret (results_none rfl _ _ _) rfl ?_)
  exact ⟨rfl, _, _, _, HA.out, HO3.out, fun x hx => .inl hx⟩
set_option maxRecDepth 100000 in
set_option maxHeartbeats 4000000 in
theorem tk_over {o : OG} {vg vv : Value} {Av : Option Addr} {kv : Nat} (hBm : B ≤ m) (S : Say p m b n D L c M w) (h : Bk K 80 (RD o vg vv) w) (R : Rw B o vg vv w) (hBK : B ≤ K) (hvv : vv = .slice Av 0 kv) (hu : U64 o.h) (h0 : o.ln = 0) :
    Calls Tryz.prog 25 #[.pointer (some ⟨K, 0, none⟩), .pointer (some ⟨b, 0, none⟩)] w (OdS B p m b n c D M.s K vg vv o M w) := by
  have HA := Lib.hid S.aft
  have _ := hBK
  have hBw : B ≤ w.heap.size := Nat.le_trans hBm S.pr.m_le
  have hmem : K ∈ K :: (vg.ownBlock.toList ++ vv.ownBlock.toList) := by simp
  have HX := Lib.hid (OD.start hmem h R S.pr hBw)
  obtain ⟨c0, c1, c2, c3, c4, c5⟩ := h.c12
  subst hvv
  rw [h0] at c0
  clear h S R
  go_enter Tryz.func25, Tryz.ntmps25
  go_upto_region 3 with (fail)
  clear c0 c1 c2 c3 c4 c5
  revert HX
  generalize w.alloc (.cells #[.int .u8 4, .int .i64 0, .int .i64 0] 34) = X
  generalize w.heap.size = st
  intro HO1
  obtain ⟨c0, c1, c2, c3, c4, c5⟩ := HO1.out.k.c12
  rw [h0] at c0
  go_wp2_with fail
  ((with_reducible refine (asHead10_any o.h _ hu).mono ?_); rintro ee wk ⟨rfl, hwk⟩)
  subst hwk
  go_wp2_with fail
  ((try simp only [Exit.inBlock, Exit.then]); first | go_end0 | refine bodyPost_ret (results_none rfl _ _ _) rfl ?_)
  exact ⟨rfl, _, _, _, HA.out, HO1.out, fun x hx => .inl hx⟩
end
end Go.Proofs.YtjpanofkikfeoaaGreatDoor
namespace Go.Proofs.YtjpanofkikfeoaaGreatDoor
open Go.RowKit Go.Maps

section
variable {B p m b n c K st : Nat} {D : DataW Unit} {s8 r : Acc8} {L L' : List (Ad × Int)} {M : MV} {w w' w0 : World} {E : List Nat} {o : OG} {vg vv v' : Value}
theorem Pr.keepE (P : Pr p m b n D s8 L r w) (hs : ∀ z, z < w.heap.size → (∀ cs, ¬ Bq z 62 cs w) → w'.heap[z]? = w.heap[z]?) : Pr p m b n D s8 L r w' := by
  obtain ⟨⟨cp, kp⟩, ⟨cb, kb⟩, es, k, hm⟩ := P.blocks (M := ⟨fun _ => 0, r⟩)
  have key : ∀ z (cs : Array Value) t, w.heap[z]? = some (Obj.cells cs t (0, 0)) → t ≠ 62 → w'.heap[z]? = some (Obj.cells cs t (0, 0)) := fun z cs t hz ht => by
    have kz : Bq z t cs.toList w := by unfold Bq; simpa using hz
    exact (hs z kz.lt fun ds kd => ht (bq_type kz kd)).trans hz
  refine ⟨P.prog.keep3 (hs p kp.lt fun ds kd => absurd (bq_type kp kd) (by decide)) (hs m (Array.getElem?_eq_some_iff.1 hm).1 fun ds kd => ?_), ?_, P.mp, P.pb⟩
  · unfold Bq at kd
    rw [hm] at kd
    cases kd
  · obtain ⟨v, hr⟩ := P.ref
    refine ⟨v, key _ _ _ hr.blk (by decide), ⟨hr.own.1, ?_⟩, hr.pos⟩
    rcases hr.own.2 with hn | ⟨g, cap, cur, hv, hB, hh, rest⟩
    · exact .inl hn
    · exact .inr ⟨g, cap, cur, hv, hB, key _ _ _ hh (by decide), rest⟩
theorem ownsRow_form {base : Nat} {t : TypeId} {size k : Nat} {xs : List Value} (h : w.ownsRow base t size v' k xs) : ∃ A c, v' = .slice A k c := by
  rcases h.2 with ⟨rfl, rfl⟩ | ⟨g, cap, cur, rfl, _⟩
  · exact ⟨_, _, rfl⟩
  · exact ⟨_, _, rfl⟩
/-- An entry more in its own row. -/
theorem OD.grow {e : EP} (h : OD B p m b n D s8 K E st o vg vv L r w0 w) (hBK : B ≤ K) (hKE : K ∈ E) (hE : ∀ x, vg.ownBlock = some x → x ∈ E) (hn : K ≠ p ∧ K ≠ b) (ho : w'.ownsRow B 62 6 v' (o.got.length + 1) (flatE o.got ++ e.cells)) (hg : w.grownBy w' vg.ownBlock) (hb : v'.ownBlock = vg.ownBlock ∨ v'.ownBlock = some w.heap.size) :
    w'.cell? ⟨K, 1, none⟩ = some vg ∧ w'.frozen? ⟨K, 1, none⟩ = false ∧ OD B p m b n D s8 K E st { o with got := o.got ++ [e] } v' vv L r w0 (w'.setCell ⟨K, 1, none⟩ v') := by
  have hs : ∀ z, z < w.heap.size → (∀ cs, ¬ Bq z 62 cs w) → w'.heap[z]? = w.heap[z]? := fun z hz hne => hg.block z hz fun e => by
    obtain ⟨_, cs, k⟩ := h.rw_.g.bq (Eq.symm e)
    exact hne cs k
  have hK : Bk K 80 (RD o vg vv) w := h.k
  have hK' : Bk K 80 (RD o vg vv) w' := h.k.same (hs K h.k.lt fun cs k => absurd (bq_type (show Bq K 80 _ w from h.k) k) (by decide))
  have hga : Bk st 34 [.int .u8 4, .int .i64 0, .int .i64 0] w' := h.ga.same (hs st h.ga.lt fun cs k => absurd (bq_type (show Bq st 34 _ w from h.ga) k) (by decide))
  have far : ∀ y, y ≠ K → (w'.setCell ⟨K, 1, none⟩ v').heap[y]? = w'.heap[y]? := fun y hy => Below.heap_setCell w' ⟨K, 1, none⟩ v' y hy
  have hG : OwnE w' B v' (o.got ++ [e]) := by
    unfold OwnE
    rw [flatE_app, List.length_append]
    have : flatE [e] = e.cells := by simp [flatE]
    rw [this]
    exact ho
  have hV : OwnE w' B vv o.g := h.rw_.v.same fun x hx => hg.block x (h.rw_.v.lt hx) fun e => h.rw_.ap x (Eq.symm e) hx
  have hf : FxL B p b E w w' := by
    have hBw : B ≤ w.heap.size := Nat.le_trans hBK (Nat.le_of_lt h.k.lt)
    refine ⟨⟨hg.os, hg.tape, hg.output, hg.size, fun z hz => hg.block z (by omega) fun e => ?_⟩, fun x cs t fr hx _ _ _ h3 => (hg.block x (Array.getElem?_eq_some_iff.1 hx).1 fun e => h3 (hE x (Eq.symm e))).trans hx⟩
    obtain ⟨h1, _⟩ := h.rw_.g.bq (Eq.symm e)
    omega
  refine ⟨hK'.cell 1, hK'.free 1, ⟨hK'.set 1 v' rfl, ⟨hG.same fun x hx => ?_, hV.same fun x hx => ?_, fun x hx hx2 => ?_⟩, hga.same (far st h.gp.2.2), h.gp, (h.pr.keepE hs).setX hK' (by decide) hn.1 hn.2 1 v', (h.f.trans hf).trans (.set (E := E) _ hBK hKE 1 v')⟩⟩
  · obtain ⟨_, cs, k⟩ := hG.bq hx
    exact far x fun e => absurd (bq_type k (show Bq x 80 _ w' from e ▸ hK')) (by decide)
  · obtain ⟨_, cs, k⟩ := hV.bq hx
    exact far x fun e => absurd (bq_type k (show Bq x 80 _ w' from e ▸ hK')) (by decide)
  · rcases hb with hb | hb
    · exact h.rw_.ap x (hb ▸ hx) hx2
    · have := h.rw_.v.lt hx2
      rw [hb] at hx
      injection hx with hx
      omega
end
section
variable {B p m b n c K : Nat} {D : DataW Unit} {L L' : List (Ad × Int)} {M : MV} {w : World}
set_option maxRecDepth 100000 in
set_option maxHeartbeats 4000000 in
theorem tk6_any {Ag Av : Option Addr} {kg kv i : Nat} {hh s v es eg eb ec ed : Int} {ek : Bool} {got : List EP} (hBm : B ≤ m) (hc : c ≤ 4900) (S : Say p m b n D L c M w) (h : Bk K 80 (RD ⟨6, got, [], i, hh, s, ⟨es, eg, ek, eb, ec, ed⟩⟩ (.slice Ag got.length kg) (.slice Av 0 kv)) w) (R : Rw B ⟨6, got, [], i, hh, s, ⟨es, eg, ek, eb, ec, ed⟩⟩ (.slice Ag got.length kg) (.slice Av 0 kv) w) (hBK : B ≤ K) (hu : U64 hh) (hs0 : 0 ≤ s ∧ s < 256) (hv : M.V (adS s 4) = v) (hl : got.length < 256) :
    Calls Tryz.prog 25 #[.pointer (some ⟨K, 0, none⟩), .pointer (some ⟨b, 0, none⟩)] w (OdS B p m b n c D M.s K (.slice Ag got.length kg) (.slice Av 0 kv) ⟨7, got ++ [⟨es, eg, ek, eb, ec, v⟩], [], i, hh, s, ⟨es, eg, ek, eb, ec, v⟩⟩ (ldM M (adS s 4)) w) := by
  obtain ⟨i0, hi0, hz0, hz1, hz2⟩ := info_parts infoE
  have HA := Lib.hid (S.aftLd (adS s 4))
  have hn := h.neQ S.pr
  have hBw : B ≤ w.heap.size := Nat.le_trans hBm S.pr.m_le
  have HS := Lib.hid S
  have hmem : K ∈ (K :: ((Value.slice Ag got.length kg).ownBlock.toList ++ (Value.slice Av 0 kv).ownBlock.toList)) := by simp
  have hmemv : ∀ x, (Value.slice Ag got.length kg).ownBlock = some x → x ∈ (K :: ((Value.slice Ag got.length kg).ownBlock.toList ++ (Value.slice Av 0 kv).ownBlock.toList)) := fun x hx => by rw [hx]; simp
  have HX := Lib.hid (OD.start hmem h R S.pr hBw)
  have HV := Lib.hid hv
  have HL := Lib.hid hl
  obtain ⟨c0, c1, c2, c3, c4, c5⟩ := h.c12
  dsimp only at c0 c1 c2 c3 c4 c5
  clear h S R hv hl
  go_enter Tryz.func25, Tryz.ntmps25
  go_upto_region 3 with (fail)
  clear c0 c1 c2 c3 c4 c5
  revert HX
  generalize w.alloc (.cells #[.int .u8 4, .int .i64 0, .int .i64 0] 34) = X
  generalize w.heap.size = st
  intro HO1
  obtain ⟨c0, c1, c2, c3, c4, c5⟩ := HO1.out.k.c12
  obtain ⟨a0, a1, a2⟩ := HO1.out.a3
  dsimp only at c0 c1 c2 c3 c4 c5
  go_wp2_with fail
  ((with_reducible refine (asHead10_any hh _ hu).mono ?_); rintro ee wk ⟨rfl, hwk⟩)
  subst hwk
  go_wp2_with fail
  ((with_reducible refine (field_r (f := 4) (v := v) hc HS.out HO1.out.k hs0 (by decide) HV.out HO1.out.pr).mono ?_); rintro ee w4 ⟨rfl, wk, bk, P4, f4⟩)
  have HO2 := Lib.hid ((HO1.out.below hBK bk).fr hBm hn P4 f4)
  clear P4 f4 bk HO1 c0 c1 c2 c3 c4 c5 a0 a1 a2
  obtain ⟨c0, c1, c2, c3, c4, c5⟩ := HO2.out.k.c12
  obtain ⟨e0, e1, e2, e3, e4, e5⟩ := HO2.out.k.e6
  dsimp only at c0 c1 c2 c3 c4 c5 e0 e1 e2 e3 e4 e5
  have z11 := HO2.out.k.free 11
  have HO3 := Lib.hid (HO2.out.set hBK hmem hn 11 (.int .u64 v) (o' := ⟨6, got, [], i, hh, s, ⟨es, eg, ek, eb, ec, v⟩⟩) rfl rfl rfl)
  go_upto_region 28 with (fail)
  clear c0 c1 c2 c3 c4 c5 e0 e1 e2 e3 e4 e5 z11 HO2
  revert HO3
  generalize w4.setCell ⟨K, 11, none⟩ (.int .u64 v) = Y
  intro HO3
  obtain ⟨c0, c1, c2, c3, c4, c5⟩ := HO3.out.k.c12
  obtain ⟨e0, e1, e2, e3, e4, e5⟩ := HO3.out.k.e6
  dsimp only at c0 c1 c2 c3 c4 c5 e0 e1 e2 e3 e4 e5
  have hA0 : Below Y.heap.size Y (Y.alloc (.cells #[.int .i64 es, .int .u32 eg, .bool ek, .int .u64 eb, .int .u64 ec, .int .u64 v] 62)) := (Below.refl _ _).alloc (Nat.le_refl _) _
  have HOA := Lib.hid (HO3.out.below hBK (hA0.drew))
  have d1 := (HO3.out.below hBK hA0).k.c12.2.1
  have HNEW := Lib.hid (show Bq Y.heap.size 62 (EP.cells ⟨es, eg, ek, eb, ec, v⟩) (Y.alloc (.cells #[.int .i64 es, .int .u32 eg, .bool ek, .int .u64 eb, .int .u64 ec, .int .u64 v] 62)).drew from Bq.new Y (EP.cells ⟨es, eg, ek, eb, ec, v⟩) 62)
  have hnews : ∀ j u, (EP.cells ⟨es, eg, ek, eb, ec, v⟩)[j]? = some u → (Y.alloc (.cells #[.int .i64 es, .int .u32 eg, .bool ek, .int .u64 eb, .int .u64 ec, .int .u64 v] 62)).drew.cell? ((⟨Y.heap.size, 0, none⟩ : Addr).add j) = some u := by
    intro j u hj
    have h9 := HNEW.out.cell j
    by_cases h0 : j = 0
    · subst h0
      simpa [Addr.add] using h9.trans hj
    · simpa [Addr.add, h0] using h9.trans hj
  have HNW := Lib.hid hnews
  have hone : ∀ u ∈ EP.cells ⟨es, eg, ek, eb, ec, v⟩, u.oneCell' = true := fun u hu => flatE_one (xs := [⟨es, eg, ek, eb, ec, v⟩]) u (by simpa [flatE] using hu)
  have HONE := Lib.hid hone
  have hYB : B ≤ (Y.alloc (.cells #[.int .i64 es, .int .u32 eg, .bool ek, .int .u64 eb, .int .u64 ec, .int .u64 v] 62)).drew.heap.size := Nat.le_trans hBK (Nat.le_of_lt HOA.out.k.lt)
  clear hA0 hnews hone
  go_region_law ((refine step_append_at _ rfl (.tmp 138) (.tmp 143) 31 rfl B 62 i0 _ 6 40 Tryz.underlying31 hi0 hz0 hz1 hz2 rfl (by decide) (.slice Ag got.length kg) got.length (flatE got) (by simp [Act.eval]) HOA.out.rw_.g ⟨Y.heap.size, 0, none⟩ 1 1 (EP.cells ⟨es, eg, ek, eb, ec, v⟩) (by simp [Act.eval]) rfl HNW.out HONE.out (by have := HL.out; unfold maxLen; omega) (by have := HL.out; omega) hYB ?_; intro v' w6 hr6 hg6 hb6; obtain ⟨A6, k6, rfl⟩ := ownsRow_form hr6; obtain ⟨k1, z1, hO6⟩ := HOA.out.grow hBK hmem hmemv hn hr6 hg6 hb6; have HB6 := Lib.hid hb6; have HO6 := Lib.hid hO6; clear hr6 hg6 hb6 hO6))
  all_goals
    have z6_0 := HO6.out.k.free 0
    have hc0 := HO6.out.k.c12.1
    dsimp only at hc0
    have HO7 := Lib.hid (HO6.out.set hBK hmem hn 0 (.int .i64 7) (o' := ⟨7, got ++ [⟨es, eg, ek, eb, ec, v⟩], [], i, hh, s, ⟨es, eg, ek, eb, ec, v⟩⟩) rfl rfl rfl)
    go_wp2_with fail
    ((try simp only [Exit.inBlock, Exit.then]); first | go_end0 | refine bodyPost_ret (results_none rfl _ _ _) rfl ?_)
    refine ⟨rfl, _, _, _, HA.out, HO7.out, fun x hx => ?_⟩
    rcases HB6.out with k | k
    · exact .inl (k ▸ hx)
    · rw [k] at hx
      injection hx with hx
      have := HO3.out.f.low.size
      rw [← hx]
      exact .inr (by simp; omega)
end
end Go.Proofs.YtjpanofkikfeoaaGreatDoor
