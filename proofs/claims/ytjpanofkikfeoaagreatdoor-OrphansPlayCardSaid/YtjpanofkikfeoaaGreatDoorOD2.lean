/-
  A Give of the document's, line by line: what each does to its memory, and what it leaves; condition: both memories say the same, the operation lies as it says, numbers of their kinds.
  A step of the document's operation is the plain one's; a new Take of the document's; condition: both memories say the same, the operation lies as it says, numbers of their kinds.
-/
import Derived.Test.YtjpanofkikfeoaaGreatDoorOD1
import Derived.Test.YtjpanofkikfeoaaGreatDoorF1
namespace Go.Proofs.YtjpanofkikfeoaaGreatDoor
open Go.RowKit Go.Maps

theorem link_r (s : Int) (w : World) : Calls Tryz.prog 59 #[.int .i64 s] w fun e w' => e = .returned (.agg #[.int .u8 9, .int .i64 s, .int .i64 2]) ∧ Below w.heap.size w w' := by
  go_enter Tryz.func59, Tryz.ntmps59
  go_wp2
  exact bodyPost_ret (v := .agg #[.int .u8 9, .int .i64 s, .int .i64 2]) (by simp [results, Tryz.results59, go_sem]) rfl ⟨rfl, (Below.refl _ _).alloc (Nat.le_refl _) _⟩
section
variable {B p m b n c K st gq l : Nat} {D : DataW Unit} {s8 r : Acc8} {L L' : List (Ad × Int)} {M : MV} {w w0 : World} {E : List Nat} {o : OG} {vg : Value}
theorem OD.givn (h : OD B p m b n D s8 K E st o vg (.slice (some ⟨gq, 0, none⟩) l c) L r w0 w) {j : Nat} (hj : j < o.g.length) : w.cell? ⟨gq, j * 6, none⟩ = some (.int .i64 (slA o.g j)) := by
  have := (h.rw_.v.see.six hj).1
  simpa [slA] using this
set_option maxRecDepth 100000 in
set_option maxHeartbeats 4000000 in
theorem gv1_last {kv gv i : Nat} {hh s : Int} {e : EP} {g : List EP} {vg : Value} (hBm : B ≤ m) (hc : c ≤ 4900) (S : Say p m b n D L c M w) (h : Bk K 80 (RD ⟨1, [], g, i, hh, s, e⟩ vg (.slice (some ⟨gv, 0, none⟩) g.length kv)) w) (R : Rw B ⟨1, [], g, i, hh, s, e⟩ vg (.slice (some ⟨gv, 0, none⟩) g.length kv) w) (hBK : B ≤ K) (hu : U64 hh) (hl1 : 0 < g.length) (hl2 : g.length < 100000) {j : Nat} (hj : j = i + 1) (hjl : j < g.length) (hjq : j + 1 = g.length) (hr : ∀ k, k < g.length → 0 ≤ slA g k ∧ slA g k < 256) :
    Calls Tryz.prog 43 #[.pointer (some ⟨K, 0, none⟩), .pointer (some ⟨b, 0, none⟩)] w (OdS B p m b n c D M.s K vg (.slice (some ⟨gv, 0, none⟩) g.length kv) ⟨2, [], g, j, hh, s, e⟩ (stM M (adS (slA g i) 2) (headW (slA g j) 0)) w) := by
  have HA := Lib.hid (S.aftSt (adS (slA g i) 2) (headW (slA g j) 0))
  have _ := And.intro hc hBK
  have hn := h.neQ S.pr
  have hBw : B ≤ w.heap.size := Nat.le_trans hBm S.pr.m_le
  have HS := Lib.hid S
  have hmem : K ∈ (K :: (vg.ownBlock.toList ++ (Value.slice (some ⟨gv, 0, none⟩) g.length kv).ownBlock.toList)) := by simp
  have HX := Lib.hid (OD.start hmem h R S.pr hBw)
  obtain ⟨l1, hl3⟩ : ∃ l1 : Nat, g.length = l1 + 1 := ⟨g.length - 1, by omega⟩
  have e10 : (g.length : Int) - 1 = (l1 : Int) := by omega
  have w10 : IntKind.i64.wrap (l1 : Int) = (l1 : Int) := by simp [IntKind.wrap, IntKind.bits, IntKind.signed]; omega
  have q10 : (l1 : Int) < (g.length : Int) := by omega
  have p10 : (0 : Int) ≤ (l1 : Int) := by omega
  have HL3 := Lib.hid hl3
  have HL2 := Lib.hid hl2
  have hr1 := hr i (by omega)
  have hr2 := hr j hjl
  have e9 : (i : Int) + 1 = (j : Int) := by omega
  have w9 : IntKind.i64.wrap (j : Int) = (j : Int) := by simp [IntKind.wrap, IntKind.bits, IntKind.signed]; omega
  have q9 : (j : Int) < (g.length : Int) := by omega
  have p9 : (0 : Int) ≤ (j : Int) := by omega
  have q8 : (i : Int) < (g.length : Int) := by omega
  have p8 : (0 : Int) ≤ (i : Int) := by omega
  have HI := Lib.hid (show i < g.length by omega)
  have HJ := Lib.hid hjl
  obtain rfl : j = l1 := by omega
  clear hj hjl hjq hr
  clear h S R hl3 hl2
  go_enter Tryz.func43, Tryz.ntmps43
  go_upto_region 1 with (fail)
  revert HX
  generalize w.alloc (.cells #[.int .u8 4, .int .i64 0, .int .i64 0] 34) = X
  generalize w.heap.size = st
  intro HO1
  obtain ⟨c0, c1, c2, c3, c4, c5⟩ := HO1.out.k.c12
  obtain ⟨a0, a1, a2⟩ := HO1.out.a3
  dsimp only at c0 c1 c2 c3 c4 c5
  go_wp2_with fail
  ((with_reducible refine (asHead10_any hh _ hu).mono ?_); rintro ee wk ⟨rfl, hwk⟩)
  subst hwk
  go_wp2_with fail
  have HP := Lib.hid (HO1.out.below hBK (Below.refl _ _).drew)
  have hs0 := Lib.hid (And.intro HP.out.k.c12.2.2.1 (And.intro HP.out.k.c12.2.2.2.1 (And.intro (HP.out.givn HI.out) (HP.out.givn HJ.out))))
  try clear c0
  try clear c1
  try clear c2
  try clear c3
  try clear c4
  try clear c5
  try clear a0
  try clear a1
  try clear a2
  go_region_held3 (fun w9 => w9.cell? ⟨K, 2, none⟩ = some (.slice (some ⟨gv, 0, none⟩) g.length kv) ∧ w9.cell? ⟨K, 3, none⟩ = some (.int .i64 (i : Int)) ∧ w9.cell? ⟨gv, i * 6, none⟩ = some (.int .i64 (slA g i)) ∧ w9.cell? ⟨gv, j * 6, none⟩ = some (.int .i64 (slA g j)))
    (first | exact hs0.out | exact hs1.out | exact hs2.out | exact hs3.out | fail)
    (first
      | (go_at_call 59; (with_reducible refine (link_r (slA g i) _).mono ?_); rintro ee wA ⟨rfl, bA⟩; have HP1 := Lib.hid (HP.out.below hBK bA); have hs1 := Lib.hid (And.intro HP1.out.k.c12.2.2.1 (And.intro HP1.out.k.c12.2.2.2.1 (And.intro (HP1.out.givn HI.out) (HP1.out.givn HJ.out)))); clear bA)
      | (go_at_call 47; (with_reducible refine (head16_any (slA g j) 0 _ u64_0').mono ?_); rintro ee wB ⟨rfl, hwB⟩; subst hwB; have hs2 := Lib.hid (And.intro HP1.out.k.c12.2.2.1 (And.intro HP1.out.k.c12.2.2.2.1 (And.intro (HP1.out.givn HI.out) (HP1.out.givn HJ.out)))))
      | (go_at_call 24; (with_reducible refine (HS.out.stD hc (adS_at hr1 (by decide)) (headW (slA g j) 0) HP1.out.pr).mono ?_); rintro ee wC ⟨rfl, P5, f5⟩; have HR := Lib.hid (HP1.out.fr hBm hn P5 f5); have hs3 := Lib.hid (And.intro HR.out.k.c12.2.2.1 (And.intro HR.out.k.c12.2.2.2.1 (And.intro (HR.out.givn HI.out) (HR.out.givn HJ.out)))); clear P5 f5)
      | fail)
  all_goals
    have HO50 := HR
    try clear c0
    try clear c1
    try clear c2
    try clear c3
    try clear c4
    try clear c5
    try clear a0
    try clear a1
    try clear a2
    obtain ⟨c0, c1, c2, c3, c4, c5⟩ := HO50.out.k.c12
    obtain ⟨a0, a1, a2⟩ := HO50.out.a3
    dsimp only at c0 c1 c2 c3 c4 c5
    have z50_3 := HO50.out.k.free 3
    have HO51 := Lib.hid (HO50.out.set hBK hmem hn 3 (.int .i64 (j : Int)) (o' := ⟨1, [], g, j, hh, s, e⟩) rfl rfl rfl)
    have z51_0 := HO51.out.k.free 0
    have HO52 := Lib.hid (HO51.out.set hBK hmem hn 0 (.int .i64 2) (o' := ⟨2, [], g, j, hh, s, e⟩) rfl rfl rfl)
    go_wp2_with fail
    ((try simp only [Exit.inBlock, Exit.then]); first | go_end0 | refine bodyPost_ret (results_none rfl _ _ _) rfl ?_)
    exact ⟨rfl, _, _, _, HA.out, HO52.out, fun x hx => .inl hx⟩
set_option maxRecDepth 100000 in
set_option maxHeartbeats 4000000 in
theorem gv1_on {kv gv i : Nat} {hh s : Int} {e : EP} {g : List EP} {vg : Value} (hBm : B ≤ m) (hc : c ≤ 4900) (S : Say p m b n D L c M w) (h : Bk K 80 (RD ⟨1, [], g, i, hh, s, e⟩ vg (.slice (some ⟨gv, 0, none⟩) g.length kv)) w) (R : Rw B ⟨1, [], g, i, hh, s, e⟩ vg (.slice (some ⟨gv, 0, none⟩) g.length kv) w) (hBK : B ≤ K) (hu : U64 hh) (hl1 : 0 < g.length) (hl2 : g.length < 100000) {j : Nat} (hj : j = i + 1) (hjl : j < g.length) (hjq : j + 1 ≠ g.length) (hr : ∀ k, k < g.length → 0 ≤ slA g k ∧ slA g k < 256) :
    Calls Tryz.prog 43 #[.pointer (some ⟨K, 0, none⟩), .pointer (some ⟨b, 0, none⟩)] w (OdS B p m b n c D M.s K vg (.slice (some ⟨gv, 0, none⟩) g.length kv) ⟨1, [], g, j, hh, s, e⟩ (stM M (adS (slA g i) 2) (headW (slA g j) 0)) w) := by
  have HA := Lib.hid (S.aftSt (adS (slA g i) 2) (headW (slA g j) 0))
  have _ := And.intro hc hBK
  have hn := h.neQ S.pr
  have hBw : B ≤ w.heap.size := Nat.le_trans hBm S.pr.m_le
  have HS := Lib.hid S
  have hmem : K ∈ (K :: (vg.ownBlock.toList ++ (Value.slice (some ⟨gv, 0, none⟩) g.length kv).ownBlock.toList)) := by simp
  have HX := Lib.hid (OD.start hmem h R S.pr hBw)
  obtain ⟨l1, hl3⟩ : ∃ l1 : Nat, g.length = l1 + 1 := ⟨g.length - 1, by omega⟩
  have e10 : (g.length : Int) - 1 = (l1 : Int) := by omega
  have w10 : IntKind.i64.wrap (l1 : Int) = (l1 : Int) := by simp [IntKind.wrap, IntKind.bits, IntKind.signed]; omega
  have q10 : (l1 : Int) < (g.length : Int) := by omega
  have p10 : (0 : Int) ≤ (l1 : Int) := by omega
  have HL3 := Lib.hid hl3
  have HL2 := Lib.hid hl2
  have hr1 := hr i (by omega)
  have hr2 := hr j hjl
  have e9 : (i : Int) + 1 = (j : Int) := by omega
  have w9 : IntKind.i64.wrap (j : Int) = (j : Int) := by simp [IntKind.wrap, IntKind.bits, IntKind.signed]; omega
  have q9 : (j : Int) < (g.length : Int) := by omega
  have p9 : (0 : Int) ≤ (j : Int) := by omega
  have q8 : (i : Int) < (g.length : Int) := by omega
  have p8 : (0 : Int) ≤ (i : Int) := by omega
  have HI := Lib.hid (show i < g.length by omega)
  have HJ := Lib.hid hjl
  have nq : ¬ (j : Int) = (l1 : Int) := by omega
  clear hj hjl hjq hr
  clear h S R hl3 hl2
  go_enter Tryz.func43, Tryz.ntmps43
  go_upto_region 1 with (fail)
  revert HX
  generalize w.alloc (.cells #[.int .u8 4, .int .i64 0, .int .i64 0] 34) = X
  generalize w.heap.size = st
  intro HO1
  obtain ⟨c0, c1, c2, c3, c4, c5⟩ := HO1.out.k.c12
  obtain ⟨a0, a1, a2⟩ := HO1.out.a3
  dsimp only at c0 c1 c2 c3 c4 c5
  go_wp2_with fail
  ((with_reducible refine (asHead10_any hh _ hu).mono ?_); rintro ee wk ⟨rfl, hwk⟩)
  subst hwk
  go_wp2_with fail
  have HP := Lib.hid (HO1.out.below hBK (Below.refl _ _).drew)
  have hs0 := Lib.hid (And.intro HP.out.k.c12.2.2.1 (And.intro HP.out.k.c12.2.2.2.1 (And.intro (HP.out.givn HI.out) (HP.out.givn HJ.out))))
  try clear c0
  try clear c1
  try clear c2
  try clear c3
  try clear c4
  try clear c5
  try clear a0
  try clear a1
  try clear a2
  go_region_held3 (fun w9 => w9.cell? ⟨K, 2, none⟩ = some (.slice (some ⟨gv, 0, none⟩) g.length kv) ∧ w9.cell? ⟨K, 3, none⟩ = some (.int .i64 (i : Int)) ∧ w9.cell? ⟨gv, i * 6, none⟩ = some (.int .i64 (slA g i)) ∧ w9.cell? ⟨gv, j * 6, none⟩ = some (.int .i64 (slA g j)))
    (first | exact hs0.out | exact hs1.out | exact hs2.out | exact hs3.out | fail)
    (first
      | (go_at_call 59; (with_reducible refine (link_r (slA g i) _).mono ?_); rintro ee wA ⟨rfl, bA⟩; have HP1 := Lib.hid (HP.out.below hBK bA); have hs1 := Lib.hid (And.intro HP1.out.k.c12.2.2.1 (And.intro HP1.out.k.c12.2.2.2.1 (And.intro (HP1.out.givn HI.out) (HP1.out.givn HJ.out)))); clear bA)
      | (go_at_call 47; (with_reducible refine (head16_any (slA g j) 0 _ u64_0').mono ?_); rintro ee wB ⟨rfl, hwB⟩; subst hwB; have hs2 := Lib.hid (And.intro HP1.out.k.c12.2.2.1 (And.intro HP1.out.k.c12.2.2.2.1 (And.intro (HP1.out.givn HI.out) (HP1.out.givn HJ.out)))))
      | (go_at_call 24; (with_reducible refine (HS.out.stD hc (adS_at hr1 (by decide)) (headW (slA g j) 0) HP1.out.pr).mono ?_); rintro ee wC ⟨rfl, P5, f5⟩; have HR := Lib.hid (HP1.out.fr hBm hn P5 f5); have hs3 := Lib.hid (And.intro HR.out.k.c12.2.2.1 (And.intro HR.out.k.c12.2.2.2.1 (And.intro (HR.out.givn HI.out) (HR.out.givn HJ.out)))); clear P5 f5)
      | fail)
  all_goals
    have HO50 := HR
    try clear c0
    try clear c1
    try clear c2
    try clear c3
    try clear c4
    try clear c5
    try clear a0
    try clear a1
    try clear a2
    obtain ⟨c0, c1, c2, c3, c4, c5⟩ := HO50.out.k.c12
    obtain ⟨a0, a1, a2⟩ := HO50.out.a3
    dsimp only at c0 c1 c2 c3 c4 c5
    have z50_3 := HO50.out.k.free 3
    have HO51 := Lib.hid (HO50.out.set hBK hmem hn 3 (.int .i64 (j : Int)) (o' := ⟨1, [], g, j, hh, s, e⟩) rfl rfl rfl)
    go_wp2_with fail
    ((try simp only [Exit.inBlock, Exit.then]); first | go_end0 | refine bodyPost_ret (results_none rfl _ _ _) rfl ?_)
    exact ⟨rfl, _, _, _, HA.out, HO51.out, fun x hx => .inl hx⟩
set_option maxRecDepth 100000 in
set_option maxHeartbeats 4000000 in
theorem gv2_any {kv gv i : Nat} {hh s v : Int} {e : EP} {g : List EP} {vg : Value} (hBm : B ≤ m) (hc : c ≤ 4900) (S : Say p m b n D L c M w) (h : Bk K 80 (RD ⟨2, [], g, i, hh, s, e⟩ vg (.slice (some ⟨gv, 0, none⟩) g.length kv)) w) (R : Rw B ⟨2, [], g, i, hh, s, e⟩ vg (.slice (some ⟨gv, 0, none⟩) g.length kv) w) (hBK : B ≤ K) (hu : U64 hh) (hl1 : 0 < g.length) (hl2 : g.length < 100000) (hv : M.V adO = v) :
    Calls Tryz.prog 43 #[.pointer (some ⟨K, 0, none⟩), .pointer (some ⟨b, 0, none⟩)] w (OdS B p m b n c D M.s K vg (.slice (some ⟨gv, 0, none⟩) g.length kv) ⟨3, [], g, i, v, s, e⟩ (ldM M adO) w) := by
  have HA := Lib.hid (S.aftLd adO)
  have _ := And.intro hc hBK
  have hn := h.neQ S.pr
  have hBw : B ≤ w.heap.size := Nat.le_trans hBm S.pr.m_le
  have HS := Lib.hid S
  have hmem : K ∈ (K :: (vg.ownBlock.toList ++ (Value.slice (some ⟨gv, 0, none⟩) g.length kv).ownBlock.toList)) := by simp
  have HX := Lib.hid (OD.start hmem h R S.pr hBw)
  obtain ⟨l1, hl3⟩ : ∃ l1 : Nat, g.length = l1 + 1 := ⟨g.length - 1, by omega⟩
  have e10 : (g.length : Int) - 1 = (l1 : Int) := by omega
  have w10 : IntKind.i64.wrap (l1 : Int) = (l1 : Int) := by simp [IntKind.wrap, IntKind.bits, IntKind.signed]; omega
  have q10 : (l1 : Int) < (g.length : Int) := by omega
  have p10 : (0 : Int) ≤ (l1 : Int) := by omega
  have HL3 := Lib.hid hl3
  have HL2 := Lib.hid hl2
  have HV := Lib.hid hv
  clear hv
  clear h S R hl3 hl2
  go_enter Tryz.func43, Tryz.ntmps43
  go_upto_region 1 with (fail)
  revert HX
  generalize w.alloc (.cells #[.int .u8 4, .int .i64 0, .int .i64 0] 34) = X
  generalize w.heap.size = st
  intro HO1
  obtain ⟨c0, c1, c2, c3, c4, c5⟩ := HO1.out.k.c12
  obtain ⟨a0, a1, a2⟩ := HO1.out.a3
  dsimp only at c0 c1 c2 c3 c4 c5
  go_wp2_with fail
  ((with_reducible refine (asHead10_any hh _ hu).mono ?_); rintro ee wk ⟨rfl, hwk⟩)
  subst hwk
  go_wp2_with fail
  ((with_reducible refine (HS.out.ldD hc adO_at HV.out HO1.out.pr).mono ?_); rintro ee w4 ⟨rfl, P4, f4⟩)
  have HO2 := Lib.hid (HO1.out.fr hBm hn P4 f4)
  clear P4 f4
  try clear c0
  try clear c1
  try clear c2
  try clear c3
  try clear c4
  try clear c5
  try clear a0
  try clear a1
  try clear a2
  obtain ⟨c0, c1, c2, c3, c4, c5⟩ := HO2.out.k.c12
  obtain ⟨a0, a1, a2⟩ := HO2.out.a3
  dsimp only at c0 c1 c2 c3 c4 c5
  have z2_4 := HO2.out.k.free 4
  have HO3 := Lib.hid (HO2.out.set hBK hmem hn 4 (.int .u64 v) (o' := ⟨2, [], g, i, v, s, e⟩) rfl rfl rfl)
  have z3_0 := HO3.out.k.free 0
  have HO4 := Lib.hid (HO3.out.set hBK hmem hn 0 (.int .i64 3) (o' := ⟨3, [], g, i, v, s, e⟩) rfl rfl rfl)
  go_wp2_with fail
  ((try simp only [Exit.inBlock, Exit.then]); first | go_end0 | refine bodyPost_ret (results_none rfl _ _ _) rfl ?_)
  exact ⟨rfl, _, _, _, HA.out, HO4.out, fun x hx => .inl hx⟩
set_option maxRecDepth 100000 in
set_option maxHeartbeats 4000000 in
theorem gv3_any {kv gv i : Nat} {hh s : Int} {e : EP} {g : List EP} {vg : Value} (hBm : B ≤ m) (hc : c ≤ 4900) (S : Say p m b n D L c M w) (h : Bk K 80 (RD ⟨3, [], g, i, hh, s, e⟩ vg (.slice (some ⟨gv, 0, none⟩) g.length kv)) w) (R : Rw B ⟨3, [], g, i, hh, s, e⟩ vg (.slice (some ⟨gv, 0, none⟩) g.length kv) w) (hBK : B ≤ K) (hu : U64 hh) (hl1 : 0 < g.length) (hl2 : g.length < 100000) (hr : ∀ k, k < g.length → 0 ≤ slA g k ∧ slA g k < 256) :
    Calls Tryz.prog 43 #[.pointer (some ⟨K, 0, none⟩), .pointer (some ⟨b, 0, none⟩)] w (OdS B p m b n c D M.s K vg (.slice (some ⟨gv, 0, none⟩) g.length kv) ⟨4, [], g, i, hh, s, e⟩ (stM M (adS (slA g (g.length - 1)) 2) (headW (wSlot hh) 0)) w) := by
  have HA := Lib.hid (S.aftSt (adS (slA g (g.length - 1)) 2) (headW (wSlot hh) 0))
  have _ := And.intro hc hBK
  have hn := h.neQ S.pr
  have hBw : B ≤ w.heap.size := Nat.le_trans hBm S.pr.m_le
  have HS := Lib.hid S
  have hmem : K ∈ (K :: (vg.ownBlock.toList ++ (Value.slice (some ⟨gv, 0, none⟩) g.length kv).ownBlock.toList)) := by simp
  have HX := Lib.hid (OD.start hmem h R S.pr hBw)
  obtain ⟨l1, hl3⟩ : ∃ l1 : Nat, g.length = l1 + 1 := ⟨g.length - 1, by omega⟩
  have e10 : (g.length : Int) - 1 = (l1 : Int) := by omega
  have w10 : IntKind.i64.wrap (l1 : Int) = (l1 : Int) := by simp [IntKind.wrap, IntKind.bits, IntKind.signed]; omega
  have q10 : (l1 : Int) < (g.length : Int) := by omega
  have p10 : (0 : Int) ≤ (l1 : Int) := by omega
  have HL3 := Lib.hid hl3
  have HL2 := Lib.hid hl2
  have hlq : g.length - 1 = l1 := by omega
  rw [hlq] at HA ⊢
  have hr1 := hr l1 (by omega)
  have HI := Lib.hid (show l1 < g.length by omega)
  clear hr hlq
  clear h S R hl3 hl2
  go_enter Tryz.func43, Tryz.ntmps43
  go_upto_region 1 with (fail)
  revert HX
  generalize w.alloc (.cells #[.int .u8 4, .int .i64 0, .int .i64 0] 34) = X
  generalize w.heap.size = st
  intro HO1
  obtain ⟨c0, c1, c2, c3, c4, c5⟩ := HO1.out.k.c12
  obtain ⟨a0, a1, a2⟩ := HO1.out.a3
  dsimp only at c0 c1 c2 c3 c4 c5
  go_wp2_with fail
  ((with_reducible refine (asHead10_any hh _ hu).mono ?_); rintro ee wk ⟨rfl, hwk⟩)
  subst hwk
  have g0 := HO1.out.givn HI.out
  go_wp2_with fail
  ((with_reducible refine (link_r (slA g l1) _).mono ?_); rintro ee wA ⟨rfl, bA⟩)
  have HO2 := Lib.hid (HO1.out.below hBK bA)
  clear bA g0
  try clear c0
  try clear c1
  try clear c2
  try clear c3
  try clear c4
  try clear c5
  try clear a0
  try clear a1
  try clear a2
  obtain ⟨c0, c1, c2, c3, c4, c5⟩ := HO2.out.k.c12
  obtain ⟨a0, a1, a2⟩ := HO2.out.a3
  dsimp only at c0 c1 c2 c3 c4 c5
  go_wp2_with fail
  ((with_reducible refine (head16_any (wSlot hh) 0 _ u64_0').mono ?_); rintro ee wB ⟨rfl, hwB⟩)
  subst hwB
  go_wp2_with fail
  ((with_reducible refine (HS.out.stD hc (adS_at hr1 (by decide)) (headW (wSlot hh) 0) HO2.out.pr).mono ?_); rintro ee w4 ⟨rfl, P4, f4⟩)
  have HO3 := Lib.hid (HO2.out.fr hBm hn P4 f4)
  clear P4 f4
  try clear c0
  try clear c1
  try clear c2
  try clear c3
  try clear c4
  try clear c5
  try clear a0
  try clear a1
  try clear a2
  obtain ⟨c0, c1, c2, c3, c4, c5⟩ := HO3.out.k.c12
  obtain ⟨a0, a1, a2⟩ := HO3.out.a3
  dsimp only at c0 c1 c2 c3 c4 c5
  have z3_0 := HO3.out.k.free 0
  have HO4 := Lib.hid (HO3.out.set hBK hmem hn 0 (.int .i64 4) (o' := ⟨4, [], g, i, hh, s, e⟩) rfl rfl rfl)
  go_wp2_with fail
  ((try simp only [Exit.inBlock, Exit.then]); first | go_end0 | refine bodyPost_ret (results_none rfl _ _ _) rfl ?_)
  exact ⟨rfl, _, _, _, HA.out, HO4.out, fun x hx => .inl hx⟩
set_option maxRecDepth 100000 in
set_option maxHeartbeats 4000000 in
theorem gv4_true {kv gv i : Nat} {hh s : Int} {e : EP} {g : List EP} {vg : Value} (hBm : B ≤ m) (hc : c ≤ 4900) (S : Say p m b n D L c M w) (h : Bk K 80 (RD ⟨4, [], g, i, hh, s, e⟩ vg (.slice (some ⟨gv, 0, none⟩) g.length kv)) w) (R : Rw B ⟨4, [], g, i, hh, s, e⟩ vg (.slice (some ⟨gv, 0, none⟩) g.length kv) w) (hBK : B ≤ K) (hu : U64 hh) (hl1 : 0 < g.length) (hl2 : g.length < 100000) (hcs : casV M.V adO hh = true) (htg : IntKind.u64.wrap (fld hh 16 48 + 1) = fld hh 16 48 + 1) (htu : U64 (fld hh 16 48 + 1)) :
    Calls Tryz.prog 43 #[.pointer (some ⟨K, 0, none⟩), .pointer (some ⟨b, 0, none⟩)] w (OdS B p m b n c D M.s K vg (.slice (some ⟨gv, 0, none⟩) g.length kv) ⟨0, [], g, i, hh, s, e⟩ (csM M adO hh (headW (slA g 0) (fld hh 16 48 + 1))) w) := by
  have HA := Lib.hid (S.aftCs adO hh (headW (slA g 0) (fld hh 16 48 + 1)))
  have _ := And.intro hc hBK
  have hn := h.neQ S.pr
  have hBw : B ≤ w.heap.size := Nat.le_trans hBm S.pr.m_le
  have HS := Lib.hid S
  have hmem : K ∈ (K :: (vg.ownBlock.toList ++ (Value.slice (some ⟨gv, 0, none⟩) g.length kv).ownBlock.toList)) := by simp
  have HX := Lib.hid (OD.start hmem h R S.pr hBw)
  obtain ⟨l1, hl3⟩ : ∃ l1 : Nat, g.length = l1 + 1 := ⟨g.length - 1, by omega⟩
  have e10 : (g.length : Int) - 1 = (l1 : Int) := by omega
  have w10 : IntKind.i64.wrap (l1 : Int) = (l1 : Int) := by simp [IntKind.wrap, IntKind.bits, IntKind.signed]; omega
  have q10 : (l1 : Int) < (g.length : Int) := by omega
  have p10 : (0 : Int) ≤ (l1 : Int) := by omega
  have HL3 := Lib.hid hl3
  have HL2 := Lib.hid hl2
  have HC := Lib.hid hcs
  clear hcs
  have HI := Lib.hid hl1
  clear h S R hl3 hl2
  go_enter Tryz.func43, Tryz.ntmps43
  go_upto_region 1 with (fail)
  revert HX
  generalize w.alloc (.cells #[.int .u8 4, .int .i64 0, .int .i64 0] 34) = X
  generalize w.heap.size = st
  intro HO1
  obtain ⟨c0, c1, c2, c3, c4, c5⟩ := HO1.out.k.c12
  obtain ⟨a0, a1, a2⟩ := HO1.out.a3
  dsimp only at c0 c1 c2 c3 c4 c5
  go_wp2_with fail
  ((with_reducible refine (asHead10_any hh _ hu).mono ?_); rintro ee wk ⟨rfl, hwk⟩)
  subst hwk
  have z1_0 := HO1.out.k.free 0
  have HO2 := Lib.hid (HO1.out.set hBK hmem hn 0 (.int .i64 2) (o' := ⟨2, [], g, i, hh, s, e⟩) rfl rfl rfl)
  go_wp2_with fail
  have HP := Lib.hid (HO2.out.below hBK (Below.refl _ _).drew)
  have hs0 := Lib.hid (And.intro HP.out.k.c12.2.2.1 (And.intro HP.out.k.c12.2.2.2.2.1 (And.intro (HP.out.givn HI.out) HP.out.a3)))
  try clear c0
  try clear c1
  try clear c2
  try clear c3
  try clear c4
  try clear c5
  try clear a0
  try clear a1
  try clear a2
  simp only [Nat.zero_mul] at hs0
  go_region_held3 (fun w9 => w9.cell? ⟨K, 2, none⟩ = some (.slice (some ⟨gv, 0, none⟩) g.length kv) ∧ w9.cell? ⟨K, 4, none⟩ = some (.int .u64 hh) ∧ w9.cell? ⟨gv, 0, none⟩ = some (.int .i64 (slA g 0)) ∧ w9.cell? ⟨st, 0, none⟩ = some (.int .u8 4) ∧ w9.cell? ⟨st, 1, none⟩ = some (.int .i64 0) ∧ w9.cell? ⟨st, 2, none⟩ = some (.int .i64 0))
    (first | exact hs0.out | exact hs1.out | exact hs3.out | fail)
    (first
      | (go_at_call 47; (with_reducible refine (head16_any (slA g 0) (fld hh 16 48 + 1) _ htu).mono ?_); rintro ee wB ⟨rfl, hwB⟩; subst hwB; have hs1 := Lib.hid (And.intro HP.out.k.c12.2.2.1 (And.intro HP.out.k.c12.2.2.2.2.1 (And.intro (HP.out.givn HI.out) HP.out.a3))); simp only [Nat.zero_mul] at hs1)
      | (go_at_call 46; (with_reducible refine (HS.out.csD hc adO_at hh (headW (slA g 0) (fld hh 16 48 + 1)) HC.out HP.out.pr).mono ?_); rintro ee wC ⟨rfl, P5, f5⟩; have HR := Lib.hid (HP.out.fr hBm hn P5 f5); have hs3 := Lib.hid (And.intro HR.out.k.c12.2.2.1 (And.intro HR.out.k.c12.2.2.2.2.1 (And.intro (HR.out.givn HI.out) HR.out.a3))); simp only [Nat.zero_mul] at hs3; clear P5 f5)
      | fail)
  all_goals
    have HO50 := HR
    try clear c0
    try clear c1
    try clear c2
    try clear c3
    try clear c4
    try clear c5
    try clear a0
    try clear a1
    try clear a2
    obtain ⟨c0, c1, c2, c3, c4, c5⟩ := HO50.out.k.c12
    obtain ⟨a0, a1, a2⟩ := HO50.out.a3
    dsimp only at c0 c1 c2 c3 c4 c5
    have z50_0 := HO50.out.k.free 0
    have HO51 := Lib.hid (HO50.out.set hBK hmem hn 0 (.int .i64 0) (o' := ⟨0, [], g, i, hh, s, e⟩) rfl rfl rfl)
    go_wp2_with fail
    ((try simp only [Exit.inBlock, Exit.then]); first | go_end0 | refine bodyPost_ret (results_none rfl _ _ _) rfl ?_)
    exact ⟨rfl, _, _, _, HA.out, HO51.out, fun x hx => .inl hx⟩
set_option maxRecDepth 100000 in
set_option maxHeartbeats 4000000 in
theorem gv4_false {kv gv i : Nat} {hh s : Int} {e : EP} {g : List EP} {vg : Value} (hBm : B ≤ m) (hc : c ≤ 4900) (S : Say p m b n D L c M w) (h : Bk K 80 (RD ⟨4, [], g, i, hh, s, e⟩ vg (.slice (some ⟨gv, 0, none⟩) g.length kv)) w) (R : Rw B ⟨4, [], g, i, hh, s, e⟩ vg (.slice (some ⟨gv, 0, none⟩) g.length kv) w) (hBK : B ≤ K) (hu : U64 hh) (hl1 : 0 < g.length) (hl2 : g.length < 100000) (hcs : casV M.V adO hh = false) (htg : IntKind.u64.wrap (fld hh 16 48 + 1) = fld hh 16 48 + 1) (htu : U64 (fld hh 16 48 + 1)) :
    Calls Tryz.prog 43 #[.pointer (some ⟨K, 0, none⟩), .pointer (some ⟨b, 0, none⟩)] w (OdS B p m b n c D M.s K vg (.slice (some ⟨gv, 0, none⟩) g.length kv) ⟨2, [], g, i, hh, s, e⟩ (csM M adO hh (headW (slA g 0) (fld hh 16 48 + 1))) w) := by
  have HA := Lib.hid (S.aftCs adO hh (headW (slA g 0) (fld hh 16 48 + 1)))
  have _ := And.intro hc hBK
  have hn := h.neQ S.pr
  have hBw : B ≤ w.heap.size := Nat.le_trans hBm S.pr.m_le
  have HS := Lib.hid S
  have hmem : K ∈ (K :: (vg.ownBlock.toList ++ (Value.slice (some ⟨gv, 0, none⟩) g.length kv).ownBlock.toList)) := by simp
  have HX := Lib.hid (OD.start hmem h R S.pr hBw)
  obtain ⟨l1, hl3⟩ : ∃ l1 : Nat, g.length = l1 + 1 := ⟨g.length - 1, by omega⟩
  have e10 : (g.length : Int) - 1 = (l1 : Int) := by omega
  have w10 : IntKind.i64.wrap (l1 : Int) = (l1 : Int) := by simp [IntKind.wrap, IntKind.bits, IntKind.signed]; omega
  have q10 : (l1 : Int) < (g.length : Int) := by omega
  have p10 : (0 : Int) ≤ (l1 : Int) := by omega
  have HL3 := Lib.hid hl3
  have HL2 := Lib.hid hl2
  have HC := Lib.hid hcs
  clear hcs
  have HI := Lib.hid hl1
  clear h S R hl3 hl2
  go_enter Tryz.func43, Tryz.ntmps43
  go_upto_region 1 with (fail)
  revert HX
  generalize w.alloc (.cells #[.int .u8 4, .int .i64 0, .int .i64 0] 34) = X
  generalize w.heap.size = st
  intro HO1
  obtain ⟨c0, c1, c2, c3, c4, c5⟩ := HO1.out.k.c12
  obtain ⟨a0, a1, a2⟩ := HO1.out.a3
  dsimp only at c0 c1 c2 c3 c4 c5
  go_wp2_with fail
  ((with_reducible refine (asHead10_any hh _ hu).mono ?_); rintro ee wk ⟨rfl, hwk⟩)
  subst hwk
  have z1_0 := HO1.out.k.free 0
  have HO2 := Lib.hid (HO1.out.set hBK hmem hn 0 (.int .i64 2) (o' := ⟨2, [], g, i, hh, s, e⟩) rfl rfl rfl)
  go_wp2_with fail
  have HP := Lib.hid (HO2.out.below hBK (Below.refl _ _).drew)
  have hs0 := Lib.hid (And.intro HP.out.k.c12.2.2.1 (And.intro HP.out.k.c12.2.2.2.2.1 (And.intro (HP.out.givn HI.out) HP.out.a3)))
  try clear c0
  try clear c1
  try clear c2
  try clear c3
  try clear c4
  try clear c5
  try clear a0
  try clear a1
  try clear a2
  simp only [Nat.zero_mul] at hs0
  go_region_held3 (fun w9 => w9.cell? ⟨K, 2, none⟩ = some (.slice (some ⟨gv, 0, none⟩) g.length kv) ∧ w9.cell? ⟨K, 4, none⟩ = some (.int .u64 hh) ∧ w9.cell? ⟨gv, 0, none⟩ = some (.int .i64 (slA g 0)) ∧ w9.cell? ⟨st, 0, none⟩ = some (.int .u8 4) ∧ w9.cell? ⟨st, 1, none⟩ = some (.int .i64 0) ∧ w9.cell? ⟨st, 2, none⟩ = some (.int .i64 0))
    (first | exact hs0.out | exact hs1.out | exact hs3.out | fail)
    (first
      | (go_at_call 47; (with_reducible refine (head16_any (slA g 0) (fld hh 16 48 + 1) _ htu).mono ?_); rintro ee wB ⟨rfl, hwB⟩; subst hwB; have hs1 := Lib.hid (And.intro HP.out.k.c12.2.2.1 (And.intro HP.out.k.c12.2.2.2.2.1 (And.intro (HP.out.givn HI.out) HP.out.a3))); simp only [Nat.zero_mul] at hs1)
      | (go_at_call 46; (with_reducible refine (HS.out.csD hc adO_at hh (headW (slA g 0) (fld hh 16 48 + 1)) HC.out HP.out.pr).mono ?_); rintro ee wC ⟨rfl, P5, f5⟩; have HR := Lib.hid (HP.out.fr hBm hn P5 f5); have hs3 := Lib.hid (And.intro HR.out.k.c12.2.2.1 (And.intro HR.out.k.c12.2.2.2.2.1 (And.intro (HR.out.givn HI.out) HR.out.a3))); simp only [Nat.zero_mul] at hs3; clear P5 f5)
      | fail)
  all_goals
    have HO50 := HR
    try clear c0
    try clear c1
    try clear c2
    try clear c3
    try clear c4
    try clear c5
    try clear a0
    try clear a1
    try clear a2
    obtain ⟨c0, c1, c2, c3, c4, c5⟩ := HO50.out.k.c12
    obtain ⟨a0, a1, a2⟩ := HO50.out.a3
    dsimp only at c0 c1 c2 c3 c4 c5
    go_wp2_with fail
    ((try simp only [Exit.inBlock, Exit.then]); first | go_end0 | refine bodyPost_ret (results_none rfl _ _ _) rfl ?_)
    exact ⟨rfl, _, _, _, HA.out, HO50.out, fun x hx => .inl hx⟩
set_option maxRecDepth 100000 in
set_option maxHeartbeats 4000000 in
theorem gv0_any {kv gv i : Nat} {hh s : Int} {e : EP} {g : List EP} {vg : Value} (hBm : B ≤ m) (hc : c ≤ 4900) (S : Say p m b n D L c M w) (h : Bk K 80 (RD ⟨0, [], g, i, hh, s, e⟩ vg (.slice (some ⟨gv, 0, none⟩) g.length kv)) w) (R : Rw B ⟨0, [], g, i, hh, s, e⟩ vg (.slice (some ⟨gv, 0, none⟩) g.length kv) w) (hBK : B ≤ K) (hu : U64 hh) (hl1 : 0 < g.length) (hl2 : g.length < 100000) :
    Calls Tryz.prog 43 #[.pointer (some ⟨K, 0, none⟩), .pointer (some ⟨b, 0, none⟩)] w (OdS B p m b n c D M.s K vg (.slice (some ⟨gv, 0, none⟩) g.length kv) ⟨0, [], g, i, hh, s, e⟩ (M) w) := by
  have HA := Lib.hid (S.aft)
  have _ := And.intro hc hBK
  have hn := h.neQ S.pr
  have hBw : B ≤ w.heap.size := Nat.le_trans hBm S.pr.m_le
  have HS := Lib.hid S
  have hmem : K ∈ (K :: (vg.ownBlock.toList ++ (Value.slice (some ⟨gv, 0, none⟩) g.length kv).ownBlock.toList)) := by simp
  have HX := Lib.hid (OD.start hmem h R S.pr hBw)
  obtain ⟨l1, hl3⟩ : ∃ l1 : Nat, g.length = l1 + 1 := ⟨g.length - 1, by omega⟩
  have e10 : (g.length : Int) - 1 = (l1 : Int) := by omega
  have w10 : IntKind.i64.wrap (l1 : Int) = (l1 : Int) := by simp [IntKind.wrap, IntKind.bits, IntKind.signed]; omega
  have q10 : (l1 : Int) < (g.length : Int) := by omega
  have p10 : (0 : Int) ≤ (l1 : Int) := by omega
  have HL3 := Lib.hid hl3
  have HL2 := Lib.hid hl2
  clear h S R hl3 hl2
  go_enter Tryz.func43, Tryz.ntmps43
  go_upto_region 1 with (fail)
  revert HX
  generalize w.alloc (.cells #[.int .u8 4, .int .i64 0, .int .i64 0] 34) = X
  generalize w.heap.size = st
  intro HO1
  obtain ⟨c0, c1, c2, c3, c4, c5⟩ := HO1.out.k.c12
  obtain ⟨a0, a1, a2⟩ := HO1.out.a3
  dsimp only at c0 c1 c2 c3 c4 c5
  go_wp2_with fail
  ((with_reducible refine (asHead10_any hh _ hu).mono ?_); rintro ee wk ⟨rfl, hwk⟩)
  subst hwk
  go_wp2_with fail
  ((try simp only [Exit.inBlock, Exit.then]); first | go_end0 | refine bodyPost_ret (results_none rfl _ _ _) rfl ?_)
  exact ⟨rfl, _, _, _, HA.out, HO1.out, fun x hx => .inl hx⟩
set_option maxRecDepth 100000 in
theorem gv_step {o : OG} {vg : Value} {k0 : Nat} {A0 : Option Addr} (h : Bk K 80 (RD o vg (.slice A0 o.g.length k0)) w) (hl : 0 < o.g.length) {Q : Ending → World → Prop} (hq : Calls Tryz.prog 43 #[.pointer (some ⟨K, 0, none⟩), .pointer (some ⟨b, 0, none⟩)] w fun e w' => e = .returned (.tuple #[]) ∧ Q e w') :
    Calls Tryz.prog 25 #[.pointer (some ⟨K, 0, none⟩), .pointer (some ⟨b, 0, none⟩)] w Q := by
  obtain ⟨c0, c1, c2, c3, c4, c5⟩ := h.c12
  have hl2 : (0 : Int) < (o.g.length : Int) := by omega
  have HQ := Lib.hid hq
  clear h hq hl
  go_enter Tryz.func25, Tryz.ntmps25
  go_wp2_with fail
  ((with_reducible refine (HQ.out).mono ?_); rintro ee w4 ⟨rfl, hQ⟩)
  have HQ4 := Lib.hid hQ
  clear hQ HQ
  go_wp2_with fail
  ((try simp only [Exit.inBlock, Exit.then]); first | go_end0 | refine bodyPost_ret (results_none rfl _ _ _) rfl ?_)
  exact HQ4.out
end
end Go.Proofs.YtjpanofkikfeoaaGreatDoor
namespace Go.Proofs.YtjpanofkikfeoaaGreatDoor
open Go.RowKit Go.Maps

section
variable {B p m b n c K : Nat} {D : DataW Unit} {L : List (Ad × Int)} {M : MV} {w : World}
theorem docTake {o : OG} {vg vv : Value} (hBm : B ≤ m) (hc : c ≤ 4900) (S : Say p m b n D L c M w) (ok : ONum o) (hg : o.g = []) (h : Bk K 80 (RD o vg vv) w) (R : Rw B o vg vv w) (hBK : B ≤ K) :
    Calls Tryz.prog 25 #[.pointer (some ⟨K, 0, none⟩), .pointer (some ⟨b, 0, none⟩)] w (OdS B p m b n c D M.s K vg vv (takeX o M).1 (takeX o M).2 w) := by
  obtain ⟨Ag, kg, rfl, _, _, _⟩ := R.g.slice
  obtain ⟨Av, kv, rfl, _, _, _⟩ := R.v.slice
  obtain ⟨ln, got, g, i, hh, s, ⟨es, eg, ek, eb, ec, ed⟩⟩ := o
  obtain ⟨n1, n2, n3, n4, n5, n6⟩ := ok
  replace n6 := n6 hg
  simp only at hg n1 n2 n6
  subst hg
  obtain ⟨_, t2, t3, t4, t5, t6⟩ := n6
  have hu := S.u64
  unfold takeX
  dsimp only
  obtain rfl | rfl | rfl | rfl | rfl | rfl | rfl | rfl : ln = 0 ∨ ln = 1 ∨ ln = 2 ∨ ln = 3 ∨ ln = 4 ∨ ln = 5 ∨ ln = 6 ∨ ln = 7 := by omega
  · exact tk_over hBm S h R hBK rfl n1 rfl
  · rw [if_pos rfl]
    by_cases hneg : wSlot (M.V adO) < 0
    · simp only [if_pos hneg]
      exact tk1_none hBm hc S h R hBK n1 rfl (hu _) hneg
    · simp only [if_neg hneg]
      exact tk1_some hBm hc S h R hBK n1 rfl (hu _) hneg
  · rw [if_neg (show ¬ (2 : Int) = 1 by decide), if_pos rfl]
    by_cases hq : casV M.V adO hh = true
    · rw [if_pos hq]
      exact tk2_true hBm hc S h R hBK n1 hq (tag_wrap hh) (tag_u64 hh)
    · rw [if_neg hq]
      exact tk2_false hBm hc S h R hBK n1 (by simpa using hq) (tag_wrap hh) (tag_u64 hh)
  · rw [if_neg (show ¬ (3 : Int) = 1 by decide), if_neg (show ¬ (3 : Int) = 2 by decide), if_pos rfl]
    exact tk3_any hBm hc S h R hBK n1 (t3 (by decide)) rfl (hu _)
  · rw [if_neg (show ¬ (4 : Int) = 1 by decide), if_neg (show ¬ (4 : Int) = 2 by decide), if_neg (show ¬ (4 : Int) = 3 by decide), if_pos rfl]
    exact tk4_any hBm hc S h R hBK n1 (t3 (by decide)) rfl
  · rw [if_neg (show ¬ (5 : Int) = 1 by decide), if_neg (show ¬ (5 : Int) = 2 by decide), if_neg (show ¬ (5 : Int) = 3 by decide), if_neg (show ¬ (5 : Int) = 4 by decide), if_pos rfl]
    exact tk5_any hBm hc S h R hBK n1 (t3 (by decide)) rfl
  · rw [if_neg (show ¬ (6 : Int) = 1 by decide), if_neg (show ¬ (6 : Int) = 2 by decide), if_neg (show ¬ (6 : Int) = 3 by decide), if_neg (show ¬ (6 : Int) = 4 by decide), if_neg (show ¬ (6 : Int) = 5 by decide), if_pos rfl]
    exact tk6_any hBm hc S h R hBK n1 (t3 (by decide)) rfl (t4 (by decide))
  · rw [if_neg (show ¬ (7 : Int) = 1 by decide), if_neg (show ¬ (7 : Int) = 2 by decide), if_neg (show ¬ (7 : Int) = 3 by decide), if_neg (show ¬ (7 : Int) = 4 by decide), if_neg (show ¬ (7 : Int) = 5 by decide), if_neg (show ¬ (7 : Int) = 6 by decide), if_pos rfl]
    by_cases h7 : 0 ≤ wSlot (M.V (adS s 2))
    · by_cases hl : got.length < 256
      · rw [if_pos ⟨h7, hl⟩]
        exact tk7_on hBm hc S h R hBK n1 (t3 (by decide)) rfl (hu _) h7 hl
      · rw [if_neg (fun k => hl k.2)]
        exact tk7_full hBm hc S h R hBK n1 (t3 (by decide)) rfl (hu _) h7 hl
    · rw [if_neg (fun k => h7 k.1)]
      exact tk7_none hBm hc S h R hBK n1 (t3 (by decide)) rfl (hu _) h7
theorem docGive {o : OG} {vg vv : Value} (hBm : B ≤ m) (hc : c ≤ 4900) (S : Say p m b n D L c M w) (ok : ONum o) (hg : o.g ≠ []) (hgl : o.g.length < 100000) (h : Bk K 80 (RD o vg vv) w) (R : Rw B o vg vv w) (hBK : B ≤ K) :
    Calls Tryz.prog 25 #[.pointer (some ⟨K, 0, none⟩), .pointer (some ⟨b, 0, none⟩)] w (OdS B p m b n c D M.s K vg vv (giveX o M).1 (giveX o M).2 w) := by
  have hl0 : 0 < o.g.length := Nat.pos_of_ne_zero fun e => hg (List.length_eq_zero_iff.1 e)
  obtain ⟨Av, kv, rfl, _, _, hA⟩ := R.v.slice
  obtain ⟨gv, rfl⟩ := hA hl0
  refine gv_step h hl0 ?_
  obtain ⟨ln, got, g, i, hh, s, e⟩ := o
  obtain ⟨n1, n2, n3, n4, n5, n6⟩ := ok
  replace n5 := n5 hg
  simp only at hg hgl hl0 n1 n2 n5
  obtain ⟨rfl, n7⟩ := n5
  have hu := S.u64
  have key : Calls Tryz.prog 43 #[.pointer (some ⟨K, 0, none⟩), .pointer (some ⟨b, 0, none⟩)] w (OdS B p m b n c D M.s K vg (.slice (some ⟨gv, 0, none⟩) g.length kv) (giveX ⟨ln, [], g, i, hh, s, e⟩ M).1 (giveX ⟨ln, [], g, i, hh, s, e⟩ M).2 w) := by
    unfold giveX
    dsimp only
    by_cases h0 : ln = 0
    · subst h0
      exact gv0_any hBm hc S h R hBK n1 hl0 hgl
    · obtain ⟨m1, m2, m3⟩ := n7 h0
      have hr : ∀ k, k < g.length → 0 ≤ slA g k ∧ slA g k < 256 := fun k hk => slA_in m1 hk
      obtain rfl | rfl | rfl | rfl : ln = 1 ∨ ln = 2 ∨ ln = 3 ∨ ln = 4 := by omega
      · rw [if_pos rfl]
        have hj := m3 rfl
        by_cases hq : i + 2 = g.length
        · simp only [if_pos hq]
          exact gv1_last hBm hc S h R hBK n1 hl0 hgl (j := i + 1) rfl hj hq hr
        · simp only [if_neg hq]
          exact gv1_on hBm hc S h R hBK n1 hl0 hgl (j := i + 1) rfl hj hq hr
      · rw [if_neg (show ¬ (2 : Int) = 1 by decide), if_pos rfl]
        exact gv2_any hBm hc S h R hBK n1 hl0 hgl rfl
      · rw [if_neg (show ¬ (3 : Int) = 1 by decide), if_neg (show ¬ (3 : Int) = 2 by decide), if_pos rfl]
        exact gv3_any hBm hc S h R hBK n1 hl0 hgl hr
      · rw [if_neg (show ¬ (4 : Int) = 1 by decide), if_neg (show ¬ (4 : Int) = 2 by decide), if_neg (show ¬ (4 : Int) = 3 by decide), if_pos rfl]
        by_cases hq : casV M.V adO hh = true
        · simp only [if_pos hq]
          exact gv4_true hBm hc S h R hBK n1 hl0 hgl hq (tag_wrap hh) (tag_u64 hh)
        · simp only [if_neg hq]
          exact gv4_false hBm hc S h R hBK n1 hl0 hgl (by simpa using hq) (tag_wrap hh) (tag_u64 hh)
  refine key.mono ?_
  rintro ee w' H
  exact ⟨H.1, H⟩
/-- A step of the document's. -/
theorem docO {o : OG} {vg vv : Value} (hBm : B ≤ m) (hc : c ≤ 4900) (S : Say p m b n D L c M w) (ok : ONum o) (hgl : o.g.length < 100000) (h : Bk K 80 (RD o vg vv) w) (R : Rw B o vg vv w) (hBK : B ≤ K) :
    Calls Tryz.prog 25 #[.pointer (some ⟨K, 0, none⟩), .pointer (some ⟨b, 0, none⟩)] w (OdS B p m b n c D M.s K vg vv (oX o M).1 (oX o M).2 w) := by
  unfold oX
  by_cases hg : o.g = []
  · rw [if_pos hg]
    exact docTake hBm hc S ok hg h R hBK
  · rw [if_neg hg]
    exact docGive hBm hc S ok hg hgl h R hBK
theorem docNewT (w : World) : Calls Tryz.prog 11 #[] w fun e w' => ∃ K, e = .returned (.pointer (some ⟨K, 0, none⟩)) ∧ w.heap.size ≤ K ∧ Bk K 80 (RD newT (.slice none 0 0) (.slice none 0 0)) w' ∧ Below w.heap.size w w' := by
  go_enter Tryz.func11, Tryz.ntmps11
  go_wp2
  go_ret
  exact ⟨w.heap.size, rfl, Nat.le_refl _, Bk.new w (RD newT (.slice none 0 0) (.slice none 0 0)) _, (Below.refl _ _).alloc (Nat.le_refl _) _⟩
end
end Go.Proofs.YtjpanofkikfeoaaGreatDoor
