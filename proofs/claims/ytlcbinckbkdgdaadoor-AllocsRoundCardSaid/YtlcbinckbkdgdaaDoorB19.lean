/-
  Refs compared; the law's Header; one thread that allocs and frees one slot again and again, in plain words; condition: the tables as laid, the memory lies as it says.
-/
import Derived.Test.YtlcbinckbkdgdaaDoorB18
namespace Go.Proofs.YtlcbinckbkdgdaaDoor
open Go.RowKit Go.Maps

def refS (s g : Int) (m : Bool) : Value := .agg #[.int .i64 s, .int .u32 g, .bool m]
theorem eqIn_ref (s g s' g' : Int) (m m' : Bool) (w : World) : (Op.equalIn 10000 34 (.agg #[.int .i64 s, .int .u32 g, .bool m]) (.agg #[.int .i64 s', .int .u32 g', .bool m'])).run Tryd.prog w = .ok (s == s' && g == g' && m == m') w := by
  have hS : Tryd.prog.underlying 34 = some (.struct (Tryd.prog.fieldsOf 34)) := by kernel_rfl
  have hp : Tryd.prog.stoodInHeld 34 = false := by kernel_rfl
  have u3 := Tryd.underlying3
  have a3 := Tryd.isAgg3
  have z3 := Tryd.sizeOf3
  have u4 := Tryd.underlying32
  have a4 := Tryd.isAgg32
  have z4 := Tryd.sizeOf32
  have u5 := Tryd.underlying4
  have a5 := Tryd.isAgg4
  have z5 := Tryd.sizeOf4
  rw [show (10000 : Nat) = 9999 + 1 from rfl, run_equalIn_agg w 9999 34 _ _ hS hp]
  simp only [Program.fieldsOf, Tryd.underlying34]
  go_simp
  by_cases h1 : s = s' <;> by_cases h2 : g = g' <;> cases m <;> cases m' <;> simp [h1, h2]
theorem eql_ref (s g s' g' : Int) (m m' : Bool) (w : World) : (binOp .eql 34 (.agg #[.int .i64 s, .int .u32 g, .bool m]) (.agg #[.int .i64 s', .int .u32 g', .bool m'])).run Tryd.prog w = .ok (.bool (s == s' && g == g' && m == m')) w := by
  rw [run_eql_struct, eqIn_ref]
  rfl
theorem neq_ref (s g s' g' : Int) (m m' : Bool) (w : World) : (binOp .neq 34 (.agg #[.int .i64 s, .int .u32 g, .bool m]) (.agg #[.int .i64 s', .int .u32 g', .bool m'])).run Tryd.prog w = .ok (.bool !(s == s' && g == g' && m == m')) w := by
  rw [run_neq_struct, eqIn_ref]
  rfl
theorem neq_same (s g : Int) (m : Bool) (w : World) : (binOp .neq 34 (.agg #[.int .i64 s, .int .u32 g, .bool m]) (.agg #[.int .i64 s, .int .u32 g, .bool m])).run Tryd.prog w = .ok (.bool false) w := by
  rw [neq_ref]
  simp
section
variable {p b : Nat} {M : MV} {w : World} {s : Int}
theorem vx_loadH (F : VX p b M w) (hs : M.s.st < 1000000) (h : 0 ≤ s ∧ s < 256) :
    Calls Tryd.prog 27 #[.pointer (some ⟨p, 0, none⟩), .agg #[.int .u8 9, .int .i64 s, .int .i64 0]] w fun e w' => e = .returned (.int .u64 (M.V (adH s))) ∧ VX p b (ldM M (adH s)) w' ∧ Only p b w w' := by
  have := F.load hs (adH s)
  have h := slot_i64 h
  rw [(adH_at h).1, (adH_at h).2.1, (adH_at h).2.2] at this
  exact this
theorem vx_loadP (F : VX p b M w) (hs : M.s.st < 1000000) (h : 0 ≤ s ∧ s < 32) :
    Calls Tryd.prog 27 #[.pointer (some ⟨p, 0, none⟩), .agg #[.int .u8 6, .int .i64 s, .int .i64 1]] w fun e w' => e = .returned (.int .u64 (M.V (adP s))) ∧ VX p b (ldM M (adP s)) w' ∧ Only p b w w' := by
  have := F.load hs (adP s)
  have h := g_i64 h
  rw [(adP_at h).1, (adP_at h).2.1, (adP_at h).2.2] at this
  exact this
set_option maxRecDepth 100000 in
set_option maxHeartbeats 4000000 in
theorem header8_any (F : VX p b M w) (hs : M.s.st < 1000000) (h : 0 ≤ s ∧ s < 256) :
    Calls Tryd.prog 26 #[.pointer (some ⟨p, 0, none⟩), .int .i64 s] w fun e w' => e = .returned (.tuple #[.int .u8 (stS (fld (M.V (adH s)) 0 3)), .int .u32 (fld (M.V (adH s)) 3 32)]) ∧ VX p b (ldM M (adH s)) w' ∧ Only p b w w' := by
  have hld := vx_loadH F hs h
  have hu := F.u64 (adH s)
  clear F
  go_enter Tryd.func26, Tryd.ntmps26
  go_wp2_with fail
  ((with_reducible refine hld.mono ?_); rintro e w1 ⟨rfl, F1, h1⟩)
  have HF := Lib.hid F1
  have HO := Lib.hid h1
  have hah := asHeader_any (M.V (adH s)) w1 F1.lay hu
  clear F1 h1 hld
  go_wp2_with fail
  ((with_reducible refine hah.mono ?_); rintro e w2 ⟨rfl, n, rfl⟩)
  have hb := below_drewN' (Below.refl w1.heap.size w1) n
  have HF2 := Lib.hid (HF.out.below hb)
  have HO2 := Lib.hid (HO.out.trans (.of_below hb))
  clear hah hb
  revert HF2 HO2
  generalize w1.drewN n = wz
  intro HF2 HO2
  go_wp2_with fail
  go_ret2
  exact ⟨rfl, HF2.out, HO2.out⟩
end
theorem stS_of {s g : Int} (h0 : 0 ≤ s) (h1 : s ≤ 4) (g0 : 0 ≤ g) (g1 : g < 4294967296) : stS (fld (headerW s g) 0 3) = s ∧ fld (headerW s g) 3 32 = g := by
  refine ⟨?_, gW_header s g h0 h1 g0 g1⟩
  rw [show fld (headerW s g) 0 3 = s from stW_header s g h0 h1 g0 g1]
  exact stS_small h1
/-- The first seven slots go, behind i of them. -/
structure RdA (i : Nat) (M : MV) : Prop where
  stk : Stk (maV M.V).ms (downS (8 - i)) (8 + i)
  hdr : (maV M.V).hdr 0 = 0
  sst : (maV M.V).sst 0 = 1
  spk : (maV M.V).spk 0 = 0
  st : M.s.st = 25 + 8 * i
theorem rdA0 {M : MV} (h : Beg 8 1 M) : RdA 0 M := ⟨h.stk, h.hdr 0, h.sst 0 (by decide) (by decide), h.spk 0, by rw [h.st]; rfl⟩
theorem rdA_next {i : Nat} {M : MV} (h : RdA i M) (hi : i < 7) : ∃ o M', iterA M 8 = (o, M') ∧ (∀ j, j < 8 → (iterA M j).1.o.ln ≠ 0) ∧ o.o.ln = 0 ∧ RdA (i + 1) M' := by
  have hd : downS (8 - i) = ((7 - i : Nat) : Int) :: downS (7 - i) := by rw [show 8 - i = (7 - i) + 1 by omega]; rfl
  have hc : ((7 - i : Nat) : Int) = 7 - (i : Int) := by omega
  have hst := h.stk
  rw [hd, hc] at hst
  have hseg : segF (7 - (i : Int)) = 0 := by unfold segF; omega
  obtain ⟨e, h1, h2⟩ := made_alone hst (by rw [hseg, h.sst]; decide)
  obtain ⟨m1, m2, m3⟩ := made_era hst
  refine ⟨_, _, h1, h2, rfl, ?_, ?_, ?_, ?_, ?_⟩
  · have := made_stk hst (by omega)
    rw [show (8 : Int) + ((i + 1 : Nat) : Int) = 8 + i + 1 by omega, show 8 - (i + 1) = 7 - i by omega]
    exact this
  · rw [made_ma hst]
    show (if (0 : Int) = 7 - (i : Int) then headerW 1 (gW ((maV M.V).hdr (7 - i))) else (maV M.V).hdr 0) = 0
    rw [if_neg (by omega)]
    exact h.hdr
  · rw [made_ma hst]; exact h.sst
  · rw [made_ma hst]; exact h.spk
  · rw [m3, h.st]; omega
/-- One slot in the list, of generation g. -/
structure Rd (g : Nat) (M : MV) : Prop where
  stk : Stk (maV M.V).ms [0] (15 + 2 * g)
  hdr : (maV M.V).hdr 0 = headerW 0 g
  sst : (maV M.V).sst 0 = 1
  spk : (maV M.V).spk 0 = 0
  st : M.s.st = 81 + 15 * g
theorem rd0 {M : MV} (h : RdA 7 M) : Rd 0 M := ⟨h.stk, by rw [h.hdr]; decide, h.sst, h.spk, by rw [h.st]; rfl⟩
/-- .. got. -/
structure RdM (g : Nat) (M : MV) : Prop where
  stk : Stk (maV M.V).ms [] (16 + 2 * g)
  hdr : (maV M.V).hdr 0 = headerW 1 g
  sst : (maV M.V).sst 0 = 1
  spk : (maV M.V).spk 0 = 0
  st : M.s.st = 89 + 15 * g
theorem in0 : 0 ≤ (0 : Int) ∧ (0 : Int) < 256 := by decide
theorem rd_made {g : Nat} {M : MV} (h : Rd g M) (hg : g < 60) : ∃ o M', iterA M 8 = (o, M') ∧ (∀ j, j < 8 → (iterA M j).1.o.ln ≠ 0) ∧ o.o.ln = 0 ∧ o.o.got = true ∧ refV o = .agg #[.int .i64 0, .int .u32 g, .bool false] ∧ RdM g M' := by
  obtain ⟨e, h1, h2⟩ := made_alone (s := 0) (S := []) h.stk (by rw [show segF 0 = 0 from rfl, h.sst]; decide)
  obtain ⟨m1, m2, m3⟩ := made_era (s := 0) (S := []) h.stk
  have hgw : gW (M.V (adH 0)) = g := by rw [← ma_hdr (V := M.V) in0, h.hdr]; exact gW_header 0 g (by decide) (by decide) (by omega) (by omega)
  refine ⟨_, _, h1, h2, rfl, rfl, ?_, ?_, ?_, ?_, ?_, ?_⟩
  · unfold refV
    rw [if_pos rfl]
    show (.agg #[.int .i64 0, .int .u32 (gW (M.V (adH 0))), .bool false] : Value) = _
    rw [hgw]
  · have := made_stk (s := 0) (S := []) h.stk (by omega)
    rw [show (16 : Int) + 2 * (g : Int) = 15 + 2 * (g : Int) + 1 by omega]
    exact this
  · rw [made_ma (s := 0) (S := []) h.stk]
    show (if (0 : Int) = 0 then headerW 1 (gW ((maV M.V).hdr 0)) else (maV M.V).hdr 0) = _
    rw [if_pos rfl, h.hdr, gW_header 0 g (by decide) (by decide) (by omega) (by omega)]
  · rw [made_ma (s := 0) (S := []) h.stk]; exact h.sst
  · rw [made_ma (s := 0) (S := []) h.stk]; exact h.spk
  · rw [m3, h.st]; omega
theorem rd_freed {g m : Nat} {M : MV} (h : RdM g M) (hg : g < m) (hm : m < 60) : (iterF 0 m M 6).1.o.ln = 0 ∧ (iterF 0 m M 6).1.got = 0 ∧ (iterF 0 m M 6).2.V (adH 0) = headerW 0 (g + 1) ∧ (iterF 0 m M 6).2.s.st = 95 + 15 * g ∧ ∀ x, Rd (g + 1) (ldM (iterF 0 m M 6).2 x) := by
  have hgw : gW (M.V (adH 0)) = g := by rw [← ma_hdr (V := M.V) in0, h.hdr]; exact gW_header 1 g (by decide) (by decide) (by omega) (by omega)
  have hss : (maV M.V).sst (segF 0) ≠ 2 := by rw [show segF 0 = 0 from rfl, h.sst]; decide
  obtain ⟨f1, f2, f3, f4, _⟩ := free_alone (s := 0) (S := []) (m := m) h.stk (by simp) in0 (by omega) hss (by rw [hgw]; omega)
  obtain ⟨g1, g2, g3, _⟩ := freed_ma (s := 0) (S := []) h.stk (by simp) in0 (by omega) hss (m := m) (by rw [hgw]; omega)
  have hh : (maV (freedM M 0).V).hdr 0 = headerW 0 (g + 1) := by
    rw [g1]
    show (if (0 : Int) = 0 then headerW 0 (gW ((maV M.V).hdr 0) + 1) else (maV M.V).hdr 0) = _
    rw [if_pos rfl, h.hdr, gW_header 1 g (by decide) (by decide) (by omega) (by omega)]
  have hst : (freedM M 0).s.st = 95 + 15 * g := by
    show M.s.st + 1 + 1 + 1 + 1 + 1 + 1 = _
    rw [h.st]
    omega
  rw [f3]
  refine ⟨f1, f2, by rw [← ma_hdr (V := (freedM M 0).V) in0]; exact hh, hst, fun x => ⟨?_, ?_, ?_, ?_, ?_⟩⟩
  · show Stk (maV (freedM M 0).V).ms [0] (15 + 2 * ((g + 1 : Nat) : Int))
    rw [show (15 : Int) + 2 * ((g + 1 : Nat) : Int) = 16 + 2 * (g : Int) + 1 by omega]
    exact f4
  · show (maV (freedM M 0).V).hdr 0 = _
    rw [hh]; congr 1
  · show (maV (freedM M 0).V).sst 0 = 1
    rw [g2]; exact h.sst
  · show (maV (freedM M 0).V).spk 0 = 0
    rw [g3]; exact h.spk
  · show (freedM M 0).s.st + 1 = _
    rw [hst]; omega
theorem rd_gone {g : Nat} {M : MV} (h : RdM g M) (hg : g < 60) : (iterF 0 g M 6).1.o.ln = 0 ∧ (iterF 0 g M 6).1.got = 4 ∧ (iterF 0 g M 6).2.V (adH 0) = headerW 4 g ∧ (iterF 0 g M 6).2.s.st = 93 + 15 * g ∧ wSlot ((iterF 0 g M 6).2.V adF) < 0 ∧ (iterF 0 g M 6).2.V (adP 0) = 1 := by
  have hgw : gW (M.V (adH 0)) = g := by rw [← ma_hdr (V := M.V) in0, h.hdr]; exact gW_header 1 g (by decide) (by decide) (by omega) (by omega)
  obtain ⟨f1, f2, f3, f4⟩ := gone_alone (M := M) (s := 0) (m := g) in0 (by rw [hgw]; omega)
  have h32 : 0 ≤ (0 : Int) ∧ (0 : Int) < 32 := by decide
  have hp : M.V (adP 0) = 0 := by rw [← ma_spk (V := M.V) h32]; exact h.spk
  rw [show segF 0 = 0 from rfl] at f4
  rw [f3]
  refine ⟨f1, f2, ?_, ?_, ?_, ?_⟩
  · rw [f4, setV_other (sg_ne in0 h32).2.1, setV_same (may_H in0), hgw]
  · show M.s.st + 1 + 1 + 1 + 1 = _
    rw [h.st]; omega
  · rw [f4, setV_other (mg_ne h32).2.symm, setV_other (ms_ne in0).2.1.symm, show M.V adF = headW (topOf []) (16 + 2 * g) from h.stk.hd, h.stk.slot]
    decide
  · rw [f4, setV_same (may_P h32), hp]
    decide
end Go.Proofs.YtlcbinckbkdgdaaDoor
