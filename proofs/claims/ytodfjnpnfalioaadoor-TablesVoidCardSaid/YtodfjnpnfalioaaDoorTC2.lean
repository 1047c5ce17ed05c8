/-
  The law's helpers of layer 10: a Join and a Leave alone, a new table, a thread's address; its examples; condition: the tables as laid, the memory lies as it says, numbers of their kinds.
-/
import Derived.Test.YtodfjnpnfalioaaDoorTB8
import Derived.Test.YtodfjnpnfalioaaDoorTC1
import Derived.OwnWalk
namespace Go.Proofs.YtodfjnpnfalioaaDoor
open Go.RowKit Go.Maps

theorem wrapS {x : Int} (h0 : 0 ≤ x) (h1 : x < 1000) : IntKind.i64.wrap x = x := by simp [IntKind.wrap, IntKind.bits, IntKind.signed]; omega
/-- What a Join or a Leave alone stands at. -/
structure Sole (W : World) (p b q : Nat) (lv : Bool) (o : TO) (M : MV) (w : World) : Prop where
  num : TNum o
  lv : o.lv = lv
  rep : PRep q o w
  mem : VX p b M w
  low : Onl p b [q] W w
  fresh : W.heap.size ≤ q
section
variable {p b q : Nat} {lv : Bool} {ow t : Int} {o o' : TO} {M M' : MV} {W w w' : World} {N : Nat}
theorem Sole.step (S : Sole W p b q lv o M w) (h1 : 1 < W.heap.size) (hs : M.s.st < 1000000) : Calls Tryd.prog (fnS lv) #[.pointer (some ⟨q, 0, none⟩), .pointer (some ⟨p, 0, none⟩)] w fun e w' => e = .returned (.bool ((tX o M).1.ln == 0)) ∧ Sole W p b q lv (tX o M).1 (tX o M).2 w' := by
  have := prg_step (by have := S.fresh; omega) S.mem hs S.num S.rep
  rw [S.lv] at this
  refine this.mono ?_
  rintro e w' ⟨he, R, F, O⟩
  refine ⟨he, S.num.step S.mem.u64, ?_, R, F, S.low.trans O, S.fresh⟩
  rw [← S.lv]
  unfold tX leaveX joinX
  repeat' split
  all_goals rfl
set_option maxRecDepth 100000 in
set_option maxHeartbeats 4000000 in
/-- A Join alone, that ends in N steps. -/
theorem joined_any (ow : Int) (hw : (Lit.int .i64 ow).wf = true) (F : VX p b M W) (hs : M.s.st + 40 < 1000000) (E : Ends (newJ ow) M N o' M') (hN : N ≤ 40) :
    Calls Tryd.prog 22 #[.pointer (some ⟨p, 0, none⟩), .int .i64 ow] W fun e w' => e = .returned (.tuple #[.int .i64 o'.th, .int .i64 o'.e, .int .i64 (N : Int)]) ∧ VX p b M' w' ∧ Onl p b [] W w' := by
  have h1W : 1 < W.heap.size := by have := F.lay.1; have := F.laym.1; omega
  have HF := Lib.hid F
  have HE := Lib.hid E
  clear F E
  go_enter Tryd.func22, Tryd.ntmps22
  go_wp2_with fail
  ((with_reducible refine (newJoin_all ow hw _).mono ?_); rintro e w1 ⟨q, rfl, hq, hk, hb⟩)
  have HS := Lib.hid (show ∃ k : Nat, ∃ o9 M9, k + 1 = 1 ∧ M9.s.st ≤ M.s.st + k ∧ Ends o9 M9 (N - k) o' M' ∧ Sole W p b q false o9 M9 w1 from ⟨0, _, _, rfl, by simp, HE.out, .newJ hw, by unfold newJ; split <;> rfl, hk, HF.out.below hb, .of_below hb, hq⟩)
  clear hq hk hb HF
  go_wp2_with fail
  go_loopw [8] (fun j wr => ∃ i : Nat, i ≤ 40 ∧ j = .int .i64 ((i : Int) + 1) ∧ Hid (∃ o9 M9, M9.s.st ≤ M.s.st + i ∧ i < N ∧ Ends o9 M9 (N - i) o' M' ∧ Sole W p b q false o9 M9 wr)) (fun j _ => 42 - (intOf j).toNat)
  case atStart =>
    have hp := HE.out.pos
    obtain ⟨k, o9, M9, hk, h2, h3, h4⟩ := HS.out
    obtain rfl : k = 0 := by omega
    exact ⟨0, by omega, by go_num, Lib.hid ⟨o9, M9, h2, by omega, h3, h4⟩⟩
  case round =>
    clear HS
    obtain ⟨i, hi, rfl, hr⟩ := hrel
    obtain ⟨o9, M9, h2, hiN, h3, h4⟩ := hr.out
    have hge : (0 : Int) ≤ (i : Int) := by omega
    have hlt : (i : Int) + 1 ≤ 40 := by omega
    have HSS := Lib.hid h4
    have H3 := Lib.hid h3
    have hst := HSS.out.step h1W (by omega)
    have e0 : fnS false = 10 := rfl
    rw [e0] at hst
    clear hr h3 h4 e0
    go_wp2_with fail
    ((with_reducible refine hst.mono ?_); rintro e w3 ⟨rfl, h3⟩)
    have HS3 := Lib.hid h3
    clear h3 hst
    by_cases hin : (tX o9 M9).1.ln = 0
    · have hb : ((tX o9 M9).1.ln == 0) = true := beq_iff_eq.2 hin
      have hfin : N - i = 1 ∧ (tX o9 M9).1 = o' ∧ (tX o9 M9).2 = M' := by
        have h := H3.out
        generalize hn : N - i = n at h
        cases h with
        | one _ => exact ⟨rfl, rfl, rfl⟩
        | more h _ => exact absurd hin h
      have HFI := Lib.hid hfin
      have hgot := gotJ_any HS3.out.num HS3.out.lv HS3.out.rep
      rw [if_pos hin, hfin.2.1] at hgot
      clear hin hfin
      go_wp2_with fail
      ((with_reducible refine hgot.mono ?_); rintro e w4 ⟨rfl, rfl⟩)
      clear hgot
      go_wp2_with fail
      go_ret3
      refine ⟨?_, ?_, HS3.out.low.fresh HS3.out.fresh⟩
      · have : (N : Int) = (i : Int) + 1 := by have := HFI.out.1; omega
        rw [this]
        rfl
      · have := HS3.out.mem
        rw [HFI.out.2.2] at this
        exact this
    · have hb : ((tX o9 M9).1.ln == 0) = false := beq_eq_false_iff_ne.2 hin
      have hnext : ∃ o2 M2, M2.s.st ≤ M.s.st + ((i + 1 : Nat) : Int) ∧ i + 1 < N ∧ Ends o2 M2 (N - (i + 1)) o' M' ∧ Sole W p b q false o2 M2 w3 := by
        have h := H3.out
        have hst := tX_st o9 M9
        generalize hn : N - i = n at h
        cases h with
        | one h => exact absurd h hin
        | @more _ _ n _ _ _ h5 =>
          have hp := h5.pos
          refine ⟨_, _, by push_cast; omega, by omega, ?_, HS3.out⟩
          rw [show N - (i + 1) = n by omega]
          exact h5
      have HR := Lib.hid hnext
      clear hin HSS H3 HS3 hnext
      go_wp2_with fail
      go_roundw
      case rel => exact ⟨i + 1, by omega, by go_num, HR⟩
      case measure => simp [intOf]; omega
set_option maxRecDepth 100000 in
set_option maxHeartbeats 4000000 in
/-- A Leave alone, that ends in N steps. -/
theorem left_any (t : Int) (F : VX p b M W) (hs : M.s.st + 40 < 1000000) (E : Ends (newL t) M N o' M') (hN : N ≤ 40) :
    Calls Tryd.prog 23 #[.pointer (some ⟨p, 0, none⟩), .int .i64 t] W fun e w' => e = .returned (.tuple #[.int .i64 o'.e, .int .i64 (N : Int)]) ∧ VX p b M' w' ∧ Onl p b [] W w' := by
  have h1W : 1 < W.heap.size := by have := F.lay.1; have := F.laym.1; omega
  have HF := Lib.hid F
  have HE := Lib.hid E
  clear F E
  go_enter Tryd.func23, Tryd.ntmps23
  go_wp2_with fail
  ((with_reducible refine (newLeave_all t _).mono ?_); rintro e w1 ⟨q, rfl, hq, hk, hb⟩)
  have HS := Lib.hid (show ∃ k : Nat, ∃ o9 M9, k + 1 = 1 ∧ M9.s.st ≤ M.s.st + k ∧ Ends o9 M9 (N - k) o' M' ∧ Sole W p b q true o9 M9 w1 from ⟨0, _, _, rfl, by simp, HE.out, .newL t, by unfold newL; split <;> rfl, hk, HF.out.below hb, .of_below hb, hq⟩)
  clear hq hk hb HF
  go_wp2_with fail
  go_loopw [7] (fun j wr => ∃ i : Nat, i ≤ 40 ∧ j = .int .i64 ((i : Int) + 1) ∧ Hid (∃ o9 M9, M9.s.st ≤ M.s.st + i ∧ i < N ∧ Ends o9 M9 (N - i) o' M' ∧ Sole W p b q true o9 M9 wr)) (fun j _ => 42 - (intOf j).toNat)
  case atStart =>
    have hp := HE.out.pos
    obtain ⟨k, o9, M9, hk, h2, h3, h4⟩ := HS.out
    obtain rfl : k = 0 := by omega
    exact ⟨0, by omega, by go_num, Lib.hid ⟨o9, M9, h2, by omega, h3, h4⟩⟩
  case round =>
    clear HS
    obtain ⟨i, hi, rfl, hr⟩ := hrel
    obtain ⟨o9, M9, h2, hiN, h3, h4⟩ := hr.out
    have hge : (0 : Int) ≤ (i : Int) := by omega
    have hlt : (i : Int) + 1 ≤ 40 := by omega
    have HSS := Lib.hid h4
    have H3 := Lib.hid h3
    have hst := HSS.out.step h1W (by omega)
    have e0 : fnS true = 12 := rfl
    rw [e0] at hst
    clear hr h3 h4 e0
    go_wp2_with fail
    ((with_reducible refine hst.mono ?_); rintro e w3 ⟨rfl, h3⟩)
    have HS3 := Lib.hid h3
    clear h3 hst
    by_cases hin : (tX o9 M9).1.ln = 0
    · have hb : ((tX o9 M9).1.ln == 0) = true := beq_iff_eq.2 hin
      have hfin : N - i = 1 ∧ (tX o9 M9).1 = o' ∧ (tX o9 M9).2 = M' := by
        have h := H3.out
        generalize hn : N - i = n at h
        cases h with
        | one _ => exact ⟨rfl, rfl, rfl⟩
        | more h _ => exact absurd hin h
      have HFI := Lib.hid hfin
      have hgot := gotL_any HS3.out.num HS3.out.lv HS3.out.rep
      rw [hfin.2.1] at hgot
      clear hin hfin
      go_wp2_with fail
      ((with_reducible refine hgot.mono ?_); rintro e w4 ⟨rfl, rfl⟩)
      clear hgot
      go_wp2_with fail
      go_ret2
      refine ⟨?_, ?_, HS3.out.low.fresh HS3.out.fresh⟩
      · have : (N : Int) = (i : Int) + 1 := by have := HFI.out.1; omega
        rw [this]
        rfl
      · have := HS3.out.mem
        rw [HFI.out.2.2] at this
        exact this
    · have hb : ((tX o9 M9).1.ln == 0) = false := beq_eq_false_iff_ne.2 hin
      have hnext : ∃ o2 M2, M2.s.st ≤ M.s.st + ((i + 1 : Nat) : Int) ∧ i + 1 < N ∧ Ends o2 M2 (N - (i + 1)) o' M' ∧ Sole W p b q true o2 M2 w3 := by
        have h := H3.out
        have hst := tX_st o9 M9
        generalize hn : N - i = n at h
        cases h with
        | one h => exact absurd h hin
        | @more _ _ n _ _ _ h5 =>
          have hp := h5.pos
          refine ⟨_, _, by push_cast; omega, by omega, ?_, HS3.out⟩
          rw [show N - (i + 1) = n by omega]
          exact h5
      have HR := Lib.hid hnext
      clear hin HSS H3 HS3 hnext
      go_wp2_with fail
      go_roundw
      case rel => exact ⟨i + 1, by omega, by go_num, HR⟩
      case measure => simp [intOf]; omega
theorem ofT (t f : Int) (w : World) : Calls Tryd.prog 21 #[.int .i64 t, .int .i64 f] w fun e w' => e = .returned (.agg #[.int .u8 8, .int .i64 t, .int .i64 f]) ∧ Below w.heap.size w w' := by
  go_enter Tryd.func21, Tryd.ntmps21
  go_wp2
  exact bodyPost_ret (v := .agg #[.int .u8 8, .int .i64 t, .int .i64 f]) (by simp [results, Tryd.results21, go_sem]) rfl ⟨rfl, (Below.refl _ _).alloc (Nat.le_refl _) _⟩
/-- The words of a new table. -/
def V0t (n : Int) : Ad → Int := setV (fun _ => 0) adN n
/-- A new memory, of which each word is 0. -/
theorem new_vx (hL : Lay w) (hM : LayM w) : Calls Tryd.prog 25 #[] w fun e w' => ∃ p b M, e = .returned (.pointer (some ⟨p, 0, none⟩)) ∧ VX p b M w' ∧ M.V = (fun _ => 0) ∧ M.s.st = 0 ∧ Below w.heap.size w w' ∧ w.heap.size ≤ b ∧ b < p := by
  refine (new_some w).mono ?_
  rintro e w' ⟨p, b, rfl, hp, hb, h1, h2⟩
  have := hM.1
  have := hL.1
  exact ⟨p, b, ⟨fun _ => 0, ⟨0, 0, 0, 0, 0, 0, 0, false⟩⟩, rfl, ⟨⟨0, _, by decide, rq_nil, hp, fun _ => rfl⟩, hL.below hb, hM.below hb, by omega, by omega⟩, rfl, rfl, hb, h1, h2⟩
set_option maxHeartbeats 4000000 in
theorem table_any (n : Int) (h0 : 0 ≤ n) (h1 : n < 1000) (hL : Lay w) (hM : LayM w) : Calls Tryd.prog 16 #[.int .i64 n] w fun e w' => ∃ p b M, e = .returned (.pointer (some ⟨p, 0, none⟩)) ∧ VX p b M w' ∧ M.V = V0t n ∧ M.s.st ≤ 1 ∧ Below w.heap.size w w' ∧ w.heap.size ≤ b ∧ b < p := by
  have HL := Lib.hid hL
  have HM := Lib.hid hM
  have hw : IntKind.u64.wrap n = n := by simp [IntKind.wrap, IntKind.bits, IntKind.signed]; omega
  have hu : U64 n := ⟨h0, by omega⟩
  clear hL hM
  go_enter Tryd.func16, Tryd.ntmps16
  go_wp2_with fail
  ((with_reducible refine (new_vx HL.out HM.out).mono ?_); rintro e w1 ⟨p, b, M, rfl, F1, hV, hs, hb, h2, h3⟩)
  have HF := Lib.hid F1
  have HB := Lib.hid hb
  have HV := Lib.hid hV
  clear F1 hb hV
  go_wp2_with fail
  ((with_reducible refine (HF.out.stA (by omega) adN_at hu).mono ?_); rintro e w2 ⟨rfl, F2, o2⟩)
  have HF2 := Lib.hid F2
  have HO := Lib.hid o2
  clear F2 o2
  go_wp2_with fail
  go_ret
  refine ⟨p, b, _, rfl, HF2.out, ?_, ?_, ?_, h2, h3⟩
  · show setV M.V adN n = _
    rw [HV.out]; rfl
  · show M.s.st + 1 ≤ 1
    omega
  · exact HB.out.trans ((Onl.of_only (E := []) HO.out).below (by omega) (by omega) (fun x hx => by cases hx) HB.out.size)
/-- Nobody has joined yet. -/
theorem V0t_K {n i : Int} (h : 0 ≤ i ∧ i < 4) : V0t n (adK i) = 0 := setV_other (Ne.symm (neNK h)) n
theorem V0t_T {n t f : Int} (h : 0 ≤ t ∧ t < 16) (g : 0 ≤ f ∧ f < 10) : V0t n (adT t f) = 0 := setV_other (Ne.symm (neNT h g)) n
theorem V0t_N {n : Int} : V0t n adN = n := setV_same mayN n
theorem room_0 : blkC 0 = false ∧ blkN 0 = 0 := ⟨by decide, by decide⟩
theorem fewW_addW {w : Int} (h : blkN w < 4) : fewW (addW w) = blockW (blkN w) (blkC w) := by
  have h0 := (blkN_in w).1
  obtain ⟨e1, e2⟩ := blk_back (blkC w) (j := blkN w + 1) ⟨by omega, by omega⟩
  unfold addW fewW
  rw [e1, e2, if_neg (by omega), show blkN w + 1 - 1 = blkN w by omega]
end
end Go.Proofs.YtodfjnpnfalioaaDoor
