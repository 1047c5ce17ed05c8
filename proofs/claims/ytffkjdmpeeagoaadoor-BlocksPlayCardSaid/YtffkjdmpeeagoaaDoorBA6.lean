/-
  The law's helpers of layer 11: a More and a Less alone, a new table; its examples; condition: the tables as laid, the memory lies as it says, numbers of their kinds.
-/
import Derived.Test.YtffkjdmpeeagoaaDoorBP2
import Derived.Test.YtffkjdmpeeagoaaDoorBA0
import Derived.Test.YtffkjdmpeeagoaaDoorBK2
import Derived.OwnWalk
namespace Go.Proofs.YtffkjdmpeeagoaaDoor
open Go.RowKit Go.Maps

/-- What a More or a Less alone stands at. -/
structure SoleK (W : World) (p b q : Nat) (lv : Bool) (o : BO) (M : MV) (w : World) : Prop where
  num : BNum o
  lv : o.lv = lv
  rep : KRep q o w
  mem : VX p b M w
  low : Onl p b [q] W w
  fresh : W.heap.size ≤ q
theorem kX_lv' (o : BO) (M : MV) : (kX o M).1.lv = o.lv := by
  unfold kX lessX moreX
  repeat' split
  all_goals rfl
section
variable {p b q : Nat} {lv : Bool} {o o' : BO} {M M' : MV} {W w w' : World} {N : Nat}
theorem SoleK.step (S : SoleK W p b q lv o M w) (h1 : 1 < W.heap.size) (hs : M.s.st < 1000000) : Calls Tryd.prog (fnK lv) #[.pointer (some ⟨q, 0, none⟩), .pointer (some ⟨p, 0, none⟩)] w fun e w' => e = .returned (.bool ((kX o M).1.ln == 0)) ∧ SoleK W p b q lv (kX o M).1 (kX o M).2 w' := by
  have := prgK_stepE (o2 := (kX o M).1) (M2 := (kX o M).2) (by have := S.fresh; omega) S.mem hs S.num S.rep rfl
  rw [S.lv] at this
  refine this.mono ?_
  rintro e w' ⟨he, R, F, O⟩
  exact ⟨he, S.num.step S.mem.u64, by rw [kX_lv']; exact S.lv, R, F, S.low.trans O, S.fresh⟩
set_option maxRecDepth 100000 in
set_option maxHeartbeats 4000000 in
/-- A More alone, that ends in N steps. -/
theorem moreB_any (F : VX p b M W) (hs : M.s.st + 40 < 1000000) (E : EndsK (newB false) M N o' M') (hN : N ≤ 9) :
    Calls Tryd.prog 39 #[.pointer (some ⟨p, 0, none⟩)] W fun e w' => e = .returned (.tuple #[.int .i64 o'.e, .int .i64 (N : Int)]) ∧ VX p b M' w' ∧ Onl p b [] W w' := by
  have h1W : 1 < W.heap.size := by have := F.lay.1; have := F.laym.1; omega
  have HF := Lib.hid F
  have HE := Lib.hid E
  clear F E
  go_enter Tryd.func39, Tryd.ntmps39
  go_wp2_with fail
  ((with_reducible refine (newMore_all _).mono ?_); rintro e w1 ⟨q, rfl, hq, hk, hb⟩)
  have HS := Lib.hid (show ∃ k : Nat, ∃ o9 M9, k + 1 = 1 ∧ M9.s.st ≤ M.s.st + k ∧ EndsK o9 M9 (N - k) o' M' ∧ SoleK W p b q false o9 M9 w1 from ⟨0, _, _, rfl, by simp, HE.out, .new _, rfl, hk, HF.out.below hb, .of_below hb, hq⟩)
  clear hq hk hb HF
  go_wp2_with fail
  go_loopw [5] (fun j wr => ∃ i : Nat, i ≤ 9 ∧ j = .int .i64 ((i : Int) + 1) ∧ Hid (∃ o9 M9, M9.s.st ≤ M.s.st + i ∧ i < N ∧ EndsK o9 M9 (N - i) o' M' ∧ SoleK W p b q false o9 M9 wr)) (fun j _ => 11 - (intOf j).toNat)
  case atStart =>
    have hp := HE.out.pos
    obtain ⟨k, o9, M9, hk, h2, h3, h4⟩ := HS.out
    obtain rfl : k = 0 := by omega
    exact ⟨0, by omega, by go_num, Lib.hid ⟨o9, M9, h2, by omega, h3, h4⟩⟩
  case round =>
    clear HS
    obtain ⟨i, hi, rfl, hr⟩ := hrel
    obtain ⟨o9, M9, h2, hiN, h3, h4⟩ := hr.out
    have hge : (0 : Int) ≤ (i : Int) := by omega
    have hlt : (i : Int) + 1 ≤ 9 := by omega
    have HSS := Lib.hid h4
    have H3 := Lib.hid h3
    have hst := HSS.out.step h1W (by omega)
    have e0 : fnK false = 18 := rfl
    rw [e0] at hst
    clear hr h3 h4 e0
    go_wp2_with fail
    ((with_reducible refine hst.mono ?_); rintro e w3 ⟨rfl, h3⟩)
    have HS3 := Lib.hid h3
    clear h3 hst
    by_cases hin : (kX o9 M9).1.ln = 0
    · have hb : ((kX o9 M9).1.ln == 0) = true := beq_iff_eq.2 hin
      have hfin : N - i = 1 ∧ (kX o9 M9).1 = o' ∧ (kX o9 M9).2 = M' := by
        have h := H3.out
        generalize hn : N - i = n at h
        cases h with
        | one _ => exact ⟨rfl, rfl, rfl⟩
        | more h _ => exact absurd hin h
      have HFI := Lib.hid hfin
      have hgot := gotM_any HS3.out.num HS3.out.lv HS3.out.rep
      rw [hfin.2.1] at hgot
      clear hin hfin
      go_wp2_with fail
      ((with_reducible refine hgot.mono ?_); rintro e w4 ⟨rfl, rfl⟩)
      clear hgot
      go_wp2_with fail
      go_ret2
      refine ⟨?_, ?_, HS3.out.low.fresh HS3.out.fresh⟩
      · have : (N : Int) = (i : Int) + 1 := by have := HFI.out.1; omega
        rw [this]
        rfl
      · have := HS3.out.mem
        rw [HFI.out.2.2] at this
        exact this
    · have hb : ((kX o9 M9).1.ln == 0) = false := beq_eq_false_iff_ne.2 hin
      have hnext : ∃ o2 M2, M2.s.st ≤ M.s.st + ((i + 1 : Nat) : Int) ∧ i + 1 < N ∧ EndsK o2 M2 (N - (i + 1)) o' M' ∧ SoleK W p b q false o2 M2 w3 := by
        have h := H3.out
        have hst := kX_st o9 M9
        generalize hn : N - i = n at h
        cases h with
        | one h => exact absurd h hin
        | @more _ _ n _ _ _ h5 =>
          have hp := h5.pos
          refine ⟨_, _, by push_cast; omega, by omega, ?_, HS3.out⟩
          rw [show N - (i + 1) = n by omega]
          exact h5
      have HR := Lib.hid hnext
      clear hin HSS H3 HS3 hnext
      go_wp2_with fail
      go_roundw
      case rel => exact ⟨i + 1, by omega, by go_num, HR⟩
      case measure => simp [intOf]; omega
set_option maxRecDepth 100000 in
set_option maxHeartbeats 4000000 in
/-- A Less alone, that ends in N steps. -/
theorem lessB_any (F : VX p b M W) (hs : M.s.st + 40 < 1000000) (E : EndsK (newB true) M N o' M') (hN : N ≤ 9) :
    Calls Tryd.prog 36 #[.pointer (some ⟨p, 0, none⟩)] W fun e w' => e = .returned (.tuple #[.int .i64 o'.e, .int .i64 (N : Int)]) ∧ VX p b M' w' ∧ Onl p b [] W w' := by
  have h1W : 1 < W.heap.size := by have := F.lay.1; have := F.laym.1; omega
  have HF := Lib.hid F
  have HE := Lib.hid E
  clear F E
  go_enter Tryd.func36, Tryd.ntmps36
  go_wp2_with fail
  ((with_reducible refine (newLess_all _).mono ?_); rintro e w1 ⟨q, rfl, hq, hk, hb⟩)
  have HS := Lib.hid (show ∃ k : Nat, ∃ o9 M9, k + 1 = 1 ∧ M9.s.st ≤ M.s.st + k ∧ EndsK o9 M9 (N - k) o' M' ∧ SoleK W p b q true o9 M9 w1 from ⟨0, _, _, rfl, by simp, HE.out, .new _, rfl, hk, HF.out.below hb, .of_below hb, hq⟩)
  clear hq hk hb HF
  go_wp2_with fail
  go_loopw [5] (fun j wr => ∃ i : Nat, i ≤ 9 ∧ j = .int .i64 ((i : Int) + 1) ∧ Hid (∃ o9 M9, M9.s.st ≤ M.s.st + i ∧ i < N ∧ EndsK o9 M9 (N - i) o' M' ∧ SoleK W p b q true o9 M9 wr)) (fun j _ => 11 - (intOf j).toNat)
  case atStart =>
    have hp := HE.out.pos
    obtain ⟨k, o9, M9, hk, h2, h3, h4⟩ := HS.out
    obtain rfl : k = 0 := by omega
    exact ⟨0, by omega, by go_num, Lib.hid ⟨o9, M9, h2, by omega, h3, h4⟩⟩
  case round =>
    clear HS
    obtain ⟨i, hi, rfl, hr⟩ := hrel
    obtain ⟨o9, M9, h2, hiN, h3, h4⟩ := hr.out
    have hge : (0 : Int) ≤ (i : Int) := by omega
    have hlt : (i : Int) + 1 ≤ 9 := by omega
    have HSS := Lib.hid h4
    have H3 := Lib.hid h3
    have hst := HSS.out.step h1W (by omega)
    have e0 : fnK true = 21 := rfl
    rw [e0] at hst
    clear hr h3 h4 e0
    go_wp2_with fail
    ((with_reducible refine hst.mono ?_); rintro e w3 ⟨rfl, h3⟩)
    have HS3 := Lib.hid h3
    clear h3 hst
    by_cases hin : (kX o9 M9).1.ln = 0
    · have hb : ((kX o9 M9).1.ln == 0) = true := beq_iff_eq.2 hin
      have hfin : N - i = 1 ∧ (kX o9 M9).1 = o' ∧ (kX o9 M9).2 = M' := by
        have h := H3.out
        generalize hn : N - i = n at h
        cases h with
        | one _ => exact ⟨rfl, rfl, rfl⟩
        | more h _ => exact absurd hin h
      have HFI := Lib.hid hfin
      have hgot := gotS_any HS3.out.num HS3.out.lv HS3.out.rep
      rw [hfin.2.1] at hgot
      clear hin hfin
      go_wp2_with fail
      ((with_reducible refine hgot.mono ?_); rintro e w4 ⟨rfl, rfl⟩)
      clear hgot
      go_wp2_with fail
      go_ret2
      refine ⟨?_, ?_, HS3.out.low.fresh HS3.out.fresh⟩
      · have : (N : Int) = (i : Int) + 1 := by have := HFI.out.1; omega
        rw [this]
        rfl
      · have := HS3.out.mem
        rw [HFI.out.2.2] at this
        exact this
    · have hb : ((kX o9 M9).1.ln == 0) = false := beq_eq_false_iff_ne.2 hin
      have hnext : ∃ o2 M2, M2.s.st ≤ M.s.st + ((i + 1 : Nat) : Int) ∧ i + 1 < N ∧ EndsK o2 M2 (N - (i + 1)) o' M' ∧ SoleK W p b q true o2 M2 w3 := by
        have h := H3.out
        have hst := kX_st o9 M9
        generalize hn : N - i = n at h
        cases h with
        | one h => exact absurd h hin
        | @more _ _ n _ _ _ h5 =>
          have hp := h5.pos
          refine ⟨_, _, by push_cast; omega, by omega, ?_, HS3.out⟩
          rw [show N - (i + 1) = n by omega]
          exact h5
      have HR := Lib.hid hnext
      clear hin HSS H3 HS3 hnext
      go_wp2_with fail
      go_roundw
      case rel => exact ⟨i + 1, by omega, by go_num, HR⟩
      case measure => simp [intOf]; omega
/-- The words of a new table. -/
def V0t (n : Int) : Ad → Int := setV (fun _ => 0) adN n
/-- A new memory, of which each word is 0. -/
theorem new_vx (hL : Lay w) (hM : LayM w) : Calls Tryd.prog 40 #[] w fun e w' => ∃ p b M, e = .returned (.pointer (some ⟨p, 0, none⟩)) ∧ VX p b M w' ∧ M.V = (fun _ => 0) ∧ M.s.st = 0 ∧ Below w.heap.size w w' ∧ w.heap.size ≤ b ∧ b < p := by
  refine (new_some w).mono ?_
  rintro e w' ⟨p, b, rfl, hp, hb, h1, h2⟩
  have := hM.1
  have := hL.1
  exact ⟨p, b, ⟨fun _ => 0, ⟨0, 0, 0, 0, 0, 0, 0, false⟩⟩, rfl, ⟨⟨0, _, by decide, rq_nil, hp, fun _ => rfl⟩, hL.below hb, hM.below hb, by omega, by omega⟩, rfl, rfl, hb, h1, h2⟩
set_option maxHeartbeats 4000000 in
theorem table_any (n : Int) (h0 : 0 ≤ n) (h1 : n < 1000) (hL : Lay w) (hM : LayM w) : Calls Tryd.prog 24 #[.int .i64 n] w fun e w' => ∃ p b M, e = .returned (.pointer (some ⟨p, 0, none⟩)) ∧ VX p b M w' ∧ M.V = V0t n ∧ M.s.st ≤ 1 ∧ Below w.heap.size w w' ∧ w.heap.size ≤ b ∧ b < p := by
  have HL := Lib.hid hL
  have HM := Lib.hid hM
  have hw : IntKind.u64.wrap n = n := by simp [IntKind.wrap, IntKind.bits, IntKind.signed]; omega
  have hu : U64 n := ⟨h0, by omega⟩
  clear hL hM
  go_enter Tryd.func24, Tryd.ntmps24
  go_wp2_with fail
  ((with_reducible refine (new_vx HL.out HM.out).mono ?_); rintro e w1 ⟨p, b, M, rfl, F1, hV, hs, hb, h2, h3⟩)
  have HF := Lib.hid F1
  have HB := Lib.hid hb
  have HV := Lib.hid hV
  clear F1 hb hV
  go_wp2_with fail
  ((with_reducible refine (HF.out.stA (by omega) adN_at hu).mono ?_); rintro e w2 ⟨rfl, F2, o2⟩)
  have HF2 := Lib.hid F2
  have HO := Lib.hid o2
  clear F2 o2
  go_wp2_with fail
  go_ret
  refine ⟨p, b, _, rfl, HF2.out, ?_, ?_, ?_, h2, h3⟩
  · show setV M.V adN n = _
    rw [HV.out]; rfl
  · show M.s.st + 1 ≤ 1
    omega
  · exact HB.out.trans ((Onl.of_only (E := []) HO.out).below (by omega) (by omega) (fun x hx => by cases hx) HB.out.size)
/-- Nobody has joined yet. -/
theorem V0t_K {n i : Int} (h : 0 ≤ i ∧ i < 4) : V0t n (adK i) = 0 := setV_other (Ne.symm (neNK h)) n
theorem V0t_T {n t f : Int} (h : 0 ≤ t ∧ t < 16) (g : 0 ≤ f ∧ f < 10) : V0t n (adT t f) = 0 := setV_other (Ne.symm (neNT h g)) n
theorem V0t_N {n : Int} : V0t n adN = n := setV_same mayN n
theorem room_0 : blkC 0 = false ∧ blkN 0 = 0 := ⟨by decide, by decide⟩
end
/-- A memory of the call's own, its words, at most so many steps. -/
structure Me (W : World) (p b : Nat) (V : Ad → Int) (k : Int) (w : World) : Prop where
  mem : ∃ M : MV, M.V = V ∧ M.s.st ≤ k ∧ VX p b M w
  low : Below W.heap.size W w
  b0 : W.heap.size ≤ b
  p0 : W.heap.size ≤ p
section
variable {p b : Nat} {V V' : Ad → Int} {k k' n i0 k0 t ow v : Int} {W w w' : World}
theorem Me.mono (h : Me W p b V k w) (hk : k ≤ k') : Me W p b V k' w := by
  obtain ⟨⟨M, h1, h2, h3⟩, a, b, c⟩ := h
  exact ⟨⟨M, h1, by omega, h3⟩, a, b, c⟩
theorem Me.below (h : Me W p b V k w) (hb : Below w.heap.size w w') : Me W p b V k w' := by
  obtain ⟨⟨M, h1, h2, h3⟩, a, b, c⟩ := h
  exact ⟨⟨M, h1, h2, h3.below hb⟩, a.trans (hb.mono a.size), b, c⟩
theorem Me.u64 (h : Me W p b V k w) (x : Ad) : U64 (V x) := by
  obtain ⟨⟨M, h1, h2, h3⟩, _⟩ := h
  rw [← h1]; exact h3.u64 x
theorem Me.lay (h : Me W p b V k w) : Lay w ∧ LayM w := by
  obtain ⟨⟨M, h1, h2, h3⟩, _⟩ := h
  exact ⟨h3.lay, h3.laym⟩
theorem Me.onl {M : MV} (h : Me W p b V k w) (hV : M.V = V') (hs : M.s.st ≤ k') (F : VX p b M w') (o : Onl p b [] w w') : Me W p b V' k' w' :=
  ⟨⟨M, hV, hs, F⟩, h.low.trans (o.below h.p0 h.b0 (fun x hx => by cases hx) h.low.size), h.b0, h.p0⟩
theorem Me.load (h : Me W p b V k w) (hk : k < 900000) {x : Ad} {c a f : Int} (hx : x.k = c ∧ x.a = a ∧ x.f = f) (hv : V x = v) :
    Calls Tryd.prog 30 #[.pointer (some ⟨p, 0, none⟩), .agg #[.int .u8 c, .int .i64 a, .int .i64 f]] w fun e w' => e = .returned (.int .u64 v) ∧ Me W p b V (k + 1) w' := by
  obtain ⟨M, h1, h2, h3⟩ := h.mem
  refine (h3.ldA (v := v) (by omega) hx ((congrFun h1 x).trans hv)).mono ?_
  rintro e w' ⟨rfl, F, o⟩
  exact ⟨rfl, h.onl (M := ldM M x) h1 (by show M.s.st + 1 ≤ _; omega) F (.of_only o)⟩
theorem Me.store (h : Me W p b V k w) (hk : k < 900000) {x : Ad} {c a f : Int} (hx : x.k = c ∧ x.a = a ∧ x.f = f) (hv : U64 v) :
    Calls Tryd.prog 32 #[.pointer (some ⟨p, 0, none⟩), .agg #[.int .u8 c, .int .i64 a, .int .i64 f], .int .u64 v] w fun e w' => e = .returned (.tuple #[]) ∧ Me W p b (setV V x v) (k + 1) w' := by
  obtain ⟨M, h1, h2, h3⟩ := h.mem
  refine (h3.stA (by omega) hx hv).mono ?_
  rintro e w' ⟨rfl, F, o⟩
  exact ⟨rfl, h.onl (M := stM M x v) (by show setV M.V x v = _; rw [h1]) (by show M.s.st + 1 ≤ _; omega) F (.of_only o)⟩
theorem Me.more {er nk : Int} {N : Nat} {Q : (Ad → Int) → Prop} (h : Me W p b V k w) (hk : k < 900000) (hN : N ≤ 9) (hn : (N : Int) = nk) (hE : ∀ M : MV, M.V = V → ∃ o' M', EndsK (newB false) M N o' M' ∧ o'.e = er ∧ Q M'.V) :
    Calls Tryd.prog 39 #[.pointer (some ⟨p, 0, none⟩)] w fun e w' => e = .returned (.tuple #[.int .i64 er, .int .i64 nk]) ∧ ∃ V', Q V' ∧ Me W p b V' (k + 10) w' := by
  obtain ⟨M, h1, h2, h3⟩ := h.mem
  obtain ⟨o', M', e1, rfl, e4⟩ := hE M h1
  subst hn
  have := e1.st
  refine (moreB_any h3 (by omega) e1 hN).mono ?_
  rintro e w' ⟨rfl, F, o⟩
  exact ⟨rfl, M'.V, e4, h.onl rfl (by omega) F o⟩
theorem Me.less {er nk : Int} {N : Nat} {Q : (Ad → Int) → Prop} (h : Me W p b V k w) (hk : k < 900000) (hN : N ≤ 9) (hn : (N : Int) = nk) (hE : ∀ M : MV, M.V = V → ∃ o' M', EndsK (newB true) M N o' M' ∧ o'.e = er ∧ Q M'.V) :
    Calls Tryd.prog 36 #[.pointer (some ⟨p, 0, none⟩)] w fun e w' => e = .returned (.tuple #[.int .i64 er, .int .i64 nk]) ∧ ∃ V', Q V' ∧ Me W p b V' (k + 10) w' := by
  obtain ⟨M, h1, h2, h3⟩ := h.mem
  obtain ⟨o', M', e1, rfl, e4⟩ := hE M h1
  subst hn
  have := e1.st
  refine (lessB_any h3 (by omega) e1 hN).mono ?_
  rintro e w' ⟨rfl, F, o⟩
  exact ⟨rfl, M'.V, e4, h.onl rfl (by omega) F o⟩
theorem Me.many (h : Me W p b V k w) (hk : k < 900000) (hN : V adN = n) (hn : 0 ≤ n ∧ n ≤ 4) :
    Calls Tryd.prog 27 #[.pointer (some ⟨p, 0, none⟩)] w fun e w' => e = .returned (.int .i64 n) ∧ Me W p b V (k + 10) w' := by
  obtain ⟨M, h1, h2, h3⟩ := h.mem
  refine (many_any h3 (by omega) (by rw [h1]; exact hN) hn).mono ?_
  rintro e w' ⟨rfl, F, o⟩
  exact ⟨rfl, h.onl (M := ldM M adN) h1 (by show M.s.st + 1 ≤ _; omega) F (.of_only o)⟩
/-- The same over a row of blocks that nobody joins. -/
theorem Me.moreR (h : Me W p b V k w) (hk : k < 900000) (R : Row11 n V) (hn : n < 4) {n' : Int} (hn' : n' = n + 1) : Calls Tryd.prog 39 #[.pointer (some ⟨p, 0, none⟩)] w fun e w' => e = .returned (.tuple #[.int .i64 0, .int .i64 3]) ∧ ∃ V', Row11 n' V' ∧ Me W p b V' (k + 10) w' :=
  h.more (N := 3) (Q := fun X => Row11 n' X) hk (by decide) rfl fun M hM => by
    subst hM hn'
    obtain ⟨o', M', e1, e2, e3⟩ := more_alone ⟨R.n14.1, hn⟩ R.N
    exact ⟨o', M', e1, e2, by rw [e3]; exact R.more hn⟩
theorem Me.moreF (h : Me W p b V k w) (hk : k < 900000) (R : Row11 n V) (hn : ¬ n < 4) : Calls Tryd.prog 39 #[.pointer (some ⟨p, 0, none⟩)] w fun e w' => e = .returned (.tuple #[.int .i64 5, .int .i64 1]) ∧ ∃ V', Row11 n V' ∧ Me W p b V' (k + 10) w' :=
  h.more (N := 1) (Q := fun X => Row11 n X) hk (by decide) rfl fun M hM => by
    subst hM
    obtain ⟨o', M', e1, e2, e3⟩ := more_full (by omega) R.N
    exact ⟨o', M', e1, e2, by rw [e3]; exact R⟩
theorem Me.lessR (h : Me W p b V k w) (hk : k < 900000) (R : Row11 n V) (hn : 1 < n) {n' : Int} (hn' : n' = n - 1) : Calls Tryd.prog 36 #[.pointer (some ⟨p, 0, none⟩)] w fun e w' => e = .returned (.tuple #[.int .i64 0, .int .i64 3]) ∧ ∃ V', (Row11 n' V' ∧ V' (adK n') = cldW) ∧ Me W p b V' (k + 10) w' :=
  h.less (N := 3) (Q := fun X => Row11 n' X ∧ X (adK n') = cldW) hk (by decide) rfl fun M hM => by
    subst hM hn'
    have hn14 := R.n14
    obtain ⟨o', M', e1, e2, e3⟩ := less_alone ⟨by omega, by omega⟩ R.N (R.here _ (by omega) (by omega))
    refine ⟨o', M', e1, e2, by rw [e3]; exact R.less hn, ?_⟩
    rw [e3]
    unfold lessV
    rw [setV_other (Ne.symm (neNK ⟨by omega, by omega⟩)), setV_same (mayK ⟨by omega, by omega⟩)]
theorem Me.lessF (h : Me W p b V k w) (hk : k < 900000) (R : Row11 n V) (hn : ¬ 1 < n) : Calls Tryd.prog 36 #[.pointer (some ⟨p, 0, none⟩)] w fun e w' => e = .returned (.tuple #[.int .i64 4, .int .i64 1]) ∧ ∃ V', Row11 n V' ∧ Me W p b V' (k + 10) w' :=
  h.less (N := 1) (Q := fun X => Row11 n X) hk (by decide) rfl fun M hM => by
    subst hM
    obtain ⟨o', M', e1, e2, e3⟩ := less_one (by omega) R.N
    exact ⟨o', M', e1, e2, by rw [e3]; exact R⟩
theorem V0t_row (h : 1 ≤ n ∧ n ≤ 4) : Row11 n (V0t n) := .first h V0t_N fun _ hx => setV_other hx n
theorem table_me (n : Int) (h0 : 0 ≤ n) (h1 : n < 1000) (hL : Lay w) (hM : LayM w) : Calls Tryd.prog 24 #[.int .i64 n] w fun e w' => ∃ p b, e = .returned (.pointer (some ⟨p, 0, none⟩)) ∧ Me w p b (V0t n) 1 w' := by
  refine (table_any n h0 h1 hL hM).mono ?_
  rintro e w' ⟨p, b, M, rfl, F, hV, hs, hb, h2, h3⟩
  exact ⟨p, b, rfl, ⟨M, hV, hs, F⟩, hb, h2, by omega⟩
set_option maxRecDepth 100000 in
set_option maxHeartbeats 4000000 in
/-- The chapter's examples. -/
theorem lives11_any (hL : Lay W) (hM : LayM W) : Calls Tryd.prog 8 #[] W fun e w' => e = .returned (.bool true) ∧ Below W.heap.size W w' := by
  have HL := Lib.hid hL
  have HM := Lib.hid hM
  have hb1 : (fld cldW 32 1 != 0) = true := cld_back.2
  have hb2 : (fld opnW 32 1 != 0) = false := opn_back.2
  have hbk := fun (v : Int) (hu : U64 v) (w : World) (hL : Lay w) => asBlock_any v w hL hu
  clear hL hM
  go_enter Tryd.func8, Tryd.ntmps8
  go_wp2_with fail
  ((with_reducible refine (table_me 1 (by decide) (by decide) HL.out HM.out).mono ?_); rintro e w1 ⟨p, b, rfl, h1⟩)
  have H1 := Lib.hid h1
  clear h1
  go_wp2_with fail
  ((with_reducible refine (H1.out.moreR (n := 1) (n' := 2) (by decide) (V0t_row (by decide)) (by decide) rfl).mono ?_); rintro e w2 ⟨rfl, V2, R2, h2⟩)
  have H2 := Lib.hid h2
  have HR2 := Lib.hid R2
  clear h2 R2 H1
  go_wp2_with fail
  ((with_reducible refine (H2.out.many (n := 2) (by decide) HR2.out.N (by decide)).mono ?_); rintro e w3 ⟨rfl, h3⟩)
  have H3 := Lib.hid h3
  clear h3 H2
  go_wp2_with fail
  ((with_reducible refine (H3.out.lessR (n := 2) (n' := 1) (by decide) HR2.out (by decide) rfl).mono ?_); rintro e w4 ⟨rfl, V4, ⟨R4, hc4⟩, h4⟩)
  have H4 := Lib.hid h4
  have HR4 := Lib.hid R4
  have HC4 := Lib.hid hc4
  clear h4 R4 H3 hc4 HR2
  go_wp2_with fail
  ((with_reducible refine (blockA_any 1 _).mono ?_); rintro e w5 ⟨rfl, hb5⟩)
  have H5 := Lib.hid (H4.out.below hb5)
  clear hb5 H4
  go_wp2_with fail
  ((with_reducible refine (H5.out.load (by decide) (adK_at (i := 1) (by decide)) HC4.out).mono ?_); rintro e w6 ⟨rfl, h6⟩)
  have H6 := Lib.hid h6
  clear h6 H5
  go_wp2_with fail
  ((with_reducible refine (hbk cldW (by unfold cldW; exact blockW_u64 0 true) _ H6.out.lay.1).mono ?_); rintro e w7 ⟨rfl, z7, rfl⟩)
  have H7 := Lib.hid (H6.out.below (below_drewN' (Below.refl _ w6) z7))
  clear H6
  go_wp2_with fail
  ((with_reducible refine (H7.out.many (n := 1) (by decide) HR4.out.N (by decide)).mono ?_); rintro e w8 ⟨rfl, h8⟩)
  have H8 := Lib.hid h8
  clear h8 H7
  go_wp2_with fail
  ((with_reducible refine (H8.out.lessF (n := 1) (by decide) HR4.out (by decide)).mono ?_); rintro e w9 ⟨rfl, V9, R9, h9⟩)
  have H9 := Lib.hid h9
  have HR9 := Lib.hid R9
  clear h9 R9 H8 HR4
  go_wp2_with fail
  ((with_reducible refine (H9.out.moreR (n := 1) (n' := 2) (by decide) HR9.out (by decide) rfl).mono ?_); rintro e w10 ⟨rfl, V10, R10, h10⟩)
  have H10 := Lib.hid h10
  have HR10 := Lib.hid R10
  clear h10 R10 H9 HR9
  go_wp2_with fail
  ((with_reducible refine (blockA_any 1 _).mono ?_); rintro e w11 ⟨rfl, hb11⟩)
  have H11 := Lib.hid (H10.out.below hb11)
  clear hb11 H10
  go_wp2_with fail
  ((with_reducible refine (H11.out.load (by decide) (adK_at (i := 1) (by decide)) (HR10.out.here 1 (by decide) (by decide))).mono ?_); rintro e w12 ⟨rfl, h12⟩)
  have H12 := Lib.hid h12
  clear h12 H11
  go_wp2_with fail
  ((with_reducible refine (hbk opnW (by unfold opnW; exact blockW_u64 0 false) _ H12.out.lay.1).mono ?_); rintro e w13 ⟨rfl, z13, rfl⟩)
  have H13 := Lib.hid (H12.out.below (below_drewN' (Below.refl _ w12) z13))
  clear H12
  go_wp2_with fail
  go_ret
  exact ⟨rfl, H13.out.low⟩
end
end Go.Proofs.YtffkjdmpeeagoaaDoor
