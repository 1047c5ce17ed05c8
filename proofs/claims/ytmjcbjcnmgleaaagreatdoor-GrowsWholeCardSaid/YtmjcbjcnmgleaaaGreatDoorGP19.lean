/-
  Nobody else about: what holds where nothing is under way; grown and shrunk over it; condition: the tables as laid, the memory lies as it says.
  The law's Made, of one alone, by what holds between its steps; condition: the tables as laid, the memory lies as it says; what holds between the steps says that it ends in time.
  Nobody else about: an Alloc alone gets a slot, where the list isn't empty and no segment drains; condition: the tables as laid, the memory lies as it says.
-/
import Derived.Test.YtmjcbjcnmgleaaaGreatDoorGP17
import Derived.Test.YtmjcbjcnmgleaaaGreatDoorGL1
namespace Go.Proofs.YtmjcbjcnmgleaaaGreatDoor
open Go.RowKit Go.Maps

/-- Nothing is under way, no slot is gone. -/
def Idl (N mo : Int) (th : Nat → TA) (S : List Int) (T0 : Nat) (M : MV) : Prop :=
  ∃ K T, InvK N mo th K S T (maV M.V) ∧ K.ln = 0 ∧ NoGone (maV M.V) ∧ T ≤ (T0 : Int)
def th0 : Nat → TA := fun _ => ⟨[], .no⟩
section
variable {N mo g : Int} {th : Nat → TA} {S : List Int} {T0 n : Nat} {st0 : Int} {p b : Nat} {M M' : MV} {o : KX} {P : KO → MA → Prop} {sh : Bool} {bound : Nat} {W w w' : World}
theorem Idl.mono {T1 : Nat} (h : Idl N mo th S T0 M) (hT : T0 ≤ T1) : Idl N mo th S T1 M := by
  obtain ⟨K, T, I, h1, h2, h3⟩ := h
  exact ⟨K, T, I, h1, h2, by omega⟩
theorem Idl.same {M' : MV} (h : Idl N mo th S T0 M) (e : M'.V = M.V) : Idl N mo th S T0 M' := by
  unfold Idl
  rw [e]
  exact h
theorem KEnd.idl (h : KEnd N mo th g sh P bound T0 st0 n o M) : ∃ S', Idl N mo th S' (T0 + n) M := by
  obtain ⟨h1, S', T', I, h2, _, _, h3, _⟩ := h
  exact ⟨S', _, _, I, h1, h3, h2⟩
/-- How a keeper alone begins. -/
theorem kj_begin (I : Idl N mo th S T0 M) (hg : 0 ≤ g ∧ g < 3) (lk : Int) {lm : Nat} (hlk : lk ≤ (lm : Int)) (hup : (maV M.V).sst g = if sh = true then 1 else 0) (hp : P (newKX sh g lk).k (maV M.V)) (hb : 700 + 400 * lm ≤ bound) (hst : M.s.st ≤ st0) : KJ N mo th g sh P bound T0 st0 0 (newKX sh g lk) M := by
  obtain ⟨K, T, I, h0, hgone, hT⟩ := I
  have I1 := I.kbegin (K' := (newKX sh g lk).k) h0 rfl rfl hg
  have hr := I1.remK_le (n := lm) hlk
  refine ⟨S, T, I1, ⟨rfl, fun h _ => ?_, fun h _ => ?_, hgone⟩, rfl, hp, by simp [newKX], by omega, by push_cast; omega, by push_cast; omega⟩
  · rw [hup, if_pos (show sh = true from h)]
  · rw [hup, if_neg (by rw [show sh = false from h]; simp)]
/-- A Shrink alone. -/
theorem shrunk_idl (hmo : mo < 4294967296) (F : VX p b M W) (I : Idl N mo th S T0 M) (hg : 0 ≤ g ∧ g < 3) {lk : Int} (hl : -9223372036854775808 ≤ lk ∧ lk ≤ 5) (hup : (maV M.V).sst g = 1) (hT : T0 ≤ 90000) (hst : M.s.st ≤ 400000) (hp : P (newKX true g lk).k (maV M.V))
    (hP : ∀ K M S T, InvK N mo th K S T M → Alone g K M → K.sh = true → K.ln ≠ 0 → T + 1 < 1000000 → P K M → (kF K M).1.ln = 0 ∨ P (kF K M).1 (kF K M).2) :
    Calls Tryz.prog 27 #[.pointer (some ⟨p, 0, none⟩), .int .i64 g, .int .i64 lk] W fun e w' => ∃ k o M', e = .returned (.tuple #[.int .i64 o.err, .int .i64 ((k : Nat) : Int)]) ∧ KEnd N mo th g true P 2700 T0 M.s.st k o M' ∧ VX p b M' w' ∧ Onl p b [] W w' := by
  refine shrunk_J (J := KJ N mo th g true P 2700 T0 M.s.st) (Fin := KEnd N mo th g true P 2700 T0 M.s.st) hg.1 (by omega) (by omega) F (kj_begin I hg lk (lm := 5) (by omega) (by rw [hup]; rfl) hp (by omega) (Int.le_refl _)) fun i o M2 h ok hu => ?_
  obtain ⟨a1, a2, a3, a4⟩ := keeper_J hmo (by omega) (by omega) (by omega) hP i o M2 h ok hu
  exact ⟨a1, by omega, a3, a4⟩
end
end Go.Proofs.YtmjcbjcnmgleaaaGreatDoor
namespace Go.Proofs.YtmjcbjcnmgleaaaGreatDoor
open Go.RowKit Go.Maps

section
variable {p b g q r : Nat} {M : MV} {W w w' X Y : World}
set_option maxRecDepth 100000 in
set_option maxHeartbeats 4000000 in
theorem made_J {J : Nat → AX → MV → Prop} {Fin : AX → MV → Prop} (F : VX p b M W) (hJ : J 0 ⟨newAl, 0⟩ M)
    (hst : ∀ i o M, J i o M → AlNum o → (∀ x, U64 (M.V x)) → i < 900 ∧ ((o.o.ln ≠ 0 ∧ M.s.st < 1000000 ∧ J (i + 1) (alX o M).1 (alX o M).2) ∨ (o.o.ln = 0 ∧ Fin o M))) :
    Calls Tryz.prog 24 #[.pointer (some ⟨p, 0, none⟩)] W fun e w' => ∃ o M', e = .returned (.tuple #[refV o, .bool o.o.got]) ∧ Fin o M' ∧ VX p b M' w' ∧ Onl p b [] W w' := by
  have h1W : 1 < W.heap.size := by have := F.lay.1; have := F.laym.1; omega
  have hpw := F.lt
  have HF := Lib.hid F
  have HST := Lib.hid hst
  have HJ := Lib.hid hJ
  have hbA : Below W.heap.size W (W.alloc (.cells #[.int .i64 0, .int .u32 0, .bool false] 85)) := (Below.refl _ _).alloc (Nat.le_refl _) _
  have hkA : Bq W.heap.size 85 [.int .i64 0, .int .u32 0, .bool false] (W.alloc (.cells #[.int .i64 0, .int .u32 0, .bool false] 85)) := Bq.new _ _ _
  have hsA : W.heap.size < (W.alloc (.cells #[.int .i64 0, .int .u32 0, .bool false] 85)).heap.size := hkA.lt
  have HBA := Lib.hid hbA
  have HKA := Lib.hid hkA
  have HSA := Lib.hid hsA
  clear F hst hJ hbA hkA hsA
  go_enter Tryz.func24, Tryz.ntmps24
  go_wp2_with fail
  ((with_reducible refine (newAlloc_any _).mono ?_); rintro e w1 ⟨q, r, rfl, hr, hq, hk, ho, hb⟩)
  have HS := Lib.hid (show ∃ o M', J 0 o M' ∧ Sole W p b W.heap.size q o M' w1 from ⟨_, _, HJ.out, Sole.begin HF.out (Nat.le_refl _) HSA.out HBA.out HKA.out hr hq hk ho hb⟩)
  clear hr hq hk ho hb HBA HKA HSA HF HJ
  generalize W.heap.size = g at HS
  go_wp2_with fail
  go_loopw [5] (fun j wr => ∃ i : Nat, i ≤ 900 ∧ j = .int .i64 (i : Int) ∧ Hid (∃ o M', J i o M' ∧ Sole W p b g q o M' wr)) (fun j _ => 1000 - (intOf j).toNat)
  case atStart => exact ⟨0, Nat.zero_le _, rfl, HS⟩
  case round =>
    clear HS
    obtain ⟨i, hi, rfl, hr0⟩ := hrel
    obtain ⟨o, M', hj, hr1⟩ := hr0.out
    have hr := Lib.hid hr1
    obtain ⟨hi9, hnx⟩ := HST.out i o M' hj hr1.num hr1.mem.u64
    have hge : (0 : Int) ≤ (i : Int) := by omega
    have hlt : (i : Int) < 1000 := by omega
    obtain ⟨r', r1', hrep, _, _⟩ := hr.out.rep
    have HV := Lib.hid hrep
    clear hr0 hr1 hj
    by_cases hin : o.o.ln ≠ 0
    · have hln := fls hin
      have hov2 := alOver HV.out
      rw [hln] at hov2
      have HN := Lib.hid (hnx.resolve_right fun h => hin h.1)
      have hst2 : M'.s.st < 1000000 := HN.out.2.1
      clear hrep hln hnx hin
      go_wp2_with fail
      ((with_reducible refine hov2.mono ?_); rintro e w2 ⟨rfl, rfl⟩)
      go_wp2_with fail
      ((with_reducible refine (hr.out.step h1W hst2).mono ?_); rintro e w3 ⟨rfl, h3⟩)
      have HS3 := Lib.hid (show ∃ o2 M2, J (i + 1) o2 M2 ∧ Sole W p b g q o2 M2 w3 from ⟨_, _, HN.out.2.2, h3⟩)
      clear h3 hov2 hst2 HV HN hr
      generalize ((alX o M').1.o.ln == 0) = bb
      go_wp2_with fail
      go_roundw
      case rel => exact ⟨i + 1, by omega, by go_num, HS3⟩
      case measure => simp [intOf]; omega
    · have hz : o.o.ln = 0 := by omega
      have HFN := Lib.hid ((hnx.resolve_left fun h => hin h.1).2)
      have hov2 := alOver HV.out
      rw [hz] at hov2
      have HR := Lib.hid hr.out
      have hgot := alGot (h := HV.out) hr.out.got
      obtain ⟨s, u, hsu⟩ := ref_parts o
      rw [hsu] at hgot
      have HSU := Lib.hid hsu
      clear hrep hr HV hsu hnx hin hz
      go_wp2_with fail
      ((with_reducible refine hov2.mono ?_); rintro e w2 ⟨rfl, rfl⟩)
      go_wp2_with fail
      ((with_reducible refine hgot.mono ?_); rintro e w3 ⟨rfl, hb3⟩)
      have hres := HR.out.res.below hb3
      have HFX := Lib.hid (HR.out.mem.below hb3)
      have HLO := Lib.hid (HR.out.low.trans (.of_below hb3))
      have hne := HFX.out.ne (by decide) hres
      have HNE := Lib.hid hne
      have HOLD := Lib.hid HR.out.old
      obtain ⟨b0, b1, b2, z0, z1, z2⟩ := Bq.s3 hres
      have HK := Lib.hid (hres.fill3 (d0 := .int .i64 s) (d1 := .int .u32 u) (d2 := .bool false))
      clear hres hb3 hne hov2 hgot
      go_wp2_with fail
      refine bodyPost_ret (results_two Tryz.results24 _ _ _ _ _ _ _ rfl HK.out Tryz.underlying85 rfl (by kernel_rfl)) rfl ⟨o, M', ?_, HFN.out, vx_fill3 HFX.out HNE.out.1 HNE.out.2 (by have := HOLD.out; omega), onl_fill3 HLO.out HOLD.out⟩
      rw [HSU.out]
      rfl
end
end Go.Proofs.YtmjcbjcnmgleaaaGreatDoor
namespace Go.Proofs.YtmjcbjcnmgleaaaGreatDoor
open Go.RowKit Go.Maps

/-- An Alloc alone, under way. -/
def MRun (N mo : Int) (th : Nat → TA) (ss : Int → Int) (T0 : Nat) (st0 : Int) (i : Nat) (o : AX) (M : MV) : Prop :=
  ∃ K S T, InvK N mo (updA th 0 ⟨(th 0).held, .al o.o⟩) K S T (maV M.V) ∧ K.ln = 0 ∧ NoGone (maV M.V) ∧ o.o.ln ≠ 0 ∧ o.o.ln ≠ 3 ∧ (o.o.ln = 1 → S ≠ []) ∧ (maV M.V).sst = ss ∧ remG (maV M.V) S.length (.al o.o) + i ≤ 531 ∧ T ≤ ((T0 + i : Nat) : Int) ∧ M.s.st ≤ st0 + i
/-- .. over: it got one. -/
def MEnd (N mo : Int) (th : Nat → TA) (ss : Int → Int) (T0 : Nat) (st0 : Int) (o : AX) (M : MV) : Prop :=
  o.o.ln = 0 ∧ o.o.got = true ∧ (∃ S, Idl N mo (updA th 0 ⟨(th 0).held ++ [(o.o.sl, gW o.o.w)], .no⟩) S (T0 + 600) M) ∧ (maV M.V).sst = ss ∧ M.s.st ≤ st0 + 600
section
variable {N mo : Int} {th : Nat → TA} {ss : Int → Int} {S : List Int} {T0 i : Nat} {st0 : Int} {p b : Nat} {M : MV} {o : AX} {W w w' : World}
theorem made_begin (hmo : mo < 4294967296) (I : Idl N mo th S T0 M) (hop : (th 0).op = .no) (hS : S ≠ []) : MRun N mo th (maV M.V).sst T0 M.s.st 0 ⟨newAl, 0⟩ M := by
  obtain ⟨K, T, I, h0, hg, hT⟩ := I
  obtain ⟨I1, _⟩ := I.begin hmo (k := 0) (by decide) false
  have e : beginA (th 0) false mo = ⟨(th 0).held, .al newAl⟩ := by unfold beginA; rw [hop]; simp
  rw [e] at I1
  have hr := I1.rem_le (.al newAl)
  exact ⟨K, S, T, I1, h0, hg, by decide, by decide, fun _ => hS, rfl, (show remG (maV M.V) S.length (.al newAl) + 0 ≤ 531 by omega), by push_cast; omega, by push_cast; omega⟩
theorem made_step (hmo : mo < 4294967296) (hT0 : T0 ≤ 90000) (hs0 : st0 ≤ 400000) (hd : ∀ g, 0 ≤ g → g < 3 → ss g ≠ 2) (h : MRun N mo th ss T0 st0 i o M) (ok : AlNum o) (_hu : ∀ x, U64 (M.V x)) :
    i ≤ 531 ∧ M.s.st < 1000000 ∧ (MRun N mo th ss T0 st0 (i + 1) (alX o M).1 (alX o M).2 ∨ MEnd N mo th ss T0 st0 (alX o M).1 (alX o M).2) := by
  obtain ⟨K, S, T, I, hk, hgone, h0, h3, h1, hss, hrem, hT, hst⟩ := h
  have hT1 : T + 1 < 1000000 := by omega
  have okA : AlG (maV M.V) S T mo o.o := by
    have := I.ops 0 (by decide)
    rw [updA_same] at this
    exact this
  have e1 := alX_ma o M ok (fun hl h2 => by
    obtain ⟨_, h | ⟨_, h⟩⟩ := okA
    · obtain ⟨_, _, hl⟩ := h
      rcases hl with h | ⟨_, a, _⟩ | ⟨h, _⟩
      · rw [h2] at h; omega
      · exact a
      · rw [h2] at h; omega
    · rcases h with ⟨h, _⟩ | ⟨h, _⟩ | ⟨h, _⟩ <;> omega)
  obtain ⟨S', T', I', t0, t1, hs'⟩ := I.step hmo hT1 (k := 0) (by decide) false
  have hr := I.step_rem hmo hT1 (k := 0) (by decide) false I'
  have eb : beginA (updA th 0 ⟨(th 0).held, .al o.o⟩ 0) false mo = ⟨(th 0).held, .al o.o⟩ := by rw [updA_same]; rfl
  unfold stepTA at I' hr hs'
  rw [eb] at I' hr hs'
  rw [goA_eq, updA_two] at I'
  rw [goA_eq] at hr hs'
  simp only [gainA, stepA, memA] at I' hr hs'
  rw [updA_same] at hr
  have hg := al_gets I.G.stk hT1 okA h3 h1 (by rw [hss]; exact hd) I'.G.stk
  have hgn := al_gone okA h3 I.G.frm hmo hgone
  rw [e1] at I' hr hs' hgn
  simp only at I' hr hs' hgn
  have hst2 := alX_st o M
  refine ⟨by omega, by omega, ?_⟩
  rcases hg with ⟨o', g1, g2, g3, g4⟩ | ⟨g1, p, g2⟩
  · left
    have hz : (alF o.o (maV M.V)).1.ln ≠ 0 := fun h => by simp [stepAl, h] at g1
    have ho : o' = (alX o M).1.o := by
      unfold stepAl at g1
      rw [if_neg hz, e1] at g1
      injection g1 with g1
      exact g1.symm
    subst ho
    rw [e1] at hz
    simp only at hz
    rw [g1, g4, List.append_nil] at I'
    rw [g1] at hr
    refine ⟨K, S', T', I', hk, hgn, hz, g2, g3, hs'.trans hss, ?_, by push_cast; push_cast at hT; omega, by push_cast; omega⟩
    rcases hr with hr | hr
    · cases hr
    · omega
  · right
    have hz : (alF o.o (maV M.V)).1.ln = 0 := by
      by_cases h : (alF o.o (maV M.V)).1.ln = 0
      · exact h
      · unfold stepAl at g1
        rw [if_neg h] at g1
        cases g1
    have hgot : (alF o.o (maV M.V)).1.got = true := by
      by_cases h : (alF o.o (maV M.V)).1.got = true
      · exact h
      · unfold gainAl at g2
        rw [if_neg (fun k => h k.2)] at g2
        cases g2
    have hga : gainAl o.o (maV M.V) = [((alF o.o (maV M.V)).1.sl, gW (alF o.o (maV M.V)).1.w)] := if_pos ⟨hz, hgot⟩
    rw [g1, hga] at I'
    rw [e1] at I' hz hgot
    have hT2 : T' ≤ ((T0 + 600 : Nat) : Int) := by
      have a : ((T0 + 600 : Nat) : Int) = (T0 : Int) + 600 := Int.natCast_add T0 600
      have b : ((T0 + i : Nat) : Int) = (T0 : Int) + (i : Int) := Int.natCast_add T0 i
      omega
    exact ⟨hz, hgot, ⟨S', K, T', I', hk, hgn, hT2⟩, hs'.trans hss, by omega⟩
/-- Made, with nobody else about. -/
theorem made_idl (hmo : mo < 4294967296) (F : VX p b M W) (I : Idl N mo th S T0 M) (hop : (th 0).op = .no) (hS : S ≠ []) (hT0 : T0 ≤ 90000) (hst : M.s.st ≤ 400000) (hd : ∀ g, 0 ≤ g → g < 3 → (maV M.V).sst g ≠ 2) :
    Calls Tryz.prog 24 #[.pointer (some ⟨p, 0, none⟩)] W fun e w' => ∃ o M', e = .returned (.tuple #[.agg #[.int .i64 o.o.sl, .int .u32 (gW o.o.w), .bool false], .bool true]) ∧ MEnd N mo th (maV M.V).sst T0 M.s.st o M' ∧ VX p b M' w' ∧ Onl p b [] W w' := by
  refine (made_J (J := fun i o M2 => MRun N mo th (maV M.V).sst T0 M.s.st i o M2 ∨ (MEnd N mo th (maV M.V).sst T0 M.s.st o M2 ∧ i ≤ 532)) (Fin := MEnd N mo th (maV M.V).sst T0 M.s.st) F (.inl (made_begin hmo I hop hS)) fun i o M2 h ok hu => ?_).mono ?_
  · rcases h with h | ⟨h, hi⟩
    · obtain ⟨a1, a2, a3⟩ := made_step hmo hT0 hst hd h ok hu
      obtain ⟨_, _, _, _, _, _, h0, _⟩ := h
      exact ⟨by omega, .inl ⟨h0, a2, a3.elim .inl fun h => .inr ⟨h, by omega⟩⟩⟩
    · exact ⟨by omega, .inr ⟨h.1, h⟩⟩
  · rintro e w' ⟨o, M', rfl, h, F', O⟩
    exact ⟨o, M', by unfold refV; rw [if_pos h.2.1, h.2.1], h, F', O⟩
end
end Go.Proofs.YtmjcbjcnmgleaaaGreatDoor
