/-
  The law's own examples of layer 9, by a direct run; condition: the tables as laid.
-/
import Derived.Test.YtmjcbjcnmgleaaaGreatDoorXP33
import Derived.Test.YtmjcbjcnmgleaaaGreatDoorXP51
namespace Go.Proofs.YtmjcbjcnmgleaaaGreatDoor
open Go.RowKit Go.Maps
def iterA (M : MV) : Nat → AX × MV
  | 0 => (⟨newAl, 0⟩, M)
  | j + 1 => alX (iterA M j).1 (iterA M j).2
section
variable {M : MV} {s x T : Int} {S : List Int}
theorem alone_top (h : Stk (maV M.V).ms (s :: S) T) : (0 ≤ s ∧ s < 256) ∧ wSlot (M.V adF) = s ∧ wSlot (M.V (adS s)) = topOf S ∧ nextW (M.V adF) (topOf S) = headW (topOf S) (T + 1) := by
  have hs : 0 ≤ s ∧ s < 256 := ⟨h.ch.1.1, h.ch.1.2.1⟩
  have hd : M.V adF = headW (topOf (s :: S)) T := h.hd
  refine ⟨hs, by rw [hd]; exact h.slot, ?_, by rw [hd]; unfold nextW; rw [tag_small _ T h.t0 h.t1]⟩
  have := h.ch.1.2.2
  rw [ma_lk hs] at this
  exact this
def madeM (M : MV) (s t : Int) : MV :=
  stM (ldM (stM (ldM (ldM (csM (ldM (ldM M adF) (adS s)) adF (M.V adF) (nextW (M.V adF) t)) (adG (segF s))) adEr) (adB s) (M.V adEr)) (adH s)) (adH s) (headerW 1 (gW (M.V (adH s))))
theorem made_V (h : Stk (maV M.V).ms (s :: S) T) : (madeM M s (topOf S)).V = setV (setV (setV M.V adF (headW (topOf S) (T + 1))) (adB s) (M.V adEr)) (adH s) (headerW 1 (gW (M.V (adH s)))) := by
  have := (alone_top h).2.2.2
  show setV (setV (csV M.V adF (M.V adF) _) _ _) _ _ = _
  rw [csV_hit rfl, this]
theorem made_alone (h : Stk (maV M.V).ms (s :: S) T) (hd : (maV M.V).sst (segF s) ≠ 2) : ∃ e,
    iterA M 8 = (⟨⟨0, ⟨0, M.V adF, topOf S⟩, s, M.V (adH s), newPark (-1), true⟩, e⟩, madeM M s (topOf S)) ∧ ∀ j, j < 8 → (iterA M j).1.o.ln ≠ 0 := by
  obtain ⟨hs, hw, hl, _⟩ := alone_top h
  have hg := seg_in hs
  rw [ma_sst hg] at hd
  have hn : ¬ s < 0 := by omega
  have e1 : iterA M 1 = (⟨{ newAl with pop := ⟨2, M.V adF, 0⟩ }, 0⟩, ldM M adF) := by
    show alX ⟨newAl, 0⟩ M = _
    simp [alX, newAl, popX, hw, hn]
  have e2 : iterA M 2 = (⟨{ newAl with pop := ⟨3, M.V adF, topOf S⟩ }, 0⟩, ldM (ldM M adF) (adS s)) := by
    show alX (iterA M 1).1 (iterA M 1).2 = _
    rw [e1]
    simp [alX, newAl, popX, hw, hl, ldM]
  have e3 : iterA M 3 = (⟨{ newAl with ln := 2, pop := ⟨0, M.V adF, topOf S⟩, sl := s }, 0⟩, csM (ldM (ldM M adF) (adS s)) adF (M.V adF) (nextW (M.V adF) (topOf S))) := by
    show alX (iterA M 2).1 (iterA M 2).2 = _
    rw [e2]
    simp [alX, newAl, popX, swapX, hw, hn, ldM]
  have hG : (csM (ldM (ldM M adF) (adS s)) adF (M.V adF) (nextW (M.V adF) (topOf S))).V (adG (segF s)) = M.V (adG (segF s)) := by
    show csV M.V adF (M.V adF) _ _ = _
    rw [csV_hit rfl, setV_other (mg_ne hg).1]
  have e4 : iterA M 4 = (⟨{ newAl with ln := 4, pop := ⟨0, M.V adF, topOf S⟩, sl := s }, 0⟩, ldM (csM (ldM (ldM M adF) (adS s)) adF (M.V adF) (nextW (M.V adF) (topOf S))) (adG (segF s))) := by
    show alX (iterA M 3).1 (iterA M 3).2 = _
    rw [e3]
    simp [alX, newAl, hG, hd]
  have hE : (csM (ldM (ldM M adF) (adS s)) adF (M.V adF) (nextW (M.V adF) (topOf S))).V adEr = M.V adEr := by
    show csV M.V adF (M.V adF) _ _ = _
    rw [csV_hit rfl, setV_other er_ne]
  have e5 : iterA M 5 = (⟨{ newAl with ln := 5, pop := ⟨0, M.V adF, topOf S⟩, sl := s }, M.V adEr⟩, ldM (ldM (csM (ldM (ldM M adF) (adS s)) adF (M.V adF) (nextW (M.V adF) (topOf S))) (adG (segF s))) adEr) := by
    show alX (iterA M 4).1 (iterA M 4).2 = _
    rw [e4]
    have : (ldM (csM (ldM (ldM M adF) (adS s)) adF (M.V adF) (nextW (M.V adF) (topOf S))) (adG (segF s))).V adEr = M.V adEr := hE
    simp [alX, newAl, this]
  have e6 : iterA M 6 = (⟨{ newAl with ln := 6, pop := ⟨0, M.V adF, topOf S⟩, sl := s }, M.V adEr⟩, stM (ldM (ldM (csM (ldM (ldM M adF) (adS s)) adF (M.V adF) (nextW (M.V adF) (topOf S))) (adG (segF s))) adEr) (adB s) (M.V adEr)) := by
    show alX (iterA M 5).1 (iterA M 5).2 = _
    rw [e5]
    simp [alX, newAl]
  have hH : (stM (ldM (ldM (csM (ldM (ldM M adF) (adS s)) adF (M.V adF) (nextW (M.V adF) (topOf S))) (adG (segF s))) adEr) (adB s) (M.V adEr)).V (adH s) = M.V (adH s) := by
    show setV (csV M.V adF (M.V adF) _) _ _ _ = _
    rw [setV_other (ss_ne hs hs).2.2.2.2.1, csV_hit rfl, setV_other (ms_ne hs).2.1]
  have e7 : iterA M 7 = (⟨{ newAl with ln := 7, pop := ⟨0, M.V adF, topOf S⟩, sl := s, w := M.V (adH s) }, M.V adEr⟩, ldM (stM (ldM (ldM (csM (ldM (ldM M adF) (adS s)) adF (M.V adF) (nextW (M.V adF) (topOf S))) (adG (segF s))) adEr) (adB s) (M.V adEr)) (adH s)) := by
    show alX (iterA M 6).1 (iterA M 6).2 = _
    rw [e6]
    simp [alX, newAl, hH]
  refine ⟨M.V adEr, ?_, fun j hj => ?_⟩
  · show alX (iterA M 7).1 (iterA M 7).2 = _
    rw [e7]
    simp [alX, newAl, madeM]
  · match j, hj with
    | 0, _ => show (1 : Int) ≠ 0; decide
    | 1, _ => rw [e1]; show (1 : Int) ≠ 0; decide
    | 2, _ => rw [e2]; show (1 : Int) ≠ 0; decide
    | 3, _ => rw [e3]; show (2 : Int) ≠ 0; decide
    | 4, _ => rw [e4]; show (4 : Int) ≠ 0; decide
    | 5, _ => rw [e5]; show (5 : Int) ≠ 0; decide
    | 6, _ => rw [e6]; show (6 : Int) ≠ 0; decide
    | 7, _ => rw [e7]; show (7 : Int) ≠ 0; decide
    | j + 8, hj => omega
end
def EJ (N : Nat) (E : Int) (Fin : MA → Prop) (st0 : Int) (i : Nat) (o : KX) (M : MV) : Prop := ∃ n, i + (n + 1) = N ∧ Ends E Fin (n + 1) o.k (maV M.V) ∧ M.s.st ≤ st0 + i
def EF (N : Nat) (E : Int) (Fin : MA → Prop) (st0 : Int) (k : Nat) (o : KX) (M : MV) : Prop := k = N ∧ o.err = E ∧ Fin (maV M.V) ∧ M.s.st ≤ st0 + N
theorem ej_step {N : Nat} {E : Int} {Fin : MA → Prop} {st0 : Int} (hs : st0 + N < 900000) (i : Nat) (o : KX) (M : MV) (h : EJ N E Fin st0 i o M) (ok : KNum o) : o.k.ln ≠ 0 ∧ i < N ∧ M.s.st < 1000000 ∧ (((kX o M).1.k.ln = 0 ∧ EF N E Fin st0 (i + 1) (kX o M).1 (kX o M).2) ∨ ((kX o M).1.k.ln ≠ 0 ∧ EJ N E Fin st0 (i + 1) (kX o M).1 (kX o M).2)) := by
  obtain ⟨n, hn, H, hst⟩ := h
  have h2 := kX_st o M
  obtain ⟨h0, h⟩ := H.J ok
  refine ⟨h0, by omega, by omega, ?_⟩
  rcases h with ⟨rfl, a, b, c⟩ | ⟨m, rfl, a, b⟩
  · exact .inl ⟨a, by omega, b, c, by omega⟩
  · exact .inr ⟨a, m, by omega, b, by push_cast; omega⟩
section
variable {p b g : Nat} {M : MV} {w W : World} {S : List Int} {T : Int} {N : Nat} {E : Int} {Fin : MA → Prop}
theorem grown_r (F : VX p b M w) (hs : M.s.st + 58 < 900000) (H : Ends E Fin 58 (newKX false 1 0).k (maV M.V)) : Calls Tryz.prog 29 #[.pointer (some ⟨p, 0, none⟩), .int .i64 1] w fun e w' => e = .returned (.tuple #[.int .i64 E, .int .i64 58]) ∧ ∃ M', Fin (maV M'.V) ∧ M'.s.st ≤ M.s.st + 58 ∧ VX p b M' w' ∧ Onl p b [] w w' := by
  refine (grown_J (J := EJ 58 E Fin M.s.st) (Fin := EF 58 E Fin M.s.st) (by decide) (by decide) F ⟨57, rfl, H, by omega⟩ fun i o M2 h ok _ => ?_).mono ?_
  · obtain ⟨a, b, c, d⟩ := ej_step (by push_cast; omega) i o M2 h ok
    exact ⟨a, by omega, c, d⟩
  · rintro e w' ⟨k, o, M', rfl, ⟨rfl, rfl, h1, h2⟩, F', O⟩
    exact ⟨rfl, M', h1, h2, F', O⟩
theorem shrunk_r {n lk : Int} (hN : 1 ≤ N ∧ N ≤ 1000) (h0 : 0 ≤ n ∧ n < 32) (hl : -9223372036854775808 ≤ lk ∧ lk < 9223372036854775808) (F : VX p b M w) (hs : M.s.st + 1000 < 900000) (H : Ends E Fin N (newKX true n lk).k (maV M.V)) : Calls Tryz.prog 27 #[.pointer (some ⟨p, 0, none⟩), .int .i64 n, .int .i64 lk] w fun e w' => ∃ k : Nat, e = .returned (.tuple #[.int .i64 E, .int .i64 k]) ∧ ∃ M', Fin (maV M'.V) ∧ M'.s.st ≤ M.s.st + 1000 ∧ VX p b M' w' ∧ Onl p b [] w w' := by
  obtain ⟨m, rfl⟩ : ∃ m, N = m + 1 := ⟨N - 1, by omega⟩
  refine (shrunk_J (J := EJ (m + 1) E Fin M.s.st) (Fin := EF (m + 1) E Fin M.s.st) h0.1 h0.2 hl F ⟨m, by omega, H, by omega⟩ fun i o M2 h ok _ => ?_).mono ?_
  · obtain ⟨a, b, c, d⟩ := ej_step (by push_cast; omega) i o M2 h ok
    exact ⟨a, by omega, c, d⟩
  · rintro e w' ⟨k, o, M', rfl, ⟨rfl, rfl, h1, h2⟩, F', O⟩
    exact ⟨_, rfl, M', h1, by push_cast at h2; omega, F', O⟩
theorem listed_r (F : VX p b M w) (stk : Stk (maV M.V).ms S T) (hs : M.s.st < 800000) {l : Nat} (hl : S.length = l) (hl2 : l ≤ 60) : Calls Tryz.prog 26 #[.pointer (some ⟨p, 0, none⟩)] w fun e w' => ∃ A c, e = .returned (.tuple #[.slice A l c, .bool true]) ∧ ∃ M', M'.V = M.V ∧ M'.s.st ≤ M.s.st + 100 ∧ VX p b M' w' ∧ Onl p b [] w w' := by
  refine (listed_any p b M S T w F stk (by omega) (by omega)).mono ?_
  rintro e w' ⟨v, rfl, hv, ⟨⟨M', h1, h2, F'⟩, O⟩⟩
  obtain ⟨A, c, rfl, _⟩ := own_slice hv
  exact ⟨A, c, by rw [hl], M', h1, h2, F', O⟩
theorem iterA_st (M : MV) : ∀ i : Nat, (iterA M i).2.s.st ≤ M.s.st + i
  | 0 => by show M.s.st ≤ _; omega
  | i + 1 => by
    have h1 := iterA_st M i
    have h2 := alX_st (iterA M i).1 (iterA M i).2
    show (alX (iterA M i).1 (iterA M i).2).2.s.st ≤ _
    push_cast
    omega
theorem made_r {s : Int} (F : VX p b M w) (h : Stk (maV M.V).ms (s :: S) T) (hd : (maV M.V).sst (segF s) ≠ 2) (hs : M.s.st < 800000) :
    Calls Tryz.prog 24 #[.pointer (some ⟨p, 0, none⟩)] w fun e w' => ∃ u, e = .returned (.tuple #[.agg #[.int .i64 s, .int .u32 u, .bool false], .bool true]) ∧ ∃ M', M'.V = (madeM M s (topOf S)).V ∧ M'.s.st ≤ M.s.st + 8 ∧ VX p b M' w' ∧ Onl p b [] w w' := by
  obtain ⟨er, h8, hgo⟩ := made_alone h hd
  refine (made_J (J := fun i o M2 => i ≤ 8 ∧ iterA M i = (o, M2)) (Fin := fun o M2 => iterA M 8 = (o, M2)) F ⟨by omega, rfl⟩ fun i o M2 ⟨hi, hit⟩ ok _ => ?_).mono ?_
  · have hst := iterA_st M i
    rw [hit] at hst
    simp only at hst
    refine ⟨by omega, ?_⟩
    by_cases h : i = 8
    · subst h
      rw [h8] at hit
      injection hit with e1 e2
      exact .inr ⟨by rw [← e1], by rw [h8, e1, e2]⟩
    · have hz := hgo i (by omega)
      rw [hit] at hz
      refine .inl ⟨hz, by omega, by omega, ?_⟩
      show alX (iterA M i).1 (iterA M i).2 = _
      rw [hit]
  · rintro e w' ⟨o, M', rfl, hf, F', O⟩
    have hst := iterA_st M 8
    rw [hf] at hst
    rw [h8] at hf
    injection hf with e1 e2
    refine ⟨_, by rw [← e1]; rfl, M', by rw [← e2], by simpa using hst, F', O⟩
end
theorem stW_head1 (v : Int) : stW (headerW 1 (gW v)) ≠ 3 := by
  rw [stW_header 1 _ (by decide) (by decide) (gW_in v).1 (gW_in v).2]
  decide
set_option maxRecDepth 100000 in
set_option maxHeartbeats 8000000 in
theorem lives9_run (W : World) (hL : Lay W) (hM : LayM W) : Calls Tryz.prog 7 #[] W fun e w' => e = .returned (.bool true) ∧ Below W.heap.size W w' := by
  have hbeg : Calls Tryz.prog 19 #[.int .i64 1, .int .i64 1] W (Beg9P 1 2 W) := begin9_any 1 1 (by decide) W hL hM
  clear hL hM
  go_enter Tryz.func7, Tryz.ntmps7
  go_wp2_with fail
  ((with_reducible refine hbeg.mono ?_); rintro e w1 ⟨p, b, M1, rfl, hB, F1, hb1, hwp, hwb⟩)
  have hst1 := hB.st
  have g1 : Sg (maV M1.V) (downS 8) 8 8 0 := ⟨hB.stk, fun z h0 h1 => by rw [hB.hdr, if_neg (by push_cast; omega)]; decide, by rw [hB.spk]; rfl, by rw [hB.spk]; rfl, by rw [hB.sst 0 (by decide)]; rfl, by rw [hB.sst 1 (by decide)]; rfl⟩
  have r1 := grow_run (Fin := fun M' => Sg M' (downS 16) 16 0 1) g1 (fun z h0 h1 => by rw [hB.hdr, if_pos (by push_cast; omega)]; exact stW_header 3 0 (by decide) (by decide) (by decide) (by decide)) (by decide) fun M' h => h
  have HF1 := Lib.hid F1
  have HB1 := Lib.hid hb1
  have HR1 := Lib.hid r1
  clear hbeg F1 hb1 hB g1 r1
  go_wp2_with fail
  ((with_reducible refine (grown_r HF1.out (by push_cast at hst1; omega) HR1.out).mono ?_); rintro e w2 ⟨rfl, M2, g2, st2, F2, O2⟩)
  have HG2 := Lib.hid g2
  have HF2 := Lib.hid F2
  have HB2 := Lib.hid (low_onl HB1.out hwp hwb O2)
  clear g2 F2 O2 HF1 HB1 HR1
  go_wp2_with fail
  ((with_reducible refine (listed_r HF2.out HG2.out.stk (by push_cast at hst1; omega) (l := 16) rfl (by decide)).mono ?_); rintro e w3 ⟨A, c, rfl, M3, e3, st3, F3, O3⟩)
  have HF3 := Lib.hid F3
  have HB3 := Lib.hid (low_onl HB2.out hwp hwb O3)
  have HG3 := Lib.hid (show Sg (maV M3.V) (downS 16) 16 0 1 from by rw [e3]; exact HG2.out)
  clear F3 O3 e3 HF2 HB2 HG2
  go_wp2_with fail
  ((with_reducible refine (seg9_to (g := 1) (a := 1) (c := 0) HF3.out (by push_cast at hst1; omega) ⟨by decide, by decide⟩ HG3.out.s1 HG3.out.p1).mono ?_); rintro e w4 ⟨rfl, M4, e4, st4, F4, O4⟩)
  have HF4 := Lib.hid F4
  have HB4 := Lib.hid (low_onl HB3.out hwp hwb O4)
  have g4 : Sg (maV M4.V) (downS 16) 16 0 1 := by rw [e4]; exact HG3.out
  have HR4 := Lib.hid (shrink_run (Fin := fun M' => Sg M' (downS 8) 40 8 0) g4 (by decide) fun M' h => h)
  clear F4 O4 e4 g4 HF3 HB3 HG3
  go_wp2_with fail
  ((with_reducible refine (shrunk_r (N := 118) (by decide) ⟨by decide, by decide⟩ ⟨by decide, by decide⟩ HF4.out (by push_cast at hst1; omega) HR4.out).mono ?_); rintro e w5 ⟨k5, rfl, M5, g5, st5, F5, O5⟩)
  have HG5 := Lib.hid g5
  have HF5 := Lib.hid F5
  have HB5 := Lib.hid (low_onl HB4.out hwp hwb O5)
  clear g5 F5 O5 HF4 HB4 HR4
  go_wp2_with fail
  ((with_reducible refine (seg9_to (g := 1) (a := 0) (c := 8) HF5.out (by push_cast at hst1; omega) ⟨by decide, by decide⟩ HG5.out.s1 HG5.out.p1).mono ?_); rintro e w6 ⟨rfl, M6, e6, st6, F6, O6⟩)
  have HF6 := Lib.hid F6
  have HB6 := Lib.hid (low_onl HB5.out hwp hwb O6)
  have HG6 := Lib.hid (show Sg (maV M6.V) ((7 : Int) :: downS 7) 40 8 0 from by rw [e6]; exact HG5.out)
  clear F6 O6 e6 HF5 HB5 HG5
  go_wp2_with fail
  have hd6 : (maV M6.V).sst (segF 7) ≠ 2 := by
    rw [show segF 7 = 0 from rfl, HG6.out.s0]
    decide
  ((with_reducible refine (made_r HF6.out HG6.out.stk hd6 (by push_cast at hst1; omega)).mono ?_); rintro e w7 ⟨u, rfl, M7, e7, st7, F7, O7⟩)
  have HF7 := Lib.hid F7
  have HB7 := Lib.hid (low_onl HB6.out hwp hwb O7)
  have m7 : maV M7.V = ({ maV M6.V with ms := ⟨headW (topOf (downS 7)) 41, (maV M6.V).ms.lk⟩ } : MA).setH 7 (headerW 1 (gW (M6.V (adH 7)))) := by
    rw [e7, made_V HG6.out.stk, ma_setH (by decide), ma_setB (by decide), ma_head]
    rfl
  have HR7 := Lib.hid (show Ends 9 (fun M' => M'.sst 0 = 1 ∧ M'.spk 0 = 0) 12 (newKX true 0 0).k (maV M7.V) from gone_run (fun z h0 h1 => by
    rw [m7]
    by_cases hz : z = 7
    · rw [hz]; simpa [MA.setH] using stW_head1 (M6.V (adH 7))
    · simp only [MA.setH, if_neg hz]; exact HG6.out.hdr z h0 h1) (by rw [m7]; exact HG6.out.s0) (by rw [m7]; exact HG6.out.p0) fun M' a b => ⟨a, b⟩)
  clear F7 O7 e7 m7 hd6 HG6 HF6 HB6
  go_wp2_with fail
  have hA8 : Below w7.heap.size w7 (w7.alloc (.cells #[.int .i64 7, .int .u32 u, .bool false] 85)) := (Below.refl _ _).alloc (Nat.le_refl _) _
  have HK8 := Lib.hid (show Bq w7.heap.size 85 [.int .i64 7, .int .u32 u, .bool false] (w7.alloc (.cells #[.int .i64 7, .int .u32 u, .bool false] 85)) from Bq.new _ _ _)
  have HF8 := Lib.hid (HF7.out.below hA8)
  have HB8 := Lib.hid (HB7.out.trans (hA8.mono HB7.out.size))
  clear hA8 HF7 HB7
  ((with_reducible refine (shrunk_r (N := 12) (by decide) ⟨by decide, by decide⟩ ⟨by decide, by decide⟩ HF8.out (by push_cast at hst1; omega) HR7.out).mono ?_); rintro e w9 ⟨k9, rfl, M9, ⟨s9, p9⟩, st9, F9, O9⟩)
  have HF9 := Lib.hid F9
  have HB9 := Lib.hid (low_onl HB8.out hwp hwb O9)
  have hneq := HF8.out.ne (by decide) HK8.out
  have HK9 := Lib.hid (HK8.out.onl O9 hneq.1 hneq.2 (by simp))
  have HS9 := Lib.hid s9
  have HP9 := Lib.hid p9
  clear F9 O9 HF8 HB8 HK8 HR7 s9 p9
  go_wp2_with fail
  ((with_reducible refine (seg9_to (g := 0) (a := 1) (c := 0) HF9.out (by push_cast at hst1; omega) ⟨by decide, by decide⟩ HS9.out HP9.out).mono ?_); rintro e w10 ⟨rfl, M10, e10, st10, F10, O10⟩)
  have HB10 := Lib.hid (low_onl HB9.out hwp hwb O10)
  have HK10 := Lib.hid (HK9.out.onl O10 hneq.1 hneq.2 (by simp))
  clear F10 O10 e10 HK9 HF9 HB9
  have cc0 : w10.cell? ⟨w7.heap.size, 0, none⟩ = some (.int .i64 7) := HK10.out.cell 0
  have HOF := Lib.hid (show ofS 7 = 0 from by decide)
  go_wp2_with fail
  ((with_reducible refine (segOf_eq HOF.out _).mono ?_); rintro e w11 ⟨rfl, hb11⟩)
  have HB11 := Lib.hid (HB10.out.trans (hb11.mono HB10.out.size))
  clear hb11
  go_wp2_with fail
  go_ret
  exact ⟨rfl, HB11.out⟩
end Go.Proofs.YtmjcbjcnmgleaaaGreatDoor
