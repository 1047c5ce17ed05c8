/-
  The examples of the law, in plain words: a segment comes in 58 steps, goes, a slot is got, a segment stays; condition: the tables as laid, the memory lies as it says.
  Nobody else about: a Shrink that goes, one that gives back, a Grow, walked; condition: the tables as laid, the memory lies as it says.
  The law's examples (lives), walked: they return true; condition: the tables as laid.
-/
import Derived.Test.YtmjcbjcnmgleaaaGreatDoorGP19
namespace Go.Proofs.YtmjcbjcnmgleaaaGreatDoor
open Go.RowKit Go.Maps

section
variable {N mo g : Int} {th : Nat → TA} {ss : Int → Int} {S : List Int} {T0 i n : Nat} {st0 : Int} {p b : Nat} {M : MV} {o : KX} {W w w' : World}
theorem Idl.seg1 (I : Idl N mo th S T0 M) (hno : ∀ k, k < 6 → (th k).op = .no) (hg : 0 ≤ g ∧ g < 3) (h1 : (maV M.V).sst g = 1) : (∀ z, segF z = g → rz (maV M.V) z = 0) ∧ nR (maV M.V) g = 0 ∧ (maV M.V).spk g = 0 := by
  obtain ⟨K, T, I, h0, hgone, hT⟩ := I
  obtain ⟨_, h2⟩ := I.settled hno h0
  obtain ⟨_, h3, _, h4⟩ := h2 g hg.1 hg.2
  have hz : ∀ z, segF z = g → rz (maV M.V) z = 0 := fun z hz => by
    have a := h4 z hz h1
    have b := hgone z
    unfold rz
    rw [if_neg (by omega)]
  exact ⟨hz, nR_no hz, by rw [h3, nR_no hz]; rfl⟩
theorem Idl.seg0 (I : Idl N mo th S T0 M) (hno : ∀ k, k < 6 → (th k).op = .no) (hg : 0 ≤ g ∧ g < 3) (h8 : 8 * g < N) (h1 : (maV M.V).sst g = 0) : (maV M.V).spk g = 8 ∧ nR (maV M.V) g = 8 := by
  obtain ⟨K, T, I, h0, hgone, hT⟩ := I
  obtain ⟨_, h2⟩ := I.settled hno h0
  obtain ⟨_, h3, h4, _⟩ := h2 g hg.1 hg.2
  have h5 := h4 h8 h1
  exact ⟨h5, by omega⟩
theorem Idl.st01 (I : Idl N mo th S T0 M) (hno : ∀ k, k < 6 → (th k).op = .no) (hg : 0 ≤ g ∧ g < 3) : (maV M.V).sst g = 0 ∨ (maV M.V).sst g = 1 := by
  obtain ⟨K, T, I, h0, hgone, hT⟩ := I
  exact ((I.settled hno h0).2 g hg.1 hg.2).1
theorem Idl.two (I : Idl 16 mo th S T0 M) (hno : ∀ k, k < 6 → (th k).op = .no) (hh : ∀ k, 0 < k → k < 6 → (th k).held = []) : (S.length : Int) + (th 0).held.length + nR (maV M.V) 0 + nR (maV M.V) 1 = 16 := by
  obtain ⟨K, T, I, h0, hgone, hT⟩ := I
  have := I.total (n := 2) (by decide) rfl hno h0 hh
  simp only [sumN] at this
  push_cast at this
  omega
theorem Idl.stk (I : Idl N mo th S T0 M) : (∃ T, Stk (maV M.V).ms S T) ∧ S.length ≤ 24 := by
  obtain ⟨K, T, I, h0, hgone, hT⟩ := I
  exact ⟨⟨T, I.G.stk⟩, I.lenS⟩
theorem idl_begin {up c : Nat} (hc : up ≤ c) (h3 : c ≤ 3) (h : Bex up c (8 * c) M) (hmo : 0 ≤ mo) : Idl (8 * (c : Int)) mo th0 (downS (8 * up)) 100 M := by
  have e0 : headerW 0 0 = 0 := by rw [header_form 0 0 (by decide) (by decide) (by decide) (by decide)]; rfl
  have h4 : ∀ z, (maV M.V).hdr z = 0 ∨ (maV M.V).hdr z = headerW 3 0 := fun z => by
    rw [h.hdr]
    split
    · exact .inr rfl
    · exact .inl rfl
  refine ⟨⟨false, 0, 0, 0, 0, 0, ⟨0, 0, 0⟩, newPark 0, []⟩, _, InvK.start (up := up) (n := c) hc h3 rfl h.stk (fun z => ?_) (fun z hz => ?_) (fun z z0 z1 => ?_) (fun g g0 g1 => ?_) (fun g g0 g1 => ?_) (fun _ _ => rfl) ⟨rfl, rfl, by simp, by simp⟩ hmo, rfl, fun z => ?_, by push_cast; omega⟩
  · rw [down_count]; push_cast; rfl
  · rw [h.hdr, if_neg (by push_cast; exact hz)]
  · rw [h.hdr, if_pos (by push_cast; exact ⟨z0, z1⟩)]
  · exact h.sst g g0
  · rw [h.spk]
    by_cases k : g < (up : Int)
    · rw [if_neg (by omega), if_pos k]
    · rw [if_neg k]
      by_cases k2 : g < (c : Int)
      · rw [if_pos (by omega), if_pos (by omega)]
      · rw [if_neg (by omega), if_neg (by omega)]
  · rcases h4 z with e | e
    · rw [e, ← e0, stW_header 0 0 (by decide) (by decide) (by decide) (by decide)]; decide
    · rw [e, stW_header 3 0 (by decide) (by decide) (by decide) (by decide)]; decide
/-- A segment that was never mapped comes in 58 steps. -/
theorem grown_58 (F : VX p b M W) (h : Bex 1 2 16 M) :
    Calls Tryz.prog 29 #[.pointer (some ⟨p, 0, none⟩), .int .i64 1] W fun e w' => e = .returned (.tuple #[.int .i64 0, .int .i64 58]) ∧ ∃ S M', Idl 16 0 th0 S 200 M' ∧ (maV M'.V).sst 0 = 1 ∧ (maV M'.V).sst 1 = 1 ∧ M'.s.st ≤ 300 ∧ VX p b M' w' ∧ Onl p b [] W w' := by
  have I := idl_begin (mo := 0) (by decide) (by decide) h (Int.le_refl _)
  have hst := h.st
  have hup : (maV M.V).sst 1 = 0 := (h.sst 1 (by decide)).trans (by decide)
  have h01 : (maV M.V).sst 0 = 1 := (h.sst 0 (by decide)).trans (by decide)
  have hP : ∀ (K : KO) (M2 : MA) (S : List Int) (T : Int), InvK 16 0 th0 K S T M2 → Alone 1 K M2 → K.sh = false → K.ln ≠ 0 → T + 1 < 1000000 → M2.sst 0 = 1 → (kF K M2).1.ln = 0 ∨ (kF K M2).2.sst 0 = 1 := fun K M2 S T _ A _ _ _ hp => .inr ((kF_sst (by rw [A.seg]; decide)).trans hp)
  have hj : KJ 16 0 th0 1 false (fun _ M2 => M2.sst 0 = 1) 83 100 M.s.st 0 (newKX false 1 0) M := by
    obtain ⟨S', T', I1, A1, a1, a2, a3, a4, a5, a6⟩ := kj_begin (g := 1) (P := fun _ M2 => M2.sst 0 = 1) (sh := false) (bound := 700) I ⟨by decide, by decide⟩ 0 (lm := 0) (by omega) (by rw [hup]; rfl) h01 (by omega) (Int.le_refl _)
    exact ⟨S', T', I1, A1, a1, a2, a3, by simp [remK, newKX], a5, a6⟩
  refine (grown_J (J := fun i o M2 => KJ 16 0 th0 1 false (fun _ M2 => M2.sst 0 = 1) 83 100 M.s.st i o M2 ∧ E58 1 i o.k (maV M2.V)) (Fin := fun n o M2 => KEnd 16 0 th0 1 false (fun _ M2 => M2.sst 0 = 1) 83 100 M.s.st n o M2 ∧ n = 58) (by decide) (by decide) F ⟨hj, .inl ⟨rfl, rfl, fun z hz => ?_⟩⟩ fun i o M2 ⟨hk, he⟩ ok hu => ?_).mono ?_
  · rw [h.hdr, if_pos (by unfold segF at hz; push_cast; omega)]
    exact stW_header 3 0 (by decide) (by decide) (by decide) (by decide)
  · have hk' := hk
    obtain ⟨a1, a2, a3, a4⟩ := keeper_J (by decide) (by omega) (by omega) (by push_cast at hst; omega) hP i o M2 hk ok hu
    obtain ⟨S, T, I2, A, hsh, hp, h0, _⟩ := hk'
    have e := e58_step hsh A.seg (A.s0 hsh) he
    have ma := kX_ma (M := M2) ok h0 (fun h5 h2 => by
      have := ok.gr hsh
      omega) (by have := I2.lenK; omega)
    rw [ma.1] at e
    simp only at e
    refine ⟨a1, by omega, a3, ?_⟩
    rcases a4 with ⟨b1, b2⟩ | ⟨b1, b2⟩
    · exact .inl ⟨b1, b2, (e.resolve_right fun h => h.1 b1).2⟩
    · exact .inr ⟨b1, b2, (e.resolve_left fun h => b1 h.1).2⟩
  · rintro e w' ⟨k, o, M', rfl, ⟨hE, rfl⟩, F', O⟩
    obtain ⟨S', I'⟩ := hE.idl
    obtain ⟨_, _, _, _, _, hs', _, _, K0, M0, S0, T1, hp, _, A0, hsh, _, hoth, hend⟩ := hE
    rcases hend with ⟨c1, c2, c3⟩ | ⟨c0, _⟩
    · refine ⟨by rw [c3]; rfl, S', M', I'.mono (by omega), (hoth 0 (by decide)).trans hp, c2, by push_cast at hst; omega, F', O⟩
    · cases c0
end
end Go.Proofs.YtmjcbjcnmgleaaaGreatDoor
namespace Go.Proofs.YtmjcbjcnmgleaaaGreatDoor
open Go.RowKit Go.Maps

section
variable {N mo g lk : Int} {th : Nat → TA} {S : List Int} {T0 i n : Nat} {st0 : Int} {p b : Nat} {M : MV} {o : KX} {W w w' : World}
/-- How it ended, the error told. -/
def SEnd (N mo : Int) (th : Nat → TA) (T0 : Nat) (p b : Nat) (M : MV) (er g sg : Int) (W : World) (e : Ending) (w' : World) : Prop :=
  ∃ (k : Nat) (S' : List Int) (M' : MV), e = .returned (.tuple #[.int .i64 er, .int .i64 k]) ∧ Idl N mo th S' (T0 + 2701) M' ∧ (maV M'.V).sst g = sg ∧ (∀ y, y ≠ g → (maV M'.V).sst y = (maV M.V).sst y) ∧ M'.s.st ≤ M.s.st + 2701 ∧ VX p b M' w' ∧ Onl p b [] W w'
theorem shrunk_goes (hmo : mo < 4294967296) (F : VX p b M W) (I : Idl N mo th S T0 M) (hno : ∀ k, k < 6 → (th k).op = .no) (hhas : ∀ k, k < 6 → ∀ p ∈ (th k).held, segF p.1 ≠ g) (hg : 0 ≤ g ∧ g < 3) (h8 : 8 * g + 8 ≤ N) (hl : 1 ≤ lk ∧ lk ≤ 5) (hup : (maV M.V).sst g = 1) (hT : T0 ≤ 90000) (hst : M.s.st ≤ 400000) :
    Calls Tryz.prog 27 #[.pointer (some ⟨p, 0, none⟩), .int .i64 g, .int .i64 lk] W (SEnd N mo th T0 p b M 0 g 0 W) := by
  refine (shrunk_idl (P := fun K M2 => Goes K M2 ∧ ∀ y, y ≠ g → M2.sst y = (maV M.V).sst y) hmo F I hg (by omega) hup hT hst ⟨⟨fun z hz => by simp [newKX] at hz, .inl ⟨.inl rfl, by show 0 < lk; omega⟩⟩, fun _ _ => rfl⟩ fun K M2 S T I2 A hsh h0 hT1 hp => ?_).mono ?_
  · have := I2.goes hno (by rw [A.seg]; exact hhas) (by rw [A.seg]; exact h8) hT1 (A.seg.symm ▸ A) hsh hp.1
    exact this.elim .inl fun h => .inr ⟨h, fun y hy => (kF_sst (by rw [A.seg]; exact hy)).trans (hp.2 y hy)⟩
  · rintro e w' ⟨k, o, M', rfl, hE, F', O⟩
    obtain ⟨S', I'⟩ := hE.idl
    obtain ⟨_, _, _, _, _, hs', hk, _, K0, M0, S0, T1, hp, _, A0, hsh, _, hoth, hend⟩ := hE
    rcases hend with ⟨c1, _⟩ | ⟨_, c1, c2, c3⟩
    · obtain ⟨⟨_, hq⟩, _⟩ := hp
      rcases hq with ⟨h, _⟩ | ⟨h, _⟩ | h | h | ⟨h, _⟩ | ⟨h, _⟩ <;> omega
    · exact ⟨k, S', M', by rw [c3], I'.mono (by omega), c2, fun y hy => (hoth y hy).trans (hp.2 y hy), by omega, F', O⟩
theorem shrunk_stays (hmo : mo < 4294967296) (F : VX p b M W) (I : Idl N mo th S T0 M) (hno : ∀ k, k < 6 → (th k).op = .no) (hcase : lk ≤ 0 ∨ ∃ k, k < 6 ∧ ∃ p ∈ (th k).held, segF p.1 = g) (hg : 0 ≤ g ∧ g < 3) (hl : -9223372036854775808 ≤ lk ∧ lk ≤ 5) (hup : (maV M.V).sst g = 1) (hT : T0 ≤ 90000) (hst : M.s.st ≤ 400000) :
    Calls Tryz.prog 27 #[.pointer (some ⟨p, 0, none⟩), .int .i64 g, .int .i64 lk] W (SEnd N mo th T0 p b M 9 g 1 W) := by
  have fin : ∀ {P : KO → MA → Prop} {k : Nat} {o : KX} {M' : MV} {w' : World}, KEnd N mo th g true P 2700 T0 M.s.st k o M' → (∀ K M2, P K M2 → ∀ y, y ≠ g → M2.sst y = (maV M.V).sst y) → (∀ K M2 S2 T2, P K M2 → InvK N mo th K S2 T2 M2 → Alone g K M2 → K.sh = true → K.ln ≠ 4) → VX p b M' w' → Onl p b [] W w' → SEnd N mo th T0 p b M 9 g 1 W (.returned (.tuple #[.int .i64 o.err, .int .i64 ((k : Nat) : Int)])) w' := fun {P k o M' w'} hE hP hP4 F' O => by
    obtain ⟨S', I'⟩ := hE.idl
    obtain ⟨_, _, _, _, _, hs', hk, _, K0, M0, S0, T1, hp, I0, A0, hsh, _, hoth, hend⟩ := hE
    rcases hend with ⟨c1, c2, c3⟩ | ⟨_, c1, _⟩
    · exact ⟨k, S', M', by rw [c3]; rfl, I'.mono (by omega), c2, fun y hy => (hoth y hy).trans (hP _ _ hp y hy), by omega, F', O⟩
    · exact absurd c1 (hP4 _ _ _ _ hp I0 A0 hsh)
  have oth : ∀ {K : KO} {M2 : MA}, Alone g K M2 → (∀ y, y ≠ g → M2.sst y = (maV M.V).sst y) → ∀ y, y ≠ g → (kF K M2).2.sst y = (maV M.V).sst y := fun A h y hy => (kF_sst (by rw [A.seg]; exact hy)).trans (h y hy)
  rcases hcase with hc | ⟨k, hk, p, hp, hs⟩
  · refine (shrunk_idl (P := fun K M2 => NoLook K M2 ∧ ∀ y, y ≠ g → M2.sst y = (maV M.V).sst y) hmo F I hg hl hup hT hst ⟨⟨hc, .inl (by simp [newKX]), fun _ z hz => (I.seg1 hno hg hup).1 z hz⟩, fun _ _ => rfl⟩ fun K M2 S T I2 A hsh h0 hT1 hp => ?_).mono ?_
    · have := I2.nolook hno (A.seg.symm ▸ A) hsh h0 hp.1
      exact this.elim .inl fun h => .inr ⟨h, oth A hp.2⟩
    · rintro e w' ⟨k, o, M', rfl, hE, F', O⟩
      exact fin hE (fun K M2 h => h.2) (fun K M2 _ _ h _ _ _ => by have := h.1.2.1; omega) F' O
  · refine (shrunk_idl (P := fun K M2 => ∀ y, y ≠ g → M2.sst y = (maV M.V).sst y) hmo F I hg hl hup hT hst (fun _ _ => rfl) fun K M2 S T I2 A hsh h0 hT1 hp => .inr (oth A hp)).mono ?_
    rintro e w' ⟨k', o, M', rfl, hE, F', O⟩
    exact fin hE (fun K M2 h => h) (fun K M2 _ _ _ I0 A0 hsh => I0.no4 hk hp hsh (by rw [A0.seg]; exact hs)) F' O
end
end Go.Proofs.YtmjcbjcnmgleaaaGreatDoor
namespace Go.Proofs.YtmjcbjcnmgleaaaGreatDoor
open Go.RowKit Go.Maps

section
variable {N mo g lk : Int} {th : Nat → TA} {S : List Int} {T0 i n : Nat} {p b : Nat} {M : MV} {W w w' X : World}
theorem low_onl (h : Below W.heap.size W w) (hp : W.heap.size ≤ p) (hb : W.heap.size ≤ b) (O : Onl p b [] w X) : Below W.heap.size W X := h.trans (O.below hp hb (by simp) h.size)
/-- A segment's words, where its state is known. -/
theorem seg9_to (F : VX p b M w) (hs : M.s.st < 900000) (h : 0 ≤ g ∧ g < 32) {a c : Int} (ha : (maV M.V).sst g = a) (hc : (maV M.V).spk g = c) : Calls Tryz.prog 28 #[.pointer (some ⟨p, 0, none⟩), .int .i64 g] w fun e w' => e = .returned (.tuple #[.int .u64 a, .int .u64 c]) ∧ ∃ M', M'.V = M.V ∧ M'.s.st = M.s.st + 2 ∧ VX p b M' w' ∧ Onl p b [] w w' := by
  rw [ma_sst h] at ha
  rw [ma_spk h] at hc
  refine (seg9_any F hs h).mono ?_
  rintro e w' ⟨rfl, F', O⟩
  rw [ha, hc]
  exact ⟨rfl, ldM (ldM M (adG g)) (adP g), rfl, by rw [ld_st, ld_st]; omega, F', .of_only O⟩
theorem listed_to (F : VX p b M w) (I : Idl N mo th S T0 M) (hs : M.s.st < 800000) {l : Nat} (hl : S.length = l) : Calls Tryz.prog 26 #[.pointer (some ⟨p, 0, none⟩)] w fun e w' => ∃ A c, e = .returned (.tuple #[.slice A l c, .bool true]) ∧ ∃ M', M'.V = M.V ∧ M'.s.st ≤ M.s.st + 100 ∧ VX p b M' w' ∧ Onl p b [] w w' := by
  obtain ⟨⟨T, hT⟩, hn⟩ := I.stk
  refine (listed_any p b M S T w F hT (by omega) (by omega)).mono ?_
  rintro e w' ⟨v, rfl, hv, ⟨⟨M', h1, h2, F'⟩, O⟩⟩
  obtain ⟨A, c, rfl, _⟩ := own_slice hv
  exact ⟨A, c, by rw [hl], M', h1, h2, F', O⟩
end
set_option maxRecDepth 100000 in
set_option maxHeartbeats 8000000 in
theorem lives9_any (W : World) (hL : Lay W) (hM : LayM W) : Calls Tryz.prog 7 #[] W fun e w' => e = .returned (.bool true) ∧ Below W.heap.size W w' := by
  have hbeg : Calls Tryz.prog 19 #[.int .i64 1, .int .i64 1] W (Beg9P 1 2 W) := begin9_any 1 1 (by decide) W hL hM
  clear hL hM
  go_enter Tryz.func7, Tryz.ntmps7
  go_wp2_with fail
  ((with_reducible refine hbeg.mono ?_); rintro e w1 ⟨p, b, M1, rfl, hB, F1, hb1, hwp, hwb⟩)
  have HF1 := Lib.hid F1
  have HB1 := Lib.hid hb1
  have HX1 := Lib.hid hB
  clear hbeg F1 hb1 hB
  go_wp2_with fail
  ((with_reducible refine (grown_58 HF1.out HX1.out).mono ?_); rintro e w2 ⟨rfl, S2, M2, I2, s20, s21, st2, F2, O2⟩)
  have HI2 := Lib.hid I2
  have HF2 := Lib.hid F2
  have HB2 := Lib.hid (low_onl HB1.out hwp hwb O2)
  have hno : ∀ k, k < 6 → (th0 k).op = .no := fun _ _ => rfl
  have g0 := I2.seg1 hno ⟨by decide, by decide⟩ s20
  have g1 := I2.seg1 hno ⟨by decide, by decide⟩ s21
  have hl16 : S2.length = 16 := by
    have := I2.two hno (fun _ _ _ => rfl)
    rw [g0.2.1, g1.2.1] at this
    simp only [th0, List.length_nil] at this
    omega
  have HL16 := Lib.hid hl16
  have HS20 := Lib.hid s20
  have HS21 := Lib.hid s21
  have HP21 := Lib.hid g1.2.2
  have HNO := Lib.hid hno
  clear I2 F2 O2 HF1 HB1 HX1 g0 g1 hl16 s20 s21 hno
  go_wp2_with fail
  ((with_reducible refine (listed_to HF2.out HI2.out (by omega) HL16.out).mono ?_); rintro e w3 ⟨A, c, rfl, M3, e3, st3, F3, O3⟩)
  have HF3 := Lib.hid F3
  have HB3 := Lib.hid (low_onl HB2.out hwp hwb O3)
  have HE3 := Lib.hid e3
  clear F3 O3 e3
  go_wp2_with fail
  ((with_reducible refine (seg9_to (g := 1) (a := 1) (c := 0) HF3.out (by omega) ⟨by decide, by decide⟩ (by rw [HE3.out]; exact HS21.out) (by rw [HE3.out]; exact HP21.out)).mono ?_); rintro e w4 ⟨rfl, M4, e4, st4, F4, O4⟩)
  have HF4 := Lib.hid F4
  have HB4 := Lib.hid (low_onl HB3.out hwp hwb O4)
  have HE4 := Lib.hid (e4.trans HE3.out)
  clear F4 O4 e4
  go_wp2_with fail
  have HI4 := Lib.hid (HI2.out.same HE4.out)
  ((with_reducible refine (shrunk_goes (g := 1) (lk := 1) (by decide) HF4.out HI4.out HNO.out (fun _ _ _ h => by simp [th0] at h) ⟨by decide, by decide⟩ (by decide) ⟨by decide, by decide⟩ (by rw [HE4.out]; exact HS21.out) (by decide) (by omega)).mono ?_); rintro e w5 ⟨k5, S5, M5, rfl, I5, s51, so5, st5, F5, O5⟩)
  have s50 : (maV M5.V).sst 0 = 1 := (so5 0 (by decide)).trans (by rw [HE4.out]; exact HS20.out)
  have p51 := I5.seg0 HNO.out ⟨by decide, by decide⟩ (by decide) s51
  have p50 := I5.seg1 HNO.out ⟨by decide, by decide⟩ s50
  have hne5 : S5 ≠ [] := by
    rintro rfl
    have := I5.two HNO.out (fun _ _ _ => rfl)
    rw [p50.2.1, p51.2] at this
    simp [th0] at this
  have HNE5 := Lib.hid hne5
  have HI5 := Lib.hid I5
  have HF5 := Lib.hid F5
  have HB5 := Lib.hid (low_onl HB4.out hwp hwb O5)
  have HS50 := Lib.hid s50
  have HS51 := Lib.hid s51
  have HP51 := Lib.hid p51.1
  clear I5 F5 O5 so5 s50 s51 p50 p51 hne5 HI4 HE3 HF2 HF3 HB2 HB3
  go_wp2_with fail
  ((with_reducible refine (seg9_to (g := 1) (a := 0) (c := 8) HF5.out (by omega) ⟨by decide, by decide⟩ HS51.out HP51.out).mono ?_); rintro e w6 ⟨rfl, M6, e6, st6, F6, O6⟩)
  have HF6 := Lib.hid F6
  have HB6 := Lib.hid (low_onl HB5.out hwp hwb O6)
  have HE6 := Lib.hid e6
  clear F6 O6 e6
  go_wp2_with fail
  have HI6 := Lib.hid (HI5.out.same HE6.out)
  have hd6 : ∀ g, 0 ≤ g → g < 3 → (maV M6.V).sst g ≠ 2 := fun g g0 g1 => by
    have := HI6.out.st01 HNO.out ⟨g0, g1⟩
    omega
  have HD6 := Lib.hid hd6
  clear hd6
  have hth : (th0 0).op = .no := rfl
  ((with_reducible refine (made_idl (by decide) HF6.out HI6.out hth HNE5.out (by decide) (by omega) HD6.out).mono ?_); rintro e w7 ⟨o7, M7, rfl, ⟨_, _, ⟨S7, I7⟩, ss7, st7⟩, F7, O7⟩)
  have hno7 : ∀ k, k < 6 → (updA th0 0 ⟨(th0 0).held ++ [(o7.o.sl, gW o7.o.w)], .no⟩ k).op = .no := fun k _ => by
    by_cases hk : k = 0
    · rw [hk, updA_same]
    · rw [updA_ne _ _ hk]; rfl
  have hsl : (0 ≤ o7.o.sl ∧ o7.o.sl < 16) ∧ segF o7.o.sl = 0 := by
    obtain ⟨K, T, I, _⟩ := I7
    have h := I.held_up (by decide) (k := 0) (by decide) (p := (o7.o.sl, gW o7.o.w)) (by rw [updA_same]; simp)
    refine ⟨h.1, ?_⟩
    have h2 := h.2.1
    rw [ss7, HE6.out] at h2
    have h3 := h.1
    simp only at h2 h3
    have : segF o7.o.sl = 0 ∨ segF o7.o.sl = 1 := by unfold segF; omega
    rcases this with e | e
    · exact e
    · rw [e, HS51.out] at h2; exact absurd rfl h2
  have s70 : (maV M7.V).sst 0 = 1 := by rw [ss7, HE6.out]; exact HS50.out
  have HI7 := Lib.hid I7
  have HF7 := Lib.hid F7
  have HB7 := Lib.hid (low_onl HB6.out hwp hwb O7)
  have HNO7 := Lib.hid hno7
  have HS70 := Lib.hid s70
  have HSL := Lib.hid hsl
  clear I7 F7 O7 ss7 hno7 hsl s70 hth HD6 HI6 HI5 HF5 HF6 HB5
  generalize o7.o.sl = sl7 at *
  generalize gW o7.o.w = gen7 at *
  go_wp2_with fail
  have hA8 : Below w7.heap.size w7 (w7.alloc (.cells #[.int .i64 sl7, .int .u32 gen7, .bool false] 85)) := (Below.refl _ _).alloc (Nat.le_refl _) _
  have HK8 := Lib.hid (show Bq w7.heap.size 85 [.int .i64 sl7, .int .u32 gen7, .bool false] (w7.alloc (.cells #[.int .i64 sl7, .int .u32 gen7, .bool false] 85)) from Bq.new _ _ _)
  have HF8 := Lib.hid (HF7.out.below hA8)
  have HB8 := Lib.hid (HB7.out.trans (hA8.mono HB7.out.size))
  clear hA8
  generalize w7.alloc (.cells #[.int .i64 sl7, .int .u32 gen7, .bool false] 85) = w8 at *
  generalize w7.heap.size = rr at *
  ((with_reducible refine (shrunk_stays (g := 0) (lk := 0) (by decide) HF8.out HI7.out HNO7.out (.inl (by decide)) ⟨by decide, by decide⟩ ⟨by decide, by decide⟩ HS70.out (by decide) (by omega)).mono ?_); rintro e w9 ⟨k9, S9, M9, rfl, I9, s90, _, st9, F9, O9⟩)
  have p90 := (I9.seg1 HNO7.out ⟨by decide, by decide⟩ s90).2.2
  have HF9 := Lib.hid F9
  have HB9 := Lib.hid (low_onl HB8.out hwp hwb O9)
  have HS90 := Lib.hid s90
  have HP90 := Lib.hid p90
  have hneq := HF8.out.ne (by decide) HK8.out
  have HK9 := Lib.hid (HK8.out.onl O9 hneq.1 hneq.2 (by simp))
  clear I9 F9 O9 s90 p90 HF8 HB8 HK8
  go_wp2_with fail
  ((with_reducible refine (seg9_to (g := 0) (a := 1) (c := 0) HF9.out (by omega) ⟨by decide, by decide⟩ HS90.out HP90.out).mono ?_); rintro e w10 ⟨rfl, M10, e10, st10, F10, O10⟩)
  have HB10 := Lib.hid (low_onl HB9.out hwp hwb O10)
  have HK10 := Lib.hid (HK9.out.onl O10 hneq.1 hneq.2 (by simp))
  clear F10 O10 e10 HK9 HF9 HB9
  have cc0 : w10.cell? ⟨rr, 0, none⟩ = some (.int .i64 sl7) := HK10.out.cell 0
  have hof : ofS sl7 = 0 := by
    have h := HSL.out
    unfold ofS
    rw [if_pos (by omega)]
    exact h.2
  have HOF := Lib.hid hof
  clear hof
  go_wp2_with fail
  ((with_reducible refine (segOf_eq HOF.out _).mono ?_); rintro e w11 ⟨rfl, hb11⟩)
  have HB11 := Lib.hid (HB10.out.trans (hb11.mono HB10.out.size))
  clear hb11
  go_wp2_with fail
  go_ret
  exact ⟨rfl, HB11.out⟩
end Go.Proofs.YtmjcbjcnmgleaaaGreatDoor
