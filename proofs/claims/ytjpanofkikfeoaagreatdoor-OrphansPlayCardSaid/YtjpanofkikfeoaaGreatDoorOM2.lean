/-
  A Give and a Take alone, as the law's helpers run them: how many steps, what is left, what was taken; condition: the tables as laid, the memory lies as it says.
  A memory of the call's own with a stack in it: what the law's helpers do to it; condition: it lies as it says.
-/
import Derived.Test.YtjpanofkikfeoaaGreatDoorOM1
import Derived.Test.YtjpanofkikfeoaaGreatDoorOK7
import Derived.OwnWalk
namespace Go.Proofs.YtjpanofkikfeoaaGreatDoor
open Go.RowKit Go.Maps

/-- What an operation alone stands at. -/
structure SoleO (W : World) (p b : Nat) (kd : Bool) (q : Nat) (o : OG) (M : MV) (w : World) : Prop where
  num : ONum o
  len : o.g.length < 100000
  rep : ∃ fp, (∀ y ∈ fp, W.heap.size ≤ y) ∧ PRepO kd q fp o w
  mem : VX p b M w
  low : Onl p b [] W w
section
variable {p b q : Nat} {kd : Bool} {o o' : OG} {M M' : MV} {W w w' X Y : World} {E : List Nat} {N : Nat}
theorem onl_fresh (h : Onl p b [] X w) (k : Onl p b E w w') (hE : ∀ y ∈ E, X.heap.size ≤ y) : Onl p b [] X w' :=
  ⟨k.os.trans h.os, k.tape.trans h.tape, k.output.trans h.output, Nat.le_trans h.size k.size, fun j hj h1 h2 _ => (k.block j (Nat.lt_of_lt_of_le hj h.size) h1 h2 (fun e => by have := hE j e; omega)).trans (h.block j hj h1 h2 (by simp))⟩
theorem SoleO.step (S : SoleO W p b kd q o M w) (h1 : 1 < W.heap.size) (hs : M.s.st < 1000000) : Calls Tryz.prog (fnO kd) #[.pointer (some ⟨q, 0, none⟩), .pointer (some ⟨p, 0, none⟩)] w fun e w' => e = .returned (.bool ((oX o M).1.ln == 0)) ∧ SoleO W p b kd q (oX o M).1 (oX o M).2 w' := by
  obtain ⟨fp, hf, R⟩ := S.rep
  refine (stepO_all (fun y hy => by have := hf y hy; omega) S.mem hs S.num S.len R).mono ?_
  rintro e w' ⟨he, fp', hsub, R', F, O⟩
  have hsz := S.low.size
  exact ⟨he, S.num.step S.mem.u64, by rw [oX_g]; exact S.len, ⟨fp', fun y hy => (hsub y hy).elim (hf y) fun k => by omega, R'⟩, F, onl_fresh S.low O hf⟩
set_option maxRecDepth 100000 in
set_option maxHeartbeats 4000000 in
/-- A Give alone, that ends in N steps. -/
theorem given_any {A : Option Addr} {n k : Nat} {g : List EP} (h : SeeE W (.slice A n k) g) (hok : ∀ e ∈ g, e.ok) (hl : g.length < 100000) (F : VX p b M W) (hs : M.s.st + N < 900000) (E : EndsO (newG g) M N o' M') :
    Calls Tryz.prog 19 #[.pointer (some ⟨p, 0, none⟩), .slice A n k, .int .i64 (N : Int)] W fun e w' => e = .returned (.bool true) ∧ VX p b M' w' ∧ Onl p b [] W w' := by
  have h1W : 1 < W.heap.size := by have := F.lay.1; have := F.laym.1; omega
  have HF := Lib.hid F
  have HE := Lib.hid E
  have HG := Lib.hid h
  have HOK := Lib.hid hok
  have HLN := Lib.hid hl
  have hN := E.pos
  have hNi : (1 : Int) ≤ (N : Int) := by omega
  have hN2 : N < 900000 := by have := F.st0; omega
  clear F E h hok hl
  go_enter Tryz.func19, Tryz.ntmps19
  go_wp2_with fail
  ((with_reducible refine (newGive_all HG.out HOK.out HLN.out).mono ?_); rintro e w1 ⟨q, fp, rfl, hq, hk, hb⟩)
  have HS := Lib.hid (show ∃ o9 M9, M9.s.st ≤ M.s.st + ((0 : Nat) : Int) ∧ EndsO o9 M9 (N - 0) o' M' ∧ SoleO W p b false q o9 M9 w1 from ⟨_, _, by simp, HE.out, .newG _, HLN.out, ⟨fp, hq, hk⟩, HF.out.below hb, .of_below hb⟩)
  clear hq hk hb HF HE
  go_wp2_with fail
  go_loopw [8] (fun j wr => ∃ i : Nat, i < N ∧ j = .int .i64 ((i : Int) + 1) ∧ Hid (∃ o9 M9, M9.s.st ≤ M.s.st + (i : Int) ∧ EndsO o9 M9 (N - i) o' M' ∧ SoleO W p b false q o9 M9 wr)) (fun j _ => N + 1 - (intOf j).toNat)
  case atStart => exact ⟨0, by omega, by go_num, HS⟩
  case round =>
    clear HS
    obtain ⟨i, hi, rfl, hr⟩ := hrel
    obtain ⟨o9, M9, h2, h3, h4⟩ := hr.out
    have HSS := Lib.hid h4
    have H3 := Lib.hid h3
    have H2 := Lib.hid h2
    have hst := HSS.out.step h1W (by omega)
    rw [show fnO false = 26 from rfl] at hst
    clear hr h3 h4
    by_cases hlt : i + 1 < N
    · have hlt' : (i : Int) + 1 < (N : Int) := by omega
      have hnext : (oX o9 M9).1.ln ≠ 0 ∧ ∃ o2 M2, M2.s.st ≤ M.s.st + ((i + 1 : Nat) : Int) ∧ EndsO o2 M2 (N - (i + 1)) o' M' ∧ o2 = (oX o9 M9).1 ∧ M2 = (oX o9 M9).2 := by
        have h := H3.out
        have hst := oX_st o9 M9
        generalize hn : N - i = n at h
        cases h with
        | one h => omega
        | @more _ _ n _ _ h5 h6 =>
          refine ⟨h5, _, _, by push_cast; omega, ?_, rfl, rfl⟩
          rw [show N - (i + 1) = n by omega]
          exact h6
      obtain ⟨hne, hnx⟩ := hnext
      have hbz : ((oX o9 M9).1.ln == 0) = false := beq_eq_false_iff_ne.2 hne
      rw [hbz] at hst
      have HNX := Lib.hid hnx
      clear hne hnx h2 hbz
      go_wp2_with fail
      ((with_reducible refine hst.mono ?_); rintro e w3 ⟨rfl, h3⟩)
      have HR := Lib.hid (show ∃ o9 M9, M9.s.st ≤ M.s.st + ((i + 1 : Nat) : Int) ∧ EndsO o9 M9 (N - (i + 1)) o' M' ∧ SoleO W p b false q o9 M9 w3 from by
        obtain ⟨o2, M2, g1, g2, rfl, rfl⟩ := HNX.out
        exact ⟨_, _, g1, g2, h3⟩)
      clear h3 hst HSS H3 HNX H2
      go_wp2_with fail
      go_roundw
      case rel => exact ⟨i + 1, by omega, by go_num, HR⟩
      case measure => simp [intOf]; omega
    · have hlt' : ¬ ((i : Int) + 1 < (N : Int)) := by omega
      have hfin : (oX o9 M9).1 = o' ∧ (oX o9 M9).2 = M' := by
        have h := H3.out
        generalize hn : N - i = n at h
        cases h with
        | one _ => exact ⟨rfl, rfl⟩
        | more h h6 => have := h6.pos; omega
      have hz : (oX o9 M9).1.ln = 0 := by
        rw [hfin.1]
        exact H3.out.over
      have hbz : ((oX o9 M9).1.ln == 0) = true := beq_iff_eq.2 hz
      rw [hbz, hfin.1, hfin.2] at hst
      have hzo : o'.ln = 0 := hfin.1 ▸ hz
      have HZO := Lib.hid hzo
      clear hfin hz hbz h2 hzo
      go_wp2_with fail
      ((with_reducible refine hst.mono ?_); rintro e w3 ⟨rfl, h3⟩)
      have HS3 := Lib.hid h3
      clear h3 hst
      go_wp2_with fail
      go_ret
      exact ⟨rfl, HS3.out.mem, HS3.out.low⟩
set_option maxRecDepth 100000 in
set_option maxHeartbeats 4000000 in
/-- A Take alone, that ends in N steps. -/
theorem taken_any (F : VX p b M W) (hs : M.s.st + N < 900000) (E : EndsO (newT) M N o' M') :
    Calls Tryz.prog 17 #[.pointer (some ⟨p, 0, none⟩), .int .i64 (N : Int)] W fun e w' => ∃ A k, e = .returned (.tuple #[.slice A o'.got.length k, .bool true]) ∧ OwnE w' W.heap.size (.slice A o'.got.length k) o'.got ∧ VX p b M' w' ∧ Onl p b [] W w' := by
  have h1W : 1 < W.heap.size := by have := F.lay.1; have := F.laym.1; omega
  have HF := Lib.hid F
  have HE := Lib.hid E
  skip
  skip
  skip
  have hN := E.pos
  have hNi : (1 : Int) ≤ (N : Int) := by omega
  have hN2 : N < 900000 := by have := F.st0; omega
  clear F E
  go_enter Tryz.func17, Tryz.ntmps17
  go_wp2_with fail
  ((with_reducible refine (newTake_all _).mono ?_); rintro e w1 ⟨q, fp, rfl, hq, hk, hb⟩)
  have HS := Lib.hid (show ∃ o9 M9, M9.s.st ≤ M.s.st + ((0 : Nat) : Int) ∧ EndsO o9 M9 (N - 0) o' M' ∧ SoleO W p b true q o9 M9 w1 from ⟨_, _, by simp, HE.out, .newT, by decide, ⟨fp, hq, hk⟩, HF.out.below hb, .of_below hb⟩)
  clear hq hk hb HF HE
  go_wp2_with fail
  go_loopw [7] (fun j wr => ∃ i : Nat, i < N ∧ j = .int .i64 ((i : Int) + 1) ∧ Hid (∃ o9 M9, M9.s.st ≤ M.s.st + (i : Int) ∧ EndsO o9 M9 (N - i) o' M' ∧ SoleO W p b true q o9 M9 wr)) (fun j _ => N + 1 - (intOf j).toNat)
  case atStart => exact ⟨0, by omega, by go_num, HS⟩
  case round =>
    clear HS
    obtain ⟨i, hi, rfl, hr⟩ := hrel
    obtain ⟨o9, M9, h2, h3, h4⟩ := hr.out
    have HSS := Lib.hid h4
    have H3 := Lib.hid h3
    have H2 := Lib.hid h2
    have hst := HSS.out.step h1W (by omega)
    rw [show fnO true = 28 from rfl] at hst
    clear hr h3 h4
    by_cases hlt : i + 1 < N
    · have hlt' : (i : Int) + 1 < (N : Int) := by omega
      have hnext : (oX o9 M9).1.ln ≠ 0 ∧ ∃ o2 M2, M2.s.st ≤ M.s.st + ((i + 1 : Nat) : Int) ∧ EndsO o2 M2 (N - (i + 1)) o' M' ∧ o2 = (oX o9 M9).1 ∧ M2 = (oX o9 M9).2 := by
        have h := H3.out
        have hst := oX_st o9 M9
        generalize hn : N - i = n at h
        cases h with
        | one h => omega
        | @more _ _ n _ _ h5 h6 =>
          refine ⟨h5, _, _, by push_cast; omega, ?_, rfl, rfl⟩
          rw [show N - (i + 1) = n by omega]
          exact h6
      obtain ⟨hne, hnx⟩ := hnext
      have hbz : ((oX o9 M9).1.ln == 0) = false := beq_eq_false_iff_ne.2 hne
      rw [hbz] at hst
      have HNX := Lib.hid hnx
      clear hne hnx h2 hbz
      go_wp2_with fail
      ((with_reducible refine hst.mono ?_); rintro e w3 ⟨rfl, h3⟩)
      have HR := Lib.hid (show ∃ o9 M9, M9.s.st ≤ M.s.st + ((i + 1 : Nat) : Int) ∧ EndsO o9 M9 (N - (i + 1)) o' M' ∧ SoleO W p b true q o9 M9 w3 from by
        obtain ⟨o2, M2, g1, g2, rfl, rfl⟩ := HNX.out
        exact ⟨_, _, g1, g2, h3⟩)
      clear h3 hst HSS H3 HNX H2
      go_wp2_with fail
      go_roundw
      case rel => exact ⟨i + 1, by omega, by go_num, HR⟩
      case measure => simp [intOf]; omega
    · have hlt' : ¬ ((i : Int) + 1 < (N : Int)) := by omega
      have hfin : (oX o9 M9).1 = o' ∧ (oX o9 M9).2 = M' := by
        have h := H3.out
        generalize hn : N - i = n at h
        cases h with
        | one _ => exact ⟨rfl, rfl⟩
        | more h h6 => have := h6.pos; omega
      have hz : (oX o9 M9).1.ln = 0 := by
        rw [hfin.1]
        exact H3.out.over
      have hbz : ((oX o9 M9).1.ln == 0) = true := beq_iff_eq.2 hz
      rw [hbz, hfin.1, hfin.2] at hst
      have hzo : o'.ln = 0 := hfin.1 ▸ hz
      have HZO := Lib.hid hzo
      clear hfin hz hbz h2 hzo
      go_wp2_with fail
      ((with_reducible refine hst.mono ?_); rintro e w3 ⟨rfl, h3⟩)
      have HS3 := Lib.hid h3
      clear h3 hst
      obtain ⟨fp, hf, R⟩ := HS3.out.rep
      have hgt := gotT_all HS3.out.num R
      rw [if_pos HZO.out] at hgt
      clear hf R
      go_wp2_with fail
      ((with_reducible refine hgt.mono ?_); rintro e5 w5 ⟨A5, k5, xs5, hx5, rfl, hO5, hb5⟩)
      subst hx5
      have HO5 := Lib.hid (hO5.mono HS3.out.low.size)
      have HB5 := Lib.hid hb5
      clear hO5 hb5 hgt
      go_wp2_with fail
      go_ret2
      exact ⟨A5, k5, rfl, HO5.out, HS3.out.mem.below HB5.out, HS3.out.low.trans (.of_below HB5.out)⟩
end
end Go.Proofs.YtjpanofkikfeoaaGreatDoor
namespace Go.Proofs.YtjpanofkikfeoaaGreatDoor
open Go.RowKit Go.Maps

theorem entS_ok {s : Int} (h : 0 ≤ s ∧ s < 256) : (entS s).ok := ⟨slot_wf h, ⟨by show 0 ≤ s + 3; omega, by show s + 3 < 4294967296; omega⟩, ⟨by show 0 ≤ s + 1; omega, by show s + 1 < _; omega⟩, ⟨by show 0 ≤ s + 5; omega, by show s + 5 < _; omega⟩, ⟨by show 0 ≤ s + 9; omega, by show s + 9 < _; omega⟩⟩
theorem SeeE.of_bq {w : World} {g : Nat} {xs : List EP} (k : Bq g 62 (flatE xs) w) (hl : xs.length < 100000) : SeeE w (.slice (some ⟨g, 0, none⟩) xs.length xs.length) xs :=
  .inr ⟨g, 0, xs.length, rfl, Nat.le_refl _, by omega, fun j u hu => by rw [Nat.zero_add]; exact (k.cell j).trans hu⟩
/-- A stack of slots, entries of which the words say what they say. -/
structure StO (P : Int → Prop) (L : List Int) (W : World) (p b : Nat) (k : Int) (w : World) : Prop where
  mem : ∃ V, Me W p b V k w ∧ Dat P V ∧ Chn V (wSlot (V adO)) L
  rng : ∀ x, P x → 0 ≤ x ∧ x < 256
  inP : ∀ x ∈ L, P x
section
variable {P Q : Int → Prop} {L : List Int} {W w w' : World} {p b : Nat} {k k' : Int}
theorem StO.mono (h : StO P L W p b k w) (hk : k ≤ k') : StO P L W p b k' w := by
  obtain ⟨V, h1, h2⟩ := h.mem
  exact ⟨⟨V, h1.mono hk, h2⟩, h.rng, h.inP⟩
theorem StO.below (h : StO P L W p b k w) (hb : Below w.heap.size w w') : StO P L W p b k w' := by
  obtain ⟨V, h1, h2⟩ := h.mem
  exact ⟨⟨V, h1.below hb, h2⟩, h.rng, h.inP⟩
theorem StO.low (h : StO P L W p b k w) : Below W.heap.size W w := by obtain ⟨V, h1, _⟩ := h.mem; exact h1.low
theorem StO.lay (h : StO P L W p b k w) : Lay w ∧ LayM w := by obtain ⟨V, h1, _⟩ := h.mem; exact h1.lay
theorem StO.iff (h : StO P L W p b k w) (hq : ∀ x, Q x ↔ P x) : StO Q L W p b k w := by
  obtain ⟨V, h1, h2, h3⟩ := h.mem
  exact ⟨⟨V, h1, fun s hs => h2 s ((hq s).1 hs), h3⟩, fun x hx => h.rng x ((hq x).1 hx), fun x hx => (hq x).2 (h.inP x hx)⟩
/-- An entry more that has words. -/
theorem StO.of {s : Int} (h : StO P L W p b k w) (hk : 0 ≤ k ∧ k < 800000) (hs : 0 ≤ s ∧ s < 256) :
    Calls Tryz.prog 18 #[.pointer (some ⟨p, 0, none⟩), .int .i64 s] w fun e w' => e = .returned (.agg (entS s).cells.toArray) ∧ StO (fun x => P x ∨ x = s) L W p b (k + 4) w' ∧ Onl p b [] w w' := by
  obtain ⟨V, h1, h2, h3⟩ := h.mem
  have hm := h1
  obtain ⟨M, rfl, hst, F⟩ := h1.mem
  refine (of_vx F (by omega) hs).mono ?_
  rintro e w' ⟨he, M', F', hV, hs', o⟩
  refine ⟨he, ⟨⟨ofV M.V s, hm.onl hV (by omega) F' o, ofV_dat h2 h.rng hs, ?_⟩, fun x hx => hx.elim (h.rng x) fun e => e ▸ hs, fun x hx => .inl (h.inP x hx)⟩, o⟩
  rw [ofV_orphan hs]
  exact h3.congr fun x hx => ofV_link hs (h.rng x (h.inP x hx))
/-- Entries are given. -/
theorem StO.given {A : Option Addr} {c N : Nat} {g : List EP} (h : StO P L W p b k w) (hk : 0 ≤ k ∧ k < 800000) (hr : SeeE w (.slice A g.length c) g) (hm : mayE g) (he : ∀ e ∈ g, isE P e) (hd : ∀ x ∈ L, x ∉ slots g) (hl : g.length < 1000) (hN : N = g.length + 2) :
    Calls Tryz.prog 19 #[.pointer (some ⟨p, 0, none⟩), .slice A g.length c, .int .i64 (N : Int)] w fun e w' => e = .returned (.bool true) ∧ StO P (slots g ++ L) W p b (k + 1002) w' ∧ Onl p b [] w w' := by
  subst hN
  obtain ⟨V, h1, h2, h3⟩ := h.mem
  have hmm := h1
  obtain ⟨M, rfl, hst, F⟩ := h1.mem
  obtain ⟨o', M', E, hdat, hch⟩ := give_alone hm hd h3
  have hok : ∀ e ∈ g, e.ok := fun e hx => by
    rw [(he e hx).2]
    exact entS_ok (h.rng _ (he e hx).1)
  have hE := E.st
  refine (given_any hr hok (by omega) F (by push_cast; omega) E).mono ?_
  rintro e w' ⟨he', F', o⟩
  refine ⟨he', ⟨⟨M'.V, hmm.onl rfl (by push_cast at hE; omega) F' o, fun s hs => ?_, hch⟩, h.rng, fun x hx => ?_⟩, o⟩
  · obtain ⟨d0, d1, d3, d4⟩ := h2 s hs
    have hsr := h.rng s hs
    rw [hdat s 0 hsr (by decide) (by decide), hdat s 1 hsr (by decide) (by decide), hdat s 3 hsr (by decide) (by decide), hdat s 4 hsr (by decide) (by decide)]
    exact ⟨d0, d1, d3, d4⟩
  · rcases List.mem_append.1 hx with hx | hx
    · obtain ⟨e, h4, rfl⟩ := List.mem_map.1 hx
      exact (he e h4).1
    · exact h.inP x hx
/-- All is taken. -/
theorem StO.taken {x : Int} {r : List Int} {N : Nat} (h : StO P (x :: r) W p b k w) (hk : 0 ≤ k ∧ k < 800000) (hl : r.length < 256) (hN : N = 5 * (r.length + 1) + 2) :
    Calls Tryz.prog 17 #[.pointer (some ⟨p, 0, none⟩), .int .i64 (N : Int)] w fun e w' => ∃ A c, e = .returned (.tuple #[.slice A (r.length + 1) c, .bool true]) ∧ OwnE w' w.heap.size (.slice A (r.length + 1) c) ((x :: r).map entS) ∧ StO P [] W p b (k + 1302) w' ∧ Onl p b [] w w' := by
  subst hN
  obtain ⟨V, h1, h2, h3⟩ := h.mem
  have hmm := h1
  obtain ⟨M, rfl, hst, F⟩ := h1.mem
  obtain ⟨o', M', v, E, hV, hgot⟩ := take_alone h2 h.inP h.rng h3 hl
  have hE := E.st
  refine (taken_any F (by push_cast; omega) E).mono ?_
  rintro e w' ⟨A, c, he, hO, F', o⟩
  have hlen : o'.got.length = r.length + 1 := by rw [hgot]; simp
  rw [hlen] at he hO
  rw [hgot] at hO
  refine ⟨A, c, he, hO, ⟨⟨setV M.V adO (headW (-1) v), hmm.onl hV (by push_cast at hE; omega) F' o, dat_head h2 h.rng _, ?_⟩, h.rng, by simp⟩, o⟩
  rw [setV_same mayO, head_slot _ _ (by decide) (by decide)]
  show (-1 : Int) < 0
  decide
/-- Nothing is left to be taken. -/
theorem StO.none (h : StO P [] W p b k w) (hk : 0 ≤ k ∧ k < 800000) :
    Calls Tryz.prog 17 #[.pointer (some ⟨p, 0, none⟩), .int .i64 1] w fun e w' => ∃ A c, e = .returned (.tuple #[.slice A 0 c, .bool true]) ∧ StO P [] W p b (k + 1) w' ∧ Onl p b [] w w' := by
  obtain ⟨V, h1, h2, h3⟩ := h.mem
  have hmm := h1
  obtain ⟨M, rfl, hst, F⟩ := h1.mem
  obtain ⟨o', M', E, hV, hgot⟩ := take_none (M := M) h3
  have hE := E.st
  refine (taken_any (N := 1) F (by push_cast; omega) E).mono ?_
  rintro e w' ⟨A, c, he, hO, F', o⟩
  rw [hgot] at he
  exact ⟨A, c, he, ⟨⟨M.V, hmm.onl hV (by push_cast at hE; omega) F' o, h2, h3⟩, h.rng, h.inP⟩, o⟩
end
end Go.Proofs.YtjpanofkikfeoaaGreatDoor
