/-
  The laws' grown and shrunk; conditions as each theorem says.
-/
import Derived.Test.YtmjcbjcnmgleaaaGreatDoorXP42
import Derived.Test.YtmjcbjcnmgleaaaGreatDoorXP27
namespace Go.Proofs.YtmjcbjcnmgleaaaGreatDoor
open Go.RowKit Go.Maps
theorem turnX_st (o : KX) (M : MV) : (turnX o M).2.s.st ≤ M.s.st + 1 := by
  unfold turnX
  by_cases h : o.k.ln = 11
  · rw [if_pos h]; exact Int.le_refl _
  rw [if_neg h]
  clear h
  by_cases h : o.k.ln = 12
  · rw [if_pos h]; exact Int.le_refl _
  rw [if_neg h]
  clear h
  by_cases h : o.k.ln = 13
  · rw [if_pos h]; exact Int.le_refl _
  rw [if_neg h]
  clear h
  by_cases h : o.k.ln = 14
  · rw [if_pos h]; exact Int.le_refl _
  rw [if_neg h]
  clear h
  by_cases h : o.k.ln = 15
  · rw [if_pos h]; exact pushX_st _ _
  rw [if_neg h]
  show M.s.st ≤ M.s.st + 1
  omega
theorem growX_st (o : KX) (M : MV) : (growX o M).2.s.st ≤ M.s.st + 1 := by
  unfold growX
  by_cases h : o.k.ln = 1
  · rw [if_pos h]; exact Int.le_refl _
  rw [if_neg h]
  clear h
  by_cases h : o.k.ln = 2
  · rw [if_pos h]; exact Int.le_refl _
  rw [if_neg h]
  show M.s.st ≤ M.s.st + 1
  omega
theorem shrinkX_st (o : KX) (M : MV) : (shrinkX o M).2.s.st ≤ M.s.st + 1 := by
  unfold shrinkX
  by_cases h : o.k.ln = 1
  · rw [if_pos h]; exact Int.le_refl _
  rw [if_neg h]
  clear h
  by_cases h : o.k.ln = 2
  · rw [if_pos h]; exact Int.le_refl _
  rw [if_neg h]
  clear h
  by_cases h : o.k.ln = 3
  · rw [if_pos h]; exact Int.le_refl _
  rw [if_neg h]
  clear h
  by_cases h : o.k.ln = 4
  · rw [if_pos h]; exact Int.le_refl _
  rw [if_neg h]
  clear h
  by_cases h : o.k.ln = 5
  · rw [if_pos h]; exact popX_st _ _
  rw [if_neg h]
  clear h
  by_cases h : o.k.ln = 6
  · rw [if_pos h]; exact parkX_st _ _
  rw [if_neg h]
  clear h
  by_cases h : o.k.ln = 7
  · rw [if_pos h]; exact pushX_st _ _
  rw [if_neg h]
  clear h
  by_cases h : o.k.ln = 8
  · rw [if_pos h]; exact Int.le_refl _
  rw [if_neg h]
  show M.s.st ≤ M.s.st + 1
  omega
theorem kX_st (o : KX) (M : MV) : (kX o M).2.s.st ≤ M.s.st + 1 := by
  unfold kX
  split
  · exact turnX_st o M
  · split
    · exact growX_st o M
    · exact shrinkX_st o M
structure SoleG (W : World) (p b q : Nat) (o : KX) (M : MV) (w : World) : Prop where
  rep : ∃ r, GrRep q r o w ∧ W.heap.size ≤ r
  num : KNum o
  mem : VX p b M w
  low : Onl p b [] W w
  old : W.heap.size ≤ q
structure SoleS (W : World) (p b q : Nat) (o : KX) (M : MV) (w : World) : Prop where
  rep : ∃ r r1 kv, ShRep W.heap.size q r r1 o kv w ∧ W.heap.size ≤ r ∧ W.heap.size ≤ r1 ∧ ∀ g, kv.ownBlock = some g → W.heap.size ≤ g
  num : KNum o
  mem : VX p b M w
  low : Onl p b [] W w
  old : W.heap.size ≤ q
section
variable {p b q r : Nat} {o : KX} {M : MV} {W w w' X Y : World}
theorem GrRep.sh (h : GrRep q r o w) : o.k.sh = false ∨ o.k.ln = 0 := by
  rcases h with ⟨h, _⟩ | ⟨h, _⟩ | ⟨h, _⟩
  · exact .inr h
  · exact .inl h
  · exact .inl h
theorem ShRep.sh {B r1 : Nat} {kv : Value} (h : ShRep B q r r1 o kv w) : o.k.sh = true ∨ o.k.ln = 0 := by
  rcases h with ⟨h, _⟩ | ⟨h, _⟩
  · exact .inr h
  · exact .inl h
theorem SoleG.step (h : SoleG W p b q o M w) (h1 : 1 < W.heap.size) (hs : M.s.st < 1000000) :
    Calls Tryz.prog 38 #[.pointer (some ⟨q, 0, none⟩), .pointer (some ⟨p, 0, none⟩)] w fun e w' => e = .returned (.bool ((kX o M).1.k.ln == 0)) ∧ SoleG W p b q (kX o M).1 (kX o M).2 w' := by
  obtain ⟨⟨r, hr, g1⟩, hn, F, low, old⟩ := h
  refine (grow_stepX (by omega) (by omega) F hs hn hr hr.sh).mono ?_
  rintro e w' ⟨rfl, r', k1, k2, k3, k4⟩
  have := low.size
  refine ⟨rfl, ⟨r', k1, by omega⟩, hn.step F.u64, k2, low.past k3 (fun x hx => ?_), old⟩
  simp only [List.mem_cons, List.not_mem_nil, or_false] at hx
  omega
theorem SoleS.step (h : SoleS W p b q o M w) (h1 : 1 < W.heap.size) (hs : M.s.st < 1000000) :
    Calls Tryz.prog 35 #[.pointer (some ⟨q, 0, none⟩), .pointer (some ⟨p, 0, none⟩)] w fun e w' => e = .returned (.bool ((kX o M).1.k.ln == 0)) ∧ SoleS W p b q (kX o M).1 (kX o M).2 w' := by
  obtain ⟨⟨r, r1, kv, hr, g1, g2, g3⟩, hn, F, low, old⟩ := h
  refine (shrink_stepX (by omega) (by omega) (by omega) h1 low.size F hs hn hr.sh hr).mono ?_
  rintro e w' ⟨rfl, r', r1', kv', k1, k2, k3, k4, k5, k6⟩
  have := low.size
  refine ⟨rfl, ⟨r', r1', kv', k1, by omega, by omega, fun g hg => ?_⟩, hn.step F.u64, k2, low.past k3 (fun x hx => ?_), old⟩
  · rcases k6 with e | ⟨g', e, h⟩
    · exact g3 g (e.symm.trans hg)
    · have := e.symm.trans hg
      simp only [Option.some.injEq] at this
      omega
  · simp only [List.mem_cons, Option.mem_toList] at hx
    rcases hx with rfl | rfl | rfl | h
    · exact old
    · exact g1
    · exact g2
    · exact g3 x h
theorem SoleG.begin {n : Int} (h0 : 0 ≤ n) (h1 : n < 32) (F : VX p b M W) (k : Bq q 60 (TC 1 .nilIface n (n * 8) 0 0 []) w) (hq : W.heap.size ≤ q) (hb : Below W.heap.size W w) : SoleG W p b q (newKX false n 0) M w :=
  ⟨⟨q, .inr (.inl ⟨rfl, .inl rfl, .nilIface, 0, u64_0, by rw [Int.mul_comm] at k; exact k⟩), hq⟩, KNum.new false ⟨h0, h1⟩ (by omega), F.below hb, .of_below hb, hq⟩
theorem SoleS.begin {n lk : Int} (h0 : 0 ≤ n) (h1 : n < 32) (hl : -9223372036854775808 ≤ lk ∧ lk < 9223372036854775808) (F : VX p b M W) (k : Bq q 63 (TC 1 .nilIface n (n * 8) 0 0 [.int .i64 lk, .slice none 0 0]) w) (hq : W.heap.size ≤ q) (hb : Below W.heap.size W w) : SoleS W p b q (newKX true n lk) M w :=
  ⟨⟨q, q, .slice none 0 0, .inr ⟨rfl, by simp [newKX], fun _ => World.ownsRow_nil _ _ _ _, .inl ⟨.inl rfl, .nilIface, 0, u64_0, by rw [Int.mul_comm] at k; exact k⟩⟩, hq, hq, fun g hg => by simp [Value.ownBlock] at hg⟩, KNum.new true ⟨h0, h1⟩ hl, F.below hb, .of_below hb, hq⟩
theorem SoleG.got (h : SoleG W p b q o M w) (h0 : o.k.ln = 0) : Calls Tryz.prog 40 #[.pointer (some ⟨q, 0, none⟩)] w fun e w' => e = .returned (.int .i64 o.err) ∧ w' = w := by
  obtain ⟨r, hr, _⟩ := h.rep
  rcases hr with ⟨_, pt, sg, sl, ws, k⟩ | ⟨_, h, _⟩ | ⟨_, h, _⟩
  · exact (gotGrow k).mono fun e w' h => ⟨h.1.trans rfl, h.2⟩
  · omega
  · omega
theorem SoleS.got (h : SoleS W p b q o M w) (h0 : o.k.ln = 0) : Calls Tryz.prog 37 #[.pointer (some ⟨q, 0, none⟩)] w fun e w' => e = .returned (.int .i64 o.err) ∧ w' = w := by
  obtain ⟨r, r1, kv, hr, _⟩ := h.rep
  rcases hr with ⟨_, pt, sg, sl, ws, lk, k⟩ | ⟨_, h, _⟩
  · exact (gotShrink k).mono fun e w' h => ⟨h.1.trans rfl, h.2⟩
  · exact absurd h0 h
end
end Go.Proofs.YtmjcbjcnmgleaaaGreatDoor
namespace Go.Proofs.YtmjcbjcnmgleaaaGreatDoor
open Go.RowKit Go.Maps
structure Bex (up c h : Nat) (M : MV) : Prop where
  stk : Stk (maV M.V).ms (downS (8 * up)) (8 * up : Nat)
  hdr : ∀ z : Int, (maV M.V).hdr z = if 8 * (up : Int) ≤ z ∧ z < (h : Int) then headerW 3 0 else 0
  spk : ∀ g : Int, (maV M.V).spk g = if (up : Int) ≤ g ∧ g < (c : Int) then 8 else 0
  sst : ∀ g : Int, 0 ≤ g → (maV M.V).sst g = if g < (up : Int) then 1 else 0
  st : M.s.st = 25 * (up : Int) + (c - up) + (h - 8 * up)
theorem Bex.start {up : Nat} {M : MV} (h : Beg (8 * up) up M) : Bex up up (8 * up) M := by
  refine ⟨h.stk, fun z => ?_, fun g => ?_, fun g h0 => ?_, ?_⟩
  · rw [h.hdr, if_neg (by push_cast; omega)]
  · rw [h.spk, if_neg (by omega)]
  · by_cases hg : g < (up : Int)
    · rw [if_pos hg, h.sst g h0 hg]
    · rw [if_neg hg, h.off g (by omega)]
  · rw [h.st]; push_cast; omega
theorem Bex.park {up c h : Nat} {M : MV} (H : Bex up c h M) (hc : c < 32) (hu : up ≤ c) : Bex up (c + 1) h (stM M (adP c) 8) := by
  have hg : 0 ≤ (c : Int) ∧ (c : Int) < 32 := by omega
  have e : maV (stM M (adP c) 8).V = (maV M.V).setP c 8 := ma_setP hg 8
  refine ⟨by rw [e]; exact H.stk, by rw [e]; exact H.hdr, fun g => ?_, by rw [e]; exact H.sst, ?_⟩
  · rw [e]
    show (if g = (c : Int) then (8 : Int) else (maV M.V).spk g) = _
    by_cases hgi : g = c
    · rw [if_pos hgi, if_pos (by push_cast; omega)]
    · rw [if_neg hgi, H.spk]
      by_cases k : (up : Int) ≤ g ∧ g < (c : Int)
      · rw [if_pos k, if_pos (by push_cast; omega)]
      · rw [if_neg k, if_neg (by push_cast; omega)]
  · show M.s.st + 1 = _
    rw [H.st]
    push_cast
    omega
theorem Bex.head {up c h : Nat} {M : MV} (H : Bex up c h M) (hh : h < 256) (hu : 8 * up ≤ h) : Bex up c (h + 1) (stM M (adH h) (headerW 3 0)) := by
  have hg : 0 ≤ (h : Int) ∧ (h : Int) < 256 := by omega
  have e : maV (stM M (adH h) (headerW 3 0)).V = (maV M.V).setH h (headerW 3 0) := ma_setH hg _
  refine ⟨by rw [e]; exact H.stk, fun z => ?_, by rw [e]; exact H.spk, by rw [e]; exact H.sst, ?_⟩
  · rw [e]
    show (if z = (h : Int) then headerW 3 0 else (maV M.V).hdr z) = _
    by_cases hgi : z = h
    · rw [if_pos hgi, if_pos (by push_cast; omega)]
    · rw [if_neg hgi, H.hdr]
      by_cases k : 8 * (up : Int) ≤ z ∧ z < (h : Int)
      · rw [if_pos k, if_pos (by push_cast; omega)]
      · rw [if_neg k, if_neg (by push_cast; omega)]
  · show M.s.st + 1 = _
    rw [H.st]
    push_cast
    omega
section
variable {p b : Nat} {sg sl : Int} {M : MV} {W w w' : World}
theorem store_P (F : VX p b M w) (hs : M.s.st < 1000000) (h : 0 ≤ sg ∧ sg < 32) (v : Int) (hv : U64 v) : Calls Tryz.prog 32 #[.pointer (some ⟨p, 0, none⟩), .agg #[.int .u8 6, .int .i64 sg, .int .i64 1], .int .u64 v] w fun e w' => e = .returned (.tuple #[]) ∧ VX p b (stM M (adP sg) v) w' ∧ Only p b w w' := by
  have := F.store hs (adP sg) v hv
  obtain ⟨e1, e2, e3⟩ := adP_at (i64w_in (x := sg) (by omega) (by omega))
  rw [e1, e2, e3] at this
  exact this
theorem store_H (F : VX p b M w) (hs : M.s.st < 1000000) (h : 0 ≤ sl ∧ sl < 256) (v : Int) (hv : U64 v) : Calls Tryz.prog 32 #[.pointer (some ⟨p, 0, none⟩), .agg #[.int .u8 9, .int .i64 sl, .int .i64 0], .int .u64 v] w fun e w' => e = .returned (.tuple #[]) ∧ VX p b (stM M (adH sl) v) w' ∧ Only p b w w' := by
  have := F.store hs (adH sl) v hv
  obtain ⟨e1, e2, e3⟩ := adH_at (slot_i64 h)
  rw [e1, e2, e3] at this
  exact this
theorem seg9_any (F : VX p b M w) (hs : M.s.st < 900000) (h : 0 ≤ sg ∧ sg < 32) : Calls Tryz.prog 28 #[.pointer (some ⟨p, 0, none⟩), .int .i64 sg] w fun e w' => e = .returned (.tuple #[.int .u64 (M.V (adG sg)), .int .u64 (M.V (adP sg))]) ∧ VX p b (ldM (ldM M (adG sg)) (adP sg)) w' ∧ Only p b w w' := by
  have HF := Lib.hid F
  clear F
  go_enter Tryz.func28, Tryz.ntmps28
  go_wp2_with fail
  ((with_reducible refine (segWord_any sg 0 _).mono ?_); rintro ee w1 ⟨rfl, hb1⟩)
  have HF1 := Lib.hid (HF.out.below hb1)
  have HO1 := Lib.hid (Only.of_below (p := p) (b := b) hb1)
  clear hb1
  go_wp2_with fail
  ((with_reducible refine (load_G HF1.out (by omega) h).mono ?_); rintro ee w2 ⟨rfl, F2, h2⟩)
  have HF2 := Lib.hid F2
  have HO2 := Lib.hid (HO1.out.trans h2)
  clear F2 h2
  go_wp2_with fail
  ((with_reducible refine (segWord_any sg 1 _).mono ?_); rintro ee w3 ⟨rfl, hb3⟩)
  have HF3 := Lib.hid (HF2.out.below hb3)
  have HO3 := Lib.hid (HO2.out.trans (Only.of_below hb3))
  clear hb3
  go_wp2_with fail
  ((with_reducible refine (load_P HF3.out (by rw [ld_st]; omega) h).mono ?_); rintro ee w4 ⟨rfl, F4, h4⟩)
  have HF4 := Lib.hid F4
  have HO4 := Lib.hid (HO3.out.trans h4)
  clear F4 h4
  go_wp2_with fail
  go_ret2
  exact ⟨rfl, HF4.out, HO4.out⟩
def Beg9P (up n : Nat) (W : World) (e : Ending) (w' : World) : Prop := ∃ p b M, e = .returned (.tuple #[.pointer (some ⟨p, 0, none⟩), .bool true]) ∧ Bex up n (8 * n) M ∧ VX p b M w' ∧ Below W.heap.size W w' ∧ W.heap.size ≤ p ∧ W.heap.size ≤ b
set_option maxRecDepth 100000 in
set_option maxHeartbeats 4000000 in
theorem begin9_any (up mr : Nat) (hn : up + mr ≤ 3) (W : World) (hL : Lay W) (hM : LayM W) : Calls Tryz.prog 19 #[.int .i64 up, .int .i64 mr] W (Beg9P up (up + mr) W) := by
  have h1W : 1 < W.heap.size := by have := hM.1; have := hL.1; omega
  have hu8 : U64 8 := ⟨by decide, by decide⟩
  have hu3 : U64 (headerW 3 0) := headerW_u64 3 0 (by decide) ⟨by decide, by decide⟩
  have hu0 : U64 0 := u64_0
  have hbeg := begin8_any up (by omega) W hL hM
  have hup : (up : Int) + (mr : Int) ≤ 3 := by omega
  have e1 : IntKind.i64.wrap ((up : Int) + (mr : Int)) = (up : Int) + (mr : Int) := by rw [IntKind.wrap_i64]; omega
  clear hL hM
  go_enter Tryz.func19, Tryz.ntmps19
  go_wp2_with fail
  ((with_reducible refine hbeg.mono ?_); rintro e w1 ⟨p, b, M, rfl, hB, F1, hb1, hwp, hwb⟩)
  have HR := Lib.hid (show ∃ M, Bex up up (8 * up) M ∧ VX p b M w1 ∧ Below W.heap.size W w1 from ⟨M, Bex.start hB, F1, hb1⟩)
  clear hbeg F1 hb1 hB M
  go_wp2_with fail
  go_loopw [8] (fun j wr => ∃ i : Nat, i ≤ mr ∧ j = .int .i64 ((up : Int) + (i : Int)) ∧ Hid (∃ M, Bex up (up + i) (8 * (up + i)) M ∧ VX p b M wr ∧ Below W.heap.size W wr)) (fun j _ => up + mr - (intOf j).toNat)
  case atStart => exact ⟨0, Nat.zero_le _, by go_num, HR⟩
  case round =>
    clear HR
    obtain ⟨i, hi, rfl, hr⟩ := hrel
    have hge : (0 : Int) ≤ (up : Int) + (i : Int) := by omega
    have hi32 : (up : Int) + (i : Int) < 32 := by omega
    by_cases hlt : i < mr
    · obtain ⟨M, hB, F, hlow⟩ := hr.out
      have hlt' : (up : Int) + (i : Int) < (up : Int) + (mr : Int) := by omega
      have hst := hB.st
      have hsts : M.s.st < 1000000 := by push_cast at hst; omega
      have HB := Lib.hid hB
      have HF := Lib.hid F
      have HLOW := Lib.hid hlow
      clear hB F hlow hr hst
      go_wp2_with fail
      ((with_reducible refine (segWord_any _ 1 _).mono ?_); rintro e w2 ⟨rfl, hb2⟩)
      have HF2 := Lib.hid (HF.out.below hb2)
      have HLOW2 := Lib.hid (HLOW.out.trans (hb2.mono HLOW.out.size))
      clear hb2
      go_wp2_with fail
      ((with_reducible refine (store_P HF2.out hsts ⟨hge, hi32⟩ 8 hu8).mono ?_); rintro e w3 ⟨rfl, F3, h3⟩)
      have hcast : (((up + i : Nat)) : Int) = (up : Int) + (i : Int) := by omega
      have HR := Lib.hid (show ∃ M', Bex up (up + (i + 1)) (8 * (up + i) + 0) M' ∧ VX p b M' w3 ∧ Below W.heap.size W w3 from ⟨_, HB.out.park (by omega) (by omega), by rw [hcast]; exact F3, HLOW2.out.trans ((Only3.of_only (q := p) h3).below (B := W.heap.size) hwp hwb hwp HLOW2.out.size)⟩)
      clear HB HF HLOW F3 h3 HF2 HLOW2 hsts M hcast
      go_wp2_with fail
      ((with_reducible refine (segSlots_good hge hi32 _).mono ?_); rintro e w4 ⟨rfl, rfl⟩)
      go_wp2_with fail
      rename World => wA
      go_loopw [11] (fun j wr => ∃ k : Nat, k ≤ 8 ∧ j = .int .i64 (((up : Int) + (i : Int)) * 8 + (k : Int)) ∧ Hid (∃ M, Bex up (up + (i + 1)) (8 * (up + i) + k) M ∧ VX p b M wr ∧ Below W.heap.size W wr)) (fun j _ => (up + i) * 8 + 8 - (intOf j).toNat)
      case atStart => exact ⟨0, Nat.zero_le _, by go_num, HR⟩
      case round =>
        clear HR
        obtain ⟨k, hk, rfl, hr⟩ := hrel
        have hkg : (0 : Int) ≤ ((up : Int) + (i : Int)) * 8 + (k : Int) := by omega
        by_cases hk8 : k < 8
        · have hk8' : ((up : Int) + (i : Int)) * 8 + (k : Int) < ((up : Int) + (i : Int)) * 8 + 8 := by omega
          have hx : ((8 * (up + i) + k : Nat) : Int) = ((up : Int) + (i : Int)) * 8 + (k : Int) := by push_cast; omega
          have hk256 : ((up : Int) + (i : Int)) * 8 + (k : Int) < 256 := by omega
          obtain ⟨M, hB, F, hlow⟩ := hr.out
          have hst := hB.st
          have hsts : M.s.st < 1000000 := by push_cast at hst; omega
          have HB := Lib.hid hB
          have HF := Lib.hid F
          have HLOW := Lib.hid hlow
          have HX := Lib.hid hx
          clear hB F hlow hr hst hx
          go_wp2_with fail
          ((with_reducible refine (segSlot_any _ 0 _).mono ?_); rintro e w2 ⟨rfl, hb2⟩)
          have HF2 := Lib.hid (HF.out.below hb2)
          have HLOW2 := Lib.hid (HLOW.out.trans (hb2.mono HLOW.out.size))
          clear hb2
          go_wp2_with fail
          ((with_reducible refine (header_lo 3 0 _ HF2.out.lay (by decide) hu0).mono ?_); rintro e w3 ⟨rfl, hb3⟩)
          have HF3 := Lib.hid (HF2.out.below hb3)
          have HLOW3 := Lib.hid (HLOW2.out.trans (hb3.mono HLOW2.out.size))
          clear hb3
          go_wp2_with fail
          ((with_reducible refine (store_H HF3.out hsts ⟨hkg, hk256⟩ (headerW 3 0) hu3).mono ?_); rintro e w4 ⟨rfl, F4, h4⟩)
          have HR := Lib.hid (show ∃ M', Bex up (up + (i + 1)) (8 * (up + i) + (k + 1)) M' ∧ VX p b M' w4 ∧ Below W.heap.size W w4 from ⟨_, HB.out.head (by omega) (by omega), by rw [HX.out]; exact F4, HLOW3.out.trans ((Only3.of_only (q := p) h4).below (B := W.heap.size) hwp hwb hwp HLOW3.out.size)⟩)
          clear HB HF HLOW F4 h4 HF2 HLOW2 HF3 HLOW3 hsts M
          go_wp2_with fail
          go_roundw
          case rel => exact ⟨k + 1, by omega, by go_num, HR⟩
          case measure => simp [intOf]; omega
        · have hkk : k = 8 := by omega
          have hk8' : ((up : Int) + (i : Int)) * 8 + 8 ≤ ((up : Int) + (i : Int)) * 8 + (k : Int) := by omega
          have hr2 := hr.out
          rw [hkk, show 8 * (up + i) + 8 = 8 * (up + (i + 1)) by omega] at hr2
          have HR := Lib.hid hr2
          clear hr hr2 hkk
          go_wp2_with fail
          go_roundw
          case rel => exact ⟨i + 1, by omega, by go_num, HR⟩
          case measure => simp [intOf]; omega
    · have hin : i = mr := by omega
      have hge' : (up : Int) + (mr : Int) ≤ (up : Int) + (i : Int) := by omega
      have hr2 := hr.out
      rw [hin] at hr2
      obtain ⟨M, hB, F, hlow⟩ := hr2
      have HB := Lib.hid hB
      have HF := Lib.hid F
      have HLOW := Lib.hid hlow
      clear hr hin hB F hlow
      go_wp2_with fail
      go_ret2
      exact ⟨p, b, M, rfl, HB.out, HF.out, HLOW.out, hwp, hwb⟩
end
end Go.Proofs.YtmjcbjcnmgleaaaGreatDoor
namespace Go.Proofs.YtmjcbjcnmgleaaaGreatDoor
open Go.RowKit Go.Maps
section
variable {p b q r : Nat} {M : MV} {W w w' X Y : World}
set_option maxRecDepth 100000 in
set_option maxHeartbeats 4000000 in
theorem grown_J {J Fin : Nat → KX → MV → Prop} {n : Int} (h0 : 0 ≤ n) (h1 : n < 32) (F : VX p b M W) (hJ : J 0 (newKX false n 0) M)
    (hst : ∀ i o M, J i o M → KNum o → (∀ x, U64 (M.V x)) → o.k.ln ≠ 0 ∧ i < 500 ∧ M.s.st < 1000000 ∧ (((kX o M).1.k.ln = 0 ∧ Fin (i + 1) (kX o M).1 (kX o M).2) ∨ ((kX o M).1.k.ln ≠ 0 ∧ J (i + 1) (kX o M).1 (kX o M).2))) :
    Calls Tryz.prog 29 #[.pointer (some ⟨p, 0, none⟩), .int .i64 n] W fun e w' => ∃ k o M', e = .returned (.tuple #[.int .i64 o.err, .int .i64 ((k : Nat) : Int)]) ∧ Fin k o M' ∧ VX p b M' w' ∧ Onl p b [] W w' := by
  have h1W : 1 < W.heap.size := by have := F.lay.1; have := F.laym.1; omega
  have HF := Lib.hid F
  have HST := Lib.hid hst
  have HJ := Lib.hid hJ
  clear F hst hJ
  go_enter Tryz.func29, Tryz.ntmps29
  go_wp2_with fail
  ((with_reducible refine (newGrow_good h0 h1 _).mono ?_); rintro e w1 ⟨q, rfl, hq, hk, hb⟩)
  have HS := Lib.hid (show ∃ o M', J 0 o M' ∧ SoleG W p b q o M' w1 from ⟨_, _, HJ.out, SoleG.begin h0 h1 HF.out hk hq hb⟩)
  clear hq hk hb HF HJ
  go_wp2_with fail
  go_loopw [7] (fun j wr => ∃ i : Nat, i ≤ 500 ∧ j = .int .i64 ((i : Int) + 1) ∧ Hid (∃ o M', J i o M' ∧ SoleG W p b q o M' wr)) (fun j _ => 500 + 2 - (intOf j).toNat)
  case atStart => exact ⟨0, by omega, by go_num, HS⟩
  case round =>
    clear HS
    obtain ⟨i, hi, rfl, hr⟩ := hrel
    obtain ⟨o, M', hj, hs⟩ := hr.out
    obtain ⟨ho0, him, hstt, hnext⟩ := HST.out i o M' hj hs.num hs.mem.u64
    have hge : (0 : Int) ≤ (i : Int) := by omega
    have hlt : (i : Int) + 1 ≤ 500 := by omega
    have HSS := Lib.hid hs
    have HN := Lib.hid hnext
    clear hr hj hs hnext ho0
    go_wp2_with fail
    ((with_reducible refine (HSS.out.step h1W hstt).mono ?_); rintro e w3 ⟨rfl, h3⟩)
    have HS3 := Lib.hid h3
    clear h3 hstt
    by_cases hin : (kX o M').1.k.ln = 0
    · have hb : ((kX o M').1.k.ln == 0) = true := beq_iff_eq.2 hin
      have HIN := Lib.hid hin
      clear hin
      go_wp2_with fail
      have hgt := HS3.out.got HIN.out
      ((with_reducible refine hgt.mono ?_); rintro e w4 ⟨rfl, rfl⟩)
      clear hgt
      go_wp2_with fail
      go_ret2
      refine ⟨i + 1, (kX o M').1, (kX o M').2, ?_, ?_, HS3.out.mem, HS3.out.low⟩
      · simp
      · exact HN.out.elim (fun h => h.2) fun h => absurd HIN.out h.1
    · have hb : ((kX o M').1.k.ln == 0) = false := beq_eq_false_iff_ne.2 hin
      have HR := Lib.hid (show ∃ o2 M2, J (i + 1) o2 M2 ∧ SoleG W p b q o2 M2 w3 from ⟨_, _, HN.out.elim (fun h => absurd h.1 hin) fun h => h.2, HS3.out⟩)
      clear hin HSS HN HS3
      go_wp2_with fail
      go_roundw
      case rel => exact ⟨i + 1, by omega, by go_num, HR⟩
      case measure => simp [intOf]; omega
set_option maxRecDepth 100000 in
set_option maxHeartbeats 4000000 in
theorem shrunk_J {J Fin : Nat → KX → MV → Prop} {n lk : Int} (h0 : 0 ≤ n) (h1 : n < 32) (hl : -9223372036854775808 ≤ lk ∧ lk < 9223372036854775808) (F : VX p b M W) (hJ : J 0 (newKX true n lk) M)
    (hst : ∀ i o M, J i o M → KNum o → (∀ x, U64 (M.V x)) → o.k.ln ≠ 0 ∧ i < 20000 ∧ M.s.st < 1000000 ∧ (((kX o M).1.k.ln = 0 ∧ Fin (i + 1) (kX o M).1 (kX o M).2) ∨ ((kX o M).1.k.ln ≠ 0 ∧ J (i + 1) (kX o M).1 (kX o M).2))) :
    Calls Tryz.prog 27 #[.pointer (some ⟨p, 0, none⟩), .int .i64 n, .int .i64 lk] W fun e w' => ∃ k o M', e = .returned (.tuple #[.int .i64 o.err, .int .i64 ((k : Nat) : Int)]) ∧ Fin k o M' ∧ VX p b M' w' ∧ Onl p b [] W w' := by
  have h1W : 1 < W.heap.size := by have := F.lay.1; have := F.laym.1; omega
  have HF := Lib.hid F
  have HST := Lib.hid hst
  have HJ := Lib.hid hJ
  clear F hst hJ
  go_enter Tryz.func27, Tryz.ntmps27
  go_wp2_with fail
  ((with_reducible refine (newShrink_good h0 h1 lk _).mono ?_); rintro e w1 ⟨q, rfl, hq, hk, hb⟩)
  have HS := Lib.hid (show ∃ o M', J 0 o M' ∧ SoleS W p b q o M' w1 from ⟨_, _, HJ.out, SoleS.begin h0 h1 hl HF.out hk hq hb⟩)
  clear hq hk hb HF HJ
  go_wp2_with fail
  go_loopw [9] (fun j wr => ∃ i : Nat, i ≤ 20000 ∧ j = .int .i64 ((i : Int) + 1) ∧ Hid (∃ o M', J i o M' ∧ SoleS W p b q o M' wr)) (fun j _ => 20000 + 2 - (intOf j).toNat)
  case atStart => exact ⟨0, by omega, by go_num, HS⟩
  case round =>
    clear HS
    obtain ⟨i, hi, rfl, hr⟩ := hrel
    obtain ⟨o, M', hj, hs⟩ := hr.out
    obtain ⟨ho0, him, hstt, hnext⟩ := HST.out i o M' hj hs.num hs.mem.u64
    have hge : (0 : Int) ≤ (i : Int) := by omega
    have hlt : (i : Int) + 1 ≤ 20000 := by omega
    have HSS := Lib.hid hs
    have HN := Lib.hid hnext
    clear hr hj hs hnext ho0
    go_wp2_with fail
    ((with_reducible refine (HSS.out.step h1W hstt).mono ?_); rintro e w3 ⟨rfl, h3⟩)
    have HS3 := Lib.hid h3
    clear h3 hstt
    by_cases hin : (kX o M').1.k.ln = 0
    · have hb : ((kX o M').1.k.ln == 0) = true := beq_iff_eq.2 hin
      have HIN := Lib.hid hin
      clear hin
      go_wp2_with fail
      have hgt := HS3.out.got HIN.out
      ((with_reducible refine hgt.mono ?_); rintro e w4 ⟨rfl, rfl⟩)
      clear hgt
      go_wp2_with fail
      go_ret2
      refine ⟨i + 1, (kX o M').1, (kX o M').2, ?_, ?_, HS3.out.mem, HS3.out.low⟩
      · simp
      · exact HN.out.elim (fun h => h.2) fun h => absurd HIN.out h.1
    · have hb : ((kX o M').1.k.ln == 0) = false := beq_eq_false_iff_ne.2 hin
      have HR := Lib.hid (show ∃ o2 M2, J (i + 1) o2 M2 ∧ SoleS W p b q o2 M2 w3 from ⟨_, _, HN.out.elim (fun h => absurd h.1 hin) fun h => h.2, HS3.out⟩)
      clear hin HSS HN HS3
      go_wp2_with fail
      go_roundw
      case rel => exact ⟨i + 1, by omega, by go_num, HR⟩
      case measure => simp [intOf]; omega
end
end Go.Proofs.YtmjcbjcnmgleaaaGreatDoor
