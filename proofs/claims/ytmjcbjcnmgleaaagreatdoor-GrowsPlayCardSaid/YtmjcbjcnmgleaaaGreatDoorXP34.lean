/-
  Package grows; conditions as each theorem says.
-/
import Derived.Test.YtmjcbjcnmgleaaaGreatDoorXP21
import Derived.Deep.DeepCutAuto
namespace Go.Proofs.YtmjcbjcnmgleaaaGreatDoor
open Go.RowKit Go.Maps
theorem info_ad9 : (Tryz.prog.info? 33).map (·.size) = some 3 := by kernel_rfl
theorem segWord_any (n f : Int) (w : World) : Calls Tryz.prog 46 #[.int .i64 n, .int .i64 f] w fun e w' => e = .returned (.agg #[.int .u8 6, .int .i64 n, .int .i64 f]) ∧ Below w.heap.size w w' := by
  go_enter Tryz.func46, Tryz.ntmps46
  go_wp2_with fail
  refine bodyPost_ret (results_cell_row rfl _ _ w.heap.size 33 #[.int .u8 6, .int .i64 n, .int .i64 f] (0, 0) _ rfl (heap_alloc_new w _) Tryz.underlying33 rfl info_ad9) rfl ⟨rfl, (Below.refl _ _).alloc (Nat.le_refl _) _⟩
theorem segSlot_any (n f : Int) (w : World) : Calls Tryz.prog 48 #[.int .i64 n, .int .i64 f] w fun e w' => e = .returned (.agg #[.int .u8 9, .int .i64 n, .int .i64 f]) ∧ Below w.heap.size w w' := by
  go_enter Tryz.func48, Tryz.ntmps48
  go_wp2_with fail
  refine bodyPost_ret (results_cell_row rfl _ _ w.heap.size 33 #[.int .u8 9, .int .i64 n, .int .i64 f] (0, 0) _ rfl (heap_alloc_new w _) Tryz.underlying33 rfl info_ad9) rfl ⟨rfl, (Below.refl _ _).alloc (Nat.le_refl _) _⟩
def ofS (n : Int) : Int := if 0 ≤ n ∧ n < 256 then n / 8 else -1
theorem segOf_any (n : Int) (w : World) : Calls Tryz.prog 25 #[.int .i64 n] w fun e w' => e = .returned (.int .i64 (ofS n)) ∧ Below w.heap.size w w' := by
  by_cases h0 : n < 0
  · have HP := Lib.hid (show ofS n = -1 by unfold ofS; rw [if_neg (by omega)])
    go_enter Tryz.func25, Tryz.ntmps25
    go_wp2_with fail
    go_ret
    exact ⟨by rw [HP.out]; rfl, Below.refl _ _⟩
  · by_cases h1 : n < 256
    · have HP := Lib.hid (show ofS n = n / 8 by unfold ofS; rw [if_pos (by omega)])
      have h0' : 0 ≤ n := by omega
      go_enter Tryz.func25, Tryz.ntmps25
      go_wp2_with fail
      go_ret
      exact ⟨by rw [HP.out]; rfl, Below.refl _ _⟩
    · have HP := Lib.hid (show ofS n = -1 by unfold ofS; rw [if_neg (by omega)])
      have h1' : 256 ≤ n := by omega
      go_enter Tryz.func25, Tryz.ntmps25
      go_wp2_with fail
      go_ret
      exact ⟨by rw [HP.out]; rfl, Below.refl _ _⟩
theorem segSlots_good {n : Int} (h0 : 0 ≤ n) (h1 : n < 32) (w : World) : Calls Tryz.prog 47 #[.int .i64 n] w fun e w' => e = .returned (.tuple #[.int .i64 (n * 8), .int .i64 (n * 8 + 8)]) ∧ w' = w := by
  have e1 : IntKind.i64.wrap (n * 8) = n * 8 := by rw [IntKind.wrap_i64]; omega
  have e2 : IntKind.i64.wrap (n * 8 + 8) = n * 8 + 8 := by rw [IntKind.wrap_i64]; omega
  go_enter Tryz.func47, Tryz.ntmps47
  go_wp2_with fail
  go_ret2
  exact ⟨rfl, rfl⟩
theorem segSlots_bad {n : Int} (h : n < 0 ∨ 32 ≤ n) (w : World) : Calls Tryz.prog 47 #[.int .i64 n] w fun e w' => e = .returned (.tuple #[.int .i64 0, .int .i64 0]) ∧ w' = w := by
  rcases h with h | h
  · go_enter Tryz.func47, Tryz.ntmps47
    go_wp2_with fail
    go_ret2
    exact ⟨rfl, rfl⟩
  · go_enter Tryz.func47, Tryz.ntmps47
    go_wp2_with fail
    go_ret2
    exact ⟨rfl, rfl⟩
section
variable {p b q : Nat} {E : List Nat} {T : TypeId} {nx sg sl ws en : Int} {pt : Value} {tl cs : List Value} {M : MV} {w w' X Y : World}
theorem load_G (F : VX p b M w) (hs : M.s.st < 1000000) (h : 0 ≤ sg ∧ sg < 32) : Calls Tryz.prog 60 #[.pointer (some ⟨p, 0, none⟩), .agg #[.int .u8 6, .int .i64 sg, .int .i64 0]] w fun e w' => e = .returned (.int .u64 (M.V (adG sg))) ∧ VX p b (ldM M (adG sg)) w' ∧ Only p b w w' := by
  have := F.load hs (adG sg)
  obtain ⟨e1, e2, e3⟩ := adG_at (i64w_in (x := sg) (by omega) (by omega))
  rw [e1, e2, e3] at this
  exact this
theorem load_P (F : VX p b M w) (hs : M.s.st < 1000000) (h : 0 ≤ sg ∧ sg < 32) : Calls Tryz.prog 60 #[.pointer (some ⟨p, 0, none⟩), .agg #[.int .u8 6, .int .i64 sg, .int .i64 1]] w fun e w' => e = .returned (.int .u64 (M.V (adP sg))) ∧ VX p b (ldM M (adP sg)) w' ∧ Only p b w w' := by
  have := F.load hs (adP sg)
  obtain ⟨e1, e2, e3⟩ := adP_at (i64w_in (x := sg) (by omega) (by omega))
  rw [e1, e2, e3] at this
  exact this
theorem load_H (F : VX p b M w) (hs : M.s.st < 1000000) (h : 0 ≤ sl ∧ sl < 256) : Calls Tryz.prog 60 #[.pointer (some ⟨p, 0, none⟩), .agg #[.int .u8 9, .int .i64 sl, .int .i64 0]] w fun e w' => e = .returned (.int .u64 (M.V (adH sl))) ∧ VX p b (ldM M (adH sl)) w' ∧ Only p b w w' := by
  have := F.load hs (adH sl)
  obtain ⟨e1, e2, e3⟩ := adH_at (slot_i64 h)
  rw [e1, e2, e3] at this
  exact this
theorem cas_G (F : VX p b M w) (hs : M.s.st < 1000000) (h : 0 ≤ sg ∧ sg < 32) (u v : Int) (hv : U64 v) : Calls Tryz.prog 108 #[.pointer (some ⟨p, 0, none⟩), .agg #[.int .u8 6, .int .i64 sg, .int .i64 0], .int .u64 u, .int .u64 v] w fun e w' => e = .returned (.bool (casV M.V (adG sg) u)) ∧ VX p b (csM M (adG sg) u v) w' ∧ Only p b w w' := by
  have := F.cas hs (adG sg) u v hv
  obtain ⟨e1, e2, e3⟩ := adG_at (i64w_in (x := sg) (by omega) (by omega))
  rw [e1, e2, e3] at this
  exact this
theorem cas_P (F : VX p b M w) (hs : M.s.st < 1000000) (h : 0 ≤ sg ∧ sg < 32) (u v : Int) (hv : U64 v) : Calls Tryz.prog 108 #[.pointer (some ⟨p, 0, none⟩), .agg #[.int .u8 6, .int .i64 sg, .int .i64 1], .int .u64 u, .int .u64 v] w fun e w' => e = .returned (.bool (casV M.V (adP sg) u)) ∧ VX p b (csM M (adP sg) u v) w' ∧ Only p b w w' := by
  have := F.cas hs (adP sg) u v hv
  obtain ⟨e1, e2, e3⟩ := adP_at (i64w_in (x := sg) (by omega) (by omega))
  rw [e1, e2, e3] at this
  exact this
theorem cas_H (F : VX p b M w) (hs : M.s.st < 1000000) (h : 0 ≤ sl ∧ sl < 256) (u v : Int) (hv : U64 v) : Calls Tryz.prog 108 #[.pointer (some ⟨p, 0, none⟩), .agg #[.int .u8 9, .int .i64 sl, .int .i64 0], .int .u64 u, .int .u64 v] w fun e w' => e = .returned (.bool (casV M.V (adH sl) u)) ∧ VX p b (csM M (adH sl) u v) w' ∧ Only p b w w' := by
  have := F.cas hs (adH sl) u v hv
  obtain ⟨e1, e2, e3⟩ := adH_at (slot_i64 h)
  rw [e1, e2, e3] at this
  exact this
def TC (nx : Int) (pt : Value) (sg sl ws en : Int) (tl : List Value) : List Value := .int .i64 nx :: pt :: .int .i64 sg :: .int .i64 sl :: .int .u64 ws :: .int .i64 en :: tl
theorem Bq.tc (k : Bq q T (TC nx pt sg sl ws en tl) w) : w.cell? ⟨q, 0, none⟩ = some (.int .i64 nx) ∧ w.cell? ⟨q, 1, none⟩ = some pt ∧ w.cell? ⟨q, 2, none⟩ = some (.int .i64 sg) ∧ w.cell? ⟨q, 3, none⟩ = some (.int .i64 sl) ∧ w.cell? ⟨q, 4, none⟩ = some (.int .u64 ws) ∧ w.cell? ⟨q, 5, none⟩ = some (.int .i64 en) ∧ ∀ i, w.frozen? ⟨q, i, none⟩ = false :=
  ⟨k.cell 0, k.cell 1, k.cell 2, k.cell 3, k.cell 4, k.cell 5, k.free⟩
variable (k : Bq q T (TC nx pt sg sl ws en tl) w)
include k
theorem tOver : Calls Tryz.prog 78 #[.pointer (some ⟨q, 0, none⟩)] w fun e w' => e = .returned (.bool (nx == 0)) ∧ w' = w := by
  obtain ⟨c0, c1, c2, c3, c4, c5, z⟩ := k.tc
  clear k
  go_enter Tryz.func78, Tryz.ntmps78
  go_wp2_with fail
  go_ret
  exact ⟨rfl, rfl⟩
theorem tGot : Calls Tryz.prog 79 #[.pointer (some ⟨q, 0, none⟩)] w fun e w' => e = .returned (.int .i64 (if nx = 0 then en else 0)) ∧ w' = w := by
  obtain ⟨c0, c1, c2, c3, c4, c5, z⟩ := k.tc
  have hk := k
  clear k
  by_cases h : nx = 0
  · rw [if_pos h]
    subst h
    go_enter Tryz.func79, Tryz.ntmps79
    go_wp2_with fail
    ((with_reducible refine (tOver hk).mono ?_); rintro e w1 ⟨rfl, rfl⟩)
    go_wp2_with fail
    go_ret
    exact ⟨rfl, rfl⟩
  · rw [if_neg h]
    have hb : (nx == 0) = false := beq_eq_false_iff_ne.2 h
    go_enter Tryz.func79, Tryz.ntmps79
    go_wp2_with fail
    ((with_reducible refine (tOver hk).mono ?_); rintro e w1 ⟨rfl, rfl⟩)
    go_wp2_with fail
    go_ret
    exact ⟨rfl, rfl⟩
theorem tEnd (x : Int) : Calls Tryz.prog 107 #[.pointer (some ⟨q, 0, none⟩), .int .i64 x] w fun e w' => e = .returned (.int .i64 0) ∧ Bq q T (TC nx pt sg sl ws x tl) w' ∧ Only q q w w' := by
  obtain ⟨c0, c1, c2, c3, c4, c5, z⟩ := k.tc
  have z5 := z 5
  have HK := Lib.hid (k.set 5 (.int .i64 x) (cs' := TC nx pt sg sl ws x tl) rfl)
  clear k z
  go_enter Tryz.func107, Tryz.ntmps107
  go_wp2_with fail
  go_ret
  exact ⟨rfl, HK.out, Only.setCell q q w 5 _⟩
end
end Go.Proofs.YtmjcbjcnmgleaaaGreatDoor
namespace Go.Proofs.YtmjcbjcnmgleaaaGreatDoor
open Go.RowKit Go.Maps
section
variable {p b q : Nat} {E : List Nat} {T : TypeId} {nx sg sl ws en : Int} {pt : Value} {tl cs : List Value} {M : MV} {w w' X Y : World}
structure Ln (p b q : Nat) (T : TypeId) (cs : List Value) (M : MV) (w w' : World) : Prop where
  k : Bq q T cs w'
  f : VX p b M w'
  o : Onl p b [q] w w'
theorem Ln.load (k : Bq q T cs w) (F : VX p b M X) (hne : q ≠ p ∧ q ≠ b) (h : Only p b w X) : Ln p b q T cs M w X := ⟨k.same (h.block q k.lt hne.1 hne.2), F, .of_only h⟩
theorem Ln.stay (h : Ln p b q T cs M w X) (hT : T ≠ 121) (hq : 1 < q) {ds : List Value} (k : Bq q T ds Y) (ho : Only q q X Y) : Ln p b q T ds M w Y :=
  ⟨k, h.f.onlyq ho (h.f.ne hT h.k).1 (h.f.ne hT h.k).2 hq, h.o.trans (ho.onl (by simp))⟩
theorem Ln.below (h : Ln p b q T cs M w X) (hb : Below X.heap.size X Y) : Ln p b q T cs M w Y := ⟨h.k.below hb, h.f.below hb, h.o.trans (.of_below hb)⟩
theorem Ln.set (h : Ln p b q T cs M w X) (hT : T ≠ 121) (hq : 1 < q) (i : Nat) (v : Value) {cs' : List Value} (e : cs' = cs.set i v) : Ln p b q T cs' M w (X.setCell ⟨q, i, none⟩ v) := h.stay hT hq (h.k.set i v e) (Only.setCell q q X i v)
theorem tAsk_from (_hq : 1 < q) (hT : T ≠ 121) (k : Bq q T (TC nx pt sg sl ws en tl) w) (F : VX p b M w) (hs : M.s.st < 1000000) (h : 0 ≤ sg ∧ sg < 32) {fr too al : Int} (hc : M.V (adG sg) = fr) :
    Calls Tryz.prog 73 #[.pointer (some ⟨q, 0, none⟩), .pointer (some ⟨p, 0, none⟩), .int .u64 fr, .int .u64 too, .int .i64 al] w fun e w' => e = .returned (.int .i64 2) ∧ Ln p b q T (TC nx pt sg sl ws en tl) (ldM M (adG sg)) w w' := by
  obtain ⟨c0, c1, c2, c3, c4, c5, z⟩ := k.tc
  have HK := Lib.hid k
  have HF := Lib.hid F
  have hne := F.ne hT k
  subst hc
  clear k F z
  go_enter Tryz.func73, Tryz.ntmps73
  go_wp2_with fail
  ((with_reducible refine (segWord_any sg 0 _).mono ?_); rintro ee w1 ⟨rfl, hb1⟩)
  have HK1 := Lib.hid (HK.out.below hb1)
  have HF1 := Lib.hid (HF.out.below hb1)
  have HO1 := Lib.hid (Onl.of_below (p := p) (b := b) (E := [q]) hb1)
  go_wp2_with fail
  ((with_reducible refine (load_G HF1.out hs h).mono ?_); rintro ee w2 ⟨rfl, F2, h2⟩)
  have HL := Lib.hid (Ln.load HK1.out F2 hne h2)
  go_wp2_with fail
  go_ret
  exact ⟨rfl, HL.out.k, HL.out.f, HO1.out.trans HL.out.o⟩
theorem tAsk_to (hq : 1 < q) (hT : T ≠ 121) (k : Bq q T (TC nx pt sg sl ws en tl) w) (F : VX p b M w) (hs : M.s.st < 1000000) (h : 0 ≤ sg ∧ sg < 32) {fr too al : Int} (hn : M.V (adG sg) ≠ fr) (hc : M.V (adG sg) = too) :
    Calls Tryz.prog 73 #[.pointer (some ⟨q, 0, none⟩), .pointer (some ⟨p, 0, none⟩), .int .u64 fr, .int .u64 too, .int .i64 al] w fun e w' => e = .returned (.int .i64 0) ∧ Ln p b q T (TC nx pt sg sl ws al tl) (ldM M (adG sg)) w w' := by
  obtain ⟨c0, c1, c2, c3, c4, c5, z⟩ := k.tc
  have HK := Lib.hid k
  have HF := Lib.hid F
  have hne := F.ne hT k
  subst hc
  have b0 : (M.V (adG sg) == fr) = false := beq_eq_false_iff_ne.2 hn
  clear k F z
  go_enter Tryz.func73, Tryz.ntmps73
  go_wp2_with fail
  ((with_reducible refine (segWord_any sg 0 _).mono ?_); rintro ee w1 ⟨rfl, hb1⟩)
  have HK1 := Lib.hid (HK.out.below hb1)
  have HF1 := Lib.hid (HF.out.below hb1)
  have HO1 := Lib.hid (Onl.of_below (p := p) (b := b) (E := [q]) hb1)
  go_wp2_with fail
  ((with_reducible refine (load_G HF1.out hs h).mono ?_); rintro ee w2 ⟨rfl, F2, h2⟩)
  have HL := Lib.hid (Ln.load HK1.out F2 hne h2)
  go_wp2_with fail
  ((with_reducible refine (tEnd HL.out.k al).mono ?_); rintro ee w3 ⟨rfl, k3, h3⟩)
  have HM := Lib.hid (HL.out.stay hT hq k3 h3)
  go_wp2_with fail
  go_ret
  exact ⟨rfl, HM.out.k, HM.out.f, HO1.out.trans HM.out.o⟩
theorem tAsk_no (hq : 1 < q) (hT : T ≠ 121) (k : Bq q T (TC nx pt sg sl ws en tl) w) (F : VX p b M w) (hs : M.s.st < 1000000) (h : 0 ≤ sg ∧ sg < 32) {fr too al : Int} (hn : M.V (adG sg) ≠ fr) (hc : M.V (adG sg) ≠ too) :
    Calls Tryz.prog 73 #[.pointer (some ⟨q, 0, none⟩), .pointer (some ⟨p, 0, none⟩), .int .u64 fr, .int .u64 too, .int .i64 al] w fun e w' => e = .returned (.int .i64 0) ∧ Ln p b q T (TC nx pt sg sl ws 7 tl) (ldM M (adG sg)) w w' := by
  obtain ⟨c0, c1, c2, c3, c4, c5, z⟩ := k.tc
  have HK := Lib.hid k
  have HF := Lib.hid F
  have hne := F.ne hT k
  have b0 : (M.V (adG sg) == fr) = false := beq_eq_false_iff_ne.2 hn
  have b1 : (M.V (adG sg) == too) = false := beq_eq_false_iff_ne.2 hc
  clear k F z
  go_enter Tryz.func73, Tryz.ntmps73
  go_wp2_with fail
  ((with_reducible refine (segWord_any sg 0 _).mono ?_); rintro ee w1 ⟨rfl, hb1⟩)
  have HK1 := Lib.hid (HK.out.below hb1)
  have HF1 := Lib.hid (HF.out.below hb1)
  have HO1 := Lib.hid (Onl.of_below (p := p) (b := b) (E := [q]) hb1)
  go_wp2_with fail
  ((with_reducible refine (load_G HF1.out hs h).mono ?_); rintro ee w2 ⟨rfl, F2, h2⟩)
  have HL := Lib.hid (Ln.load HK1.out F2 hne h2)
  go_wp2_with fail
  ((with_reducible refine (tEnd HL.out.k 7).mono ?_); rintro ee w3 ⟨rfl, k3, h3⟩)
  have HM := Lib.hid (HL.out.stay hT hq k3 h3)
  go_wp2_with fail
  go_ret
  exact ⟨rfl, HM.out.k, HM.out.f, HO1.out.trans HM.out.o⟩
theorem tChange_yes (_hq : 1 < q) (hT : T ≠ 121) (k : Bq q T (TC nx pt sg sl ws en tl) w) (F : VX p b M w) (hs : M.s.st < 1000000) (h : 0 ≤ sg ∧ sg < 32) {fr too th : Int} (ht : U64 too) (hc : casV M.V (adG sg) fr = true) :
    Calls Tryz.prog 74 #[.pointer (some ⟨q, 0, none⟩), .pointer (some ⟨p, 0, none⟩), .int .u64 fr, .int .u64 too, .int .i64 th] w fun e w' => e = .returned (.int .i64 th) ∧ Ln p b q T (TC nx pt sg sl ws en tl) (csM M (adG sg) fr too) w w' := by
  obtain ⟨c0, c1, c2, c3, c4, c5, z⟩ := k.tc
  have HK := Lib.hid k
  have HF := Lib.hid F
  have hne := F.ne hT k
  have hcc := Lib.hid hc
  clear k F z hc
  go_enter Tryz.func74, Tryz.ntmps74
  go_wp2_with fail
  ((with_reducible refine (segWord_any sg 0 _).mono ?_); rintro ee w1 ⟨rfl, hb1⟩)
  have HK1 := Lib.hid (HK.out.below hb1)
  have HF1 := Lib.hid (HF.out.below hb1)
  have HO1 := Lib.hid (Onl.of_below (p := p) (b := b) (E := [q]) hb1)
  go_wp2_with fail
  ((with_reducible refine (cas_G HF1.out hs h fr too ht).mono ?_); rintro ee w2 ⟨rfl, F2, h2⟩)
  have HL := Lib.hid (Ln.load HK1.out F2 hne h2)
  rw [hcc.out]
  go_wp2_with fail
  go_ret
  exact ⟨rfl, HL.out.k, HL.out.f, HO1.out.trans HL.out.o⟩
theorem tChange_no (hq : 1 < q) (hT : T ≠ 121) (k : Bq q T (TC nx pt sg sl ws en tl) w) (F : VX p b M w) (hs : M.s.st < 1000000) (h : 0 ≤ sg ∧ sg < 32) {fr too th : Int} (ht : U64 too) (hc : casV M.V (adG sg) fr = false) :
    Calls Tryz.prog 74 #[.pointer (some ⟨q, 0, none⟩), .pointer (some ⟨p, 0, none⟩), .int .u64 fr, .int .u64 too, .int .i64 th] w fun e w' => e = .returned (.int .i64 0) ∧ Ln p b q T (TC nx pt sg sl ws 7 tl) (csM M (adG sg) fr too) w w' := by
  obtain ⟨c0, c1, c2, c3, c4, c5, z⟩ := k.tc
  have HK := Lib.hid k
  have HF := Lib.hid F
  have hne := F.ne hT k
  have hcc := Lib.hid hc
  clear k F z hc
  go_enter Tryz.func74, Tryz.ntmps74
  go_wp2_with fail
  ((with_reducible refine (segWord_any sg 0 _).mono ?_); rintro ee w1 ⟨rfl, hb1⟩)
  have HK1 := Lib.hid (HK.out.below hb1)
  have HF1 := Lib.hid (HF.out.below hb1)
  have HO1 := Lib.hid (Onl.of_below (p := p) (b := b) (E := [q]) hb1)
  go_wp2_with fail
  ((with_reducible refine (cas_G HF1.out hs h fr too ht).mono ?_); rintro ee w2 ⟨rfl, F2, h2⟩)
  have HL := Lib.hid (Ln.load HK1.out F2 hne h2)
  rw [hcc.out]
  go_wp2_with fail
  ((with_reducible refine (tEnd HL.out.k 7).mono ?_); rintro ee w3 ⟨rfl, k3, h3⟩)
  have HM := Lib.hid (HL.out.stay hT hq k3 h3)
  go_wp2_with fail
  go_ret
  exact ⟨rfl, HM.out.k, HM.out.f, HO1.out.trans HM.out.o⟩
theorem Bq.tc23 (k : Bq q T (TC nx pt sg sl ws en tl) w) : w.cell? ⟨q, 2, none⟩ = some (.int .i64 sg) ∧ w.cell? ⟨q, 3, none⟩ = some (.int .i64 sl) := ⟨k.cell 2, k.cell 3⟩
theorem segOf_eq {n g : Int} (h : ofS n = g) (w : World) : Calls Tryz.prog 25 #[.int .i64 n] w fun e w' => e = .returned (.int .i64 g) ∧ Below w.heap.size w w' := by
  subst h
  exact segOf_any n w
theorem tForth_on (k : Bq q T (TC nx pt sg sl ws en tl) w) (h : 0 ≤ sg ∧ sg < 32) (h1 : 8 * sg ≤ sl) (h2 : sl + 1 < 8 * sg + 8) :
    Calls Tryz.prog 113 #[.pointer (some ⟨q, 0, none⟩)] w fun e w' => e = .returned (.int .i64 7) ∧ Bq q T (TC nx pt sg (sl + 1) ws en tl) w' ∧ Only q q w w' := by
  obtain ⟨c0, c1, c2, c3, c4, c5, z⟩ := k.tc
  have z3 := z 3
  have e1 : IntKind.i64.wrap (sl + 1) = sl + 1 := by rw [IntKind.wrap_i64]; omega
  have eo : ofS (sl + 1) = sg := by unfold ofS; rw [if_pos (by omega)]; omega
  have HK := Lib.hid (k.set 3 (.int .i64 (sl + 1)) (cs' := TC nx pt sg (sl + 1) ws en tl) rfl)
  have HO := Lib.hid (Only.setCell q q w 3 (.int .i64 (sl + 1)))
  clear k z h h2
  go_enter Tryz.func113, Tryz.ntmps113
  go_wp2_with fail
  clear c0 c1 c2 c3 c4 c5 z3
  revert HK HO
  generalize w.setCell ⟨q, 3, none⟩ (.int .i64 (sl + 1)) = y1
  intro HK HO
  have HKd := Lib.hid (HK.out.below (Below.refl _ y1).drew)
  have HOd := Lib.hid (HO.out.trans (Only.of_below (Below.refl _ y1).drew))
  have hs0 := Lib.hid HKd.out.tc23
  clear HK HO
  go_region_held3 (fun w9 => w9.cell? ⟨q, 2, none⟩ = some (.int .i64 sg) ∧ w9.cell? ⟨q, 3, none⟩ = some (.int .i64 (sl + 1)))
    (first | exact hs0.out | exact hs8.out | fail)
    (first
      | (go_at_call 25; with_reducible refine (segOf_eq eo _).mono ?_; rintro ee x8 ⟨rfl, hb8⟩; have HK8 := Lib.hid (HKd.out.below hb8); have hs8 := Lib.hid HK8.out.tc23; have HO8 := Lib.hid (HOd.out.trans (Only.of_below hb8)); clear hb8)
      | fail)
  go_wp2_with fail
  go_ret
  exact ⟨rfl, HK8.out, HO8.out⟩
theorem tForth_last (k : Bq q T (TC nx pt sg sl ws en tl) w) (h : 0 ≤ sg ∧ sg < 32) (h2 : sl + 1 = 8 * sg + 8) :
    Calls Tryz.prog 113 #[.pointer (some ⟨q, 0, none⟩)] w fun e w' => e = .returned (.int .i64 0) ∧ Bq q T (TC nx pt sg (sl + 1) ws en tl) w' ∧ Only q q w w' := by
  obtain ⟨c0, c1, c2, c3, c4, c5, z⟩ := k.tc
  have z3 := z 3
  have e1 : IntKind.i64.wrap (sl + 1) = sl + 1 := by rw [IntKind.wrap_i64]; omega
  obtain ⟨g, eo, hb⟩ : ∃ g, ofS (sl + 1) = g ∧ (g == sg) = false := ⟨_, rfl, beq_eq_false_iff_ne.2 (by unfold ofS; split <;> omega)⟩
  have HK := Lib.hid (k.set 3 (.int .i64 (sl + 1)) (cs' := TC nx pt sg (sl + 1) ws en tl) rfl)
  have HO := Lib.hid (Only.setCell q q w 3 (.int .i64 (sl + 1)))
  clear k z h h2
  go_enter Tryz.func113, Tryz.ntmps113
  go_wp2_with fail
  clear c0 c1 c2 c3 c4 c5 z3
  revert HK HO
  generalize w.setCell ⟨q, 3, none⟩ (.int .i64 (sl + 1)) = y1
  intro HK HO
  have HKd := Lib.hid (HK.out.below (Below.refl _ y1).drew)
  have HOd := Lib.hid (HO.out.trans (Only.of_below (Below.refl _ y1).drew))
  have hs0 := Lib.hid HKd.out.tc23
  clear HK HO
  go_region_held3 (fun w9 => w9.cell? ⟨q, 2, none⟩ = some (.int .i64 sg) ∧ w9.cell? ⟨q, 3, none⟩ = some (.int .i64 (sl + 1)))
    (first | exact hs0.out | exact hs8.out | fail)
    (first
      | (go_at_call 25; with_reducible refine (segOf_eq eo _).mono ?_; rintro ee x8 ⟨rfl, hb8⟩; have HK8 := Lib.hid (HKd.out.below hb8); have hs8 := Lib.hid HK8.out.tc23; have HO8 := Lib.hid (HOd.out.trans (Only.of_below hb8)); clear hb8)
      | fail)
  go_wp2_with fail
  go_ret
  exact ⟨rfl, HK8.out, HO8.out⟩
end
end Go.Proofs.YtmjcbjcnmgleaaaGreatDoor
namespace Go.Proofs.YtmjcbjcnmgleaaaGreatDoor
open Go.RowKit Go.Maps
section
variable {p b q e e1 e2 B : Nat} {T t : TypeId} {nx sg sl ws en : Int} {pt : Value} {tl cs : List Value} {w X Y W : World} {a0 a1 a2 c0 c1 c2 : Value}
theorem Bq.al (k : Bq q T cs w) (o : Obj) : Bq q T cs (w.alloc o) := k.below ((Below.refl _ _).alloc (Nat.le_refl _) o)
def zA : List Value := [.int .u8 0, .int .i64 0, .int .i64 0]
def rA (k : Int) (a f : Int) : List Value := [.int .u8 k, .int .i64 a, .int .i64 f]
def f3 (e : Nat) (a b c : Value) (X : World) : World := ((X.setCell ⟨e, 0, none⟩ a).setCell ⟨e, 1, none⟩ b).setCell ⟨e, 2, none⟩ c
theorem Bq.f3 (k : Bq e t [c0, c1, c2] X) : Bq e t [a0, a1, a2] (f3 e a0 a1 a2 X) :=
  ((k.set 0 a0 (cs' := [a0, c1, c2]) rfl).set 1 a1 (cs' := [a0, a1, c2]) rfl).set 2 a2 rfl
theorem Bq.f3o (k : Bq q T cs X) (h : q ≠ e) : Bq q T cs (Go.Proofs.YtmjcbjcnmgleaaaGreatDoor.f3 e a0 a1 a2 X) := ((k.setO h 0 a0).setO h 1 a1).setO h 2 a2
theorem below_f3 (h : Below B X Y) (he : B ≤ e) : Below B X (f3 e a0 a1 a2 Y) :=
  ((h.setCell (p := ⟨e, 0, none⟩) he a0).setCell (p := ⟨e, 1, none⟩) he a1).setCell (p := ⟨e, 2, none⟩) he a2
theorem zNew (X : World) : Bq X.heap.size 33 zA (X.alloc (.cells #[.int .u8 0, .int .i64 0, .int .i64 0] 33)) := Bq.new X zA 33
theorem zNew1 (X : World) (o : Obj) : Bq (X.heap.size + 1) 33 zA ((X.alloc o).alloc (.cells #[.int .u8 0, .int .i64 0, .int .i64 0] 33)) := by
  have := zNew (X.alloc o)
  rw [World.size_alloc] at this
  exact this
theorem bl_step (h : Below w.heap.size w X) (g : Below X.heap.size X Y) : Below w.heap.size w Y := h.trans (g.mono h.size)
theorem bl_al (h : Below w.heap.size w X) (o : Obj) : Below w.heap.size w (X.alloc o) := h.alloc h.size o
structure Hd (w : World) (H A : Nat) (sl sg : Int) (X : World) : Prop where
  low : Below w.heap.size w X
  h : Bq H 33 (rA 9 sl 0) X
  a : Bq A 33 (rA 6 sg 1) X
def Zf (e : Nat) (X : World) : Prop := X.cell? ⟨e, 0, none⟩ = some (.int .u8 0) ∧ X.cell? ⟨e, 1, none⟩ = some (.int .i64 0) ∧ X.cell? ⟨e, 2, none⟩ = some (.int .i64 0) ∧ X.frozen? ⟨e, 0, none⟩ = false ∧ X.frozen? ⟨e, 1, none⟩ = false ∧ X.frozen? ⟨e, 2, none⟩ = false
theorem Bq.zf (k : Bq e 33 zA X) : Zf e X := ⟨k.cell 0, k.cell 1, k.cell 2, k.free 0, k.free 1, k.free 2⟩
theorem two_pack (HB : Below w.heap.size w W) (k1 : Bq e1 33 zA W) (k2 : Bq e2 33 zA W) (hne : e1 ≠ e2) (g1 : w.heap.size ≤ e1) (g2 : w.heap.size ≤ e2) (sl sg : Int) (kq : Bq q T (TC nx pt sg sl ws en tl) W) (hqw : q < w.heap.size) :
    (W.cell? ⟨e1, 0, none⟩ = some (.int .u8 0) ∧ W.cell? ⟨e1, 1, none⟩ = some (.int .i64 0) ∧ W.cell? ⟨e1, 2, none⟩ = some (.int .i64 0) ∧ W.frozen? ⟨e1, 0, none⟩ = false ∧ W.frozen? ⟨e1, 1, none⟩ = false ∧ W.frozen? ⟨e1, 2, none⟩ = false) ∧
    (W.cell? ⟨e2, 0, none⟩ = some (.int .u8 0) ∧ W.cell? ⟨e2, 1, none⟩ = some (.int .i64 0) ∧ W.cell? ⟨e2, 2, none⟩ = some (.int .i64 0) ∧ W.frozen? ⟨e2, 0, none⟩ = false ∧ W.frozen? ⟨e2, 1, none⟩ = false ∧ W.frozen? ⟨e2, 2, none⟩ = false) ∧
    ((((W.setCell ⟨e1, 0, none⟩ (.int .u8 9)).setCell ⟨e1, 1, none⟩ (.int .i64 sl)).setCell ⟨e1, 2, none⟩ (.int .i64 0)).cell? ⟨e2, 0, none⟩ = some (.int .u8 0) ∧ (((W.setCell ⟨e1, 0, none⟩ (.int .u8 9)).setCell ⟨e1, 1, none⟩ (.int .i64 sl)).setCell ⟨e1, 2, none⟩ (.int .i64 0)).cell? ⟨e2, 1, none⟩ = some (.int .i64 0) ∧ (((W.setCell ⟨e1, 0, none⟩ (.int .u8 9)).setCell ⟨e1, 1, none⟩ (.int .i64 sl)).setCell ⟨e1, 2, none⟩ (.int .i64 0)).cell? ⟨e2, 2, none⟩ = some (.int .i64 0) ∧ (((W.setCell ⟨e1, 0, none⟩ (.int .u8 9)).setCell ⟨e1, 1, none⟩ (.int .i64 sl)).setCell ⟨e1, 2, none⟩ (.int .i64 0)).frozen? ⟨e2, 0, none⟩ = false ∧ (((W.setCell ⟨e1, 0, none⟩ (.int .u8 9)).setCell ⟨e1, 1, none⟩ (.int .i64 sl)).setCell ⟨e1, 2, none⟩ (.int .i64 0)).frozen? ⟨e2, 1, none⟩ = false ∧ (((W.setCell ⟨e1, 0, none⟩ (.int .u8 9)).setCell ⟨e1, 1, none⟩ (.int .i64 sl)).setCell ⟨e1, 2, none⟩ (.int .i64 0)).frozen? ⟨e2, 2, none⟩ = false) ∧
    ((((W.setCell ⟨e2, 0, none⟩ (.int .u8 9)).setCell ⟨e2, 1, none⟩ (.int .i64 sl)).setCell ⟨e2, 2, none⟩ (.int .i64 0)).cell? ⟨e1, 0, none⟩ = some (.int .u8 0) ∧ (((W.setCell ⟨e2, 0, none⟩ (.int .u8 9)).setCell ⟨e2, 1, none⟩ (.int .i64 sl)).setCell ⟨e2, 2, none⟩ (.int .i64 0)).cell? ⟨e1, 1, none⟩ = some (.int .i64 0) ∧ (((W.setCell ⟨e2, 0, none⟩ (.int .u8 9)).setCell ⟨e2, 1, none⟩ (.int .i64 sl)).setCell ⟨e2, 2, none⟩ (.int .i64 0)).cell? ⟨e1, 2, none⟩ = some (.int .i64 0) ∧ (((W.setCell ⟨e2, 0, none⟩ (.int .u8 9)).setCell ⟨e2, 1, none⟩ (.int .i64 sl)).setCell ⟨e2, 2, none⟩ (.int .i64 0)).frozen? ⟨e1, 0, none⟩ = false ∧ (((W.setCell ⟨e2, 0, none⟩ (.int .u8 9)).setCell ⟨e2, 1, none⟩ (.int .i64 sl)).setCell ⟨e2, 2, none⟩ (.int .i64 0)).frozen? ⟨e1, 1, none⟩ = false ∧ (((W.setCell ⟨e2, 0, none⟩ (.int .u8 9)).setCell ⟨e2, 1, none⟩ (.int .i64 sl)).setCell ⟨e2, 2, none⟩ (.int .i64 0)).frozen? ⟨e1, 2, none⟩ = false) ∧
    Hid ((((W.setCell ⟨e1, 0, none⟩ (.int .u8 9)).setCell ⟨e1, 1, none⟩ (.int .i64 sl)).setCell ⟨e1, 2, none⟩ (.int .i64 0)).cell? ⟨q, 2, none⟩ = some (.int .i64 sg) ∧ (((W.setCell ⟨e1, 0, none⟩ (.int .u8 9)).setCell ⟨e1, 1, none⟩ (.int .i64 sl)).setCell ⟨e1, 2, none⟩ (.int .i64 0)).cell? ⟨q, 3, none⟩ = some (.int .i64 sl)) ∧ Hid ((((W.setCell ⟨e2, 0, none⟩ (.int .u8 9)).setCell ⟨e2, 1, none⟩ (.int .i64 sl)).setCell ⟨e2, 2, none⟩ (.int .i64 0)).cell? ⟨q, 2, none⟩ = some (.int .i64 sg) ∧ (((W.setCell ⟨e2, 0, none⟩ (.int .u8 9)).setCell ⟨e2, 1, none⟩ (.int .i64 sl)).setCell ⟨e2, 2, none⟩ (.int .i64 0)).cell? ⟨q, 3, none⟩ = some (.int .i64 sl)) ∧ Hid (((((((W.setCell ⟨e1, 0, none⟩ (.int .u8 9)).setCell ⟨e1, 1, none⟩ (.int .i64 sl)).setCell ⟨e1, 2, none⟩ (.int .i64 0)).setCell ⟨e2, 0, none⟩ (.int .u8 6)).setCell ⟨e2, 1, none⟩ (.int .i64 sg)).setCell ⟨e2, 2, none⟩ (.int .i64 1)).cell? ⟨q, 2, none⟩ = some (.int .i64 sg) ∧ ((((((W.setCell ⟨e1, 0, none⟩ (.int .u8 9)).setCell ⟨e1, 1, none⟩ (.int .i64 sl)).setCell ⟨e1, 2, none⟩ (.int .i64 0)).setCell ⟨e2, 0, none⟩ (.int .u8 6)).setCell ⟨e2, 1, none⟩ (.int .i64 sg)).setCell ⟨e2, 2, none⟩ (.int .i64 1)).cell? ⟨q, 3, none⟩ = some (.int .i64 sl)) ∧ Hid (((((((W.setCell ⟨e2, 0, none⟩ (.int .u8 9)).setCell ⟨e2, 1, none⟩ (.int .i64 sl)).setCell ⟨e2, 2, none⟩ (.int .i64 0)).setCell ⟨e1, 0, none⟩ (.int .u8 6)).setCell ⟨e1, 1, none⟩ (.int .i64 sg)).setCell ⟨e1, 2, none⟩ (.int .i64 1)).cell? ⟨q, 2, none⟩ = some (.int .i64 sg) ∧ ((((((W.setCell ⟨e2, 0, none⟩ (.int .u8 9)).setCell ⟨e2, 1, none⟩ (.int .i64 sl)).setCell ⟨e2, 2, none⟩ (.int .i64 0)).setCell ⟨e1, 0, none⟩ (.int .u8 6)).setCell ⟨e1, 1, none⟩ (.int .i64 sg)).setCell ⟨e1, 2, none⟩ (.int .i64 1)).cell? ⟨q, 3, none⟩ = some (.int .i64 sl)) ∧
    Hid (Hd w e1 e2 sl sg ((((((W.setCell ⟨e1, 0, none⟩ (.int .u8 9)).setCell ⟨e1, 1, none⟩ (.int .i64 sl)).setCell ⟨e1, 2, none⟩ (.int .i64 0)).setCell ⟨e2, 0, none⟩ (.int .u8 6)).setCell ⟨e2, 1, none⟩ (.int .i64 sg)).setCell ⟨e2, 2, none⟩ (.int .i64 1))) ∧
    Hid (Hd w e2 e1 sl sg ((((((W.setCell ⟨e2, 0, none⟩ (.int .u8 9)).setCell ⟨e2, 1, none⟩ (.int .i64 sl)).setCell ⟨e2, 2, none⟩ (.int .i64 0)).setCell ⟨e1, 0, none⟩ (.int .u8 6)).setCell ⟨e1, 1, none⟩ (.int .i64 sg)).setCell ⟨e1, 2, none⟩ (.int .i64 1))) := by
  have kA : Bq e2 33 zA (f3 e1 (.int .u8 9) (.int .i64 sl) (.int .i64 0) W) := k2.f3o (Ne.symm hne)
  have kB : Bq e1 33 zA (f3 e2 (.int .u8 9) (.int .i64 sl) (.int .i64 0) W) := k1.f3o hne
  have q1 : q ≠ e1 := by omega
  have q2 : q ≠ e2 := by omega
  have y1 : Bq q T (TC nx pt sg sl ws en tl) (f3 e1 (.int .u8 9) (.int .i64 sl) (.int .i64 0) W) := kq.f3o q1
  have y2 : Bq q T (TC nx pt sg sl ws en tl) (f3 e2 (.int .u8 9) (.int .i64 sl) (.int .i64 0) W) := kq.f3o q2
  have y3 : Bq q T (TC nx pt sg sl ws en tl) (f3 e2 (.int .u8 6) (.int .i64 sg) (.int .i64 1) (f3 e1 (.int .u8 9) (.int .i64 sl) (.int .i64 0) W)) := y1.f3o q2
  have y4 : Bq q T (TC nx pt sg sl ws en tl) (f3 e1 (.int .u8 6) (.int .i64 sg) (.int .i64 1) (f3 e2 (.int .u8 9) (.int .i64 sl) (.int .i64 0) W)) := y2.f3o q1
  refine ⟨k1.zf, k2.zf, kA.zf, kB.zf, Lib.hid ⟨y1.cell 2, y1.cell 3⟩, Lib.hid ⟨y2.cell 2, y2.cell 3⟩, Lib.hid ⟨y3.cell 2, y3.cell 3⟩, Lib.hid ⟨y4.cell 2, y4.cell 3⟩, Lib.hid (show Hd w e1 e2 sl sg (f3 e2 _ _ _ (f3 e1 _ _ _ W)) from ⟨below_f3 (below_f3 HB g1) g2, ?_, ?_⟩), Lib.hid (show Hd w e2 e1 sl sg (f3 e1 _ _ _ (f3 e2 _ _ _ W)) from ⟨below_f3 (below_f3 HB g2) g1, ?_, ?_⟩)⟩
  · exact Bq.f3o (Bq.f3 (c0 := .int .u8 0) (c1 := .int .i64 0) (c2 := .int .i64 0) k1) hne
  · exact Bq.f3 (c0 := .int .u8 0) (c1 := .int .i64 0) (c2 := .int .i64 0) kA
  · exact Bq.f3o (Bq.f3 (c0 := .int .u8 0) (c1 := .int .i64 0) (c2 := .int .i64 0) k2) (Ne.symm hne)
  · exact Bq.f3 (c0 := .int .u8 0) (c1 := .int .i64 0) (c2 := .int .i64 0) kB
theorem fold_pack (HB : Below w.heap.size w W) (k1 : Bq e1 33 zA W) (g1 : w.heap.size ≤ e1) (he : e2 = W.heap.size) (sl sg : Int) (kq : Bq q T (TC nx pt sg sl ws en tl) W) (hqw : q < w.heap.size) :
    ((W.alloc (.cells #[.int .u8 9, .int .i64 sl, .int .i64 0] 33)).cell? ⟨e1, 0, none⟩ = some (.int .u8 0) ∧ (W.alloc (.cells #[.int .u8 9, .int .i64 sl, .int .i64 0] 33)).cell? ⟨e1, 1, none⟩ = some (.int .i64 0) ∧ (W.alloc (.cells #[.int .u8 9, .int .i64 sl, .int .i64 0] 33)).cell? ⟨e1, 2, none⟩ = some (.int .i64 0) ∧ (W.alloc (.cells #[.int .u8 9, .int .i64 sl, .int .i64 0] 33)).frozen? ⟨e1, 0, none⟩ = false ∧ (W.alloc (.cells #[.int .u8 9, .int .i64 sl, .int .i64 0] 33)).frozen? ⟨e1, 1, none⟩ = false ∧ (W.alloc (.cells #[.int .u8 9, .int .i64 sl, .int .i64 0] 33)).frozen? ⟨e1, 2, none⟩ = false) ∧
    Hid ((W.alloc (.cells #[.int .u8 9, .int .i64 sl, .int .i64 0] 33)).cell? ⟨q, 2, none⟩ = some (.int .i64 sg) ∧ (W.alloc (.cells #[.int .u8 9, .int .i64 sl, .int .i64 0] 33)).cell? ⟨q, 3, none⟩ = some (.int .i64 sl)) ∧
    Hid (((((W.alloc (.cells #[.int .u8 9, .int .i64 sl, .int .i64 0] 33)).setCell ⟨e1, 0, none⟩ (.int .u8 6)).setCell ⟨e1, 1, none⟩ (.int .i64 sg)).setCell ⟨e1, 2, none⟩ (.int .i64 1)).cell? ⟨q, 2, none⟩ = some (.int .i64 sg) ∧ ((((W.alloc (.cells #[.int .u8 9, .int .i64 sl, .int .i64 0] 33)).setCell ⟨e1, 0, none⟩ (.int .u8 6)).setCell ⟨e1, 1, none⟩ (.int .i64 sg)).setCell ⟨e1, 2, none⟩ (.int .i64 1)).cell? ⟨q, 3, none⟩ = some (.int .i64 sl)) ∧
    Hid (Hd w e2 e1 sl sg ((((W.alloc (.cells #[.int .u8 9, .int .i64 sl, .int .i64 0] 33)).setCell ⟨e1, 0, none⟩ (.int .u8 6)).setCell ⟨e1, 1, none⟩ (.int .i64 sg)).setCell ⟨e1, 2, none⟩ (.int .i64 1))) := by
  subst he
  have q1 : q ≠ e1 := by omega
  have kn : Bq W.heap.size 33 (rA 9 sl 0) (W.alloc (.cells #[.int .u8 9, .int .i64 sl, .int .i64 0] 33)) := Bq.new W (rA 9 sl 0) 33
  have hne : W.heap.size ≠ e1 := Nat.ne_of_gt k1.lt
  have y3 : Bq q T (TC nx pt sg sl ws en tl) (f3 e1 (.int .u8 6) (.int .i64 sg) (.int .i64 1) (W.alloc (.cells #[.int .u8 9, .int .i64 sl, .int .i64 0] 33))) := (kq.al _).f3o q1
  refine ⟨(k1.al _).zf, Lib.hid ⟨(kq.al _).cell 2, (kq.al _).cell 3⟩, Lib.hid ⟨y3.cell 2, y3.cell 3⟩, Lib.hid (show Hd w W.heap.size e1 sl sg (f3 e1 _ _ _ _) from ⟨below_f3 (bl_al HB _) g1, kn.f3o hne, ?_⟩)⟩
  exact Bq.f3 (c0 := .int .u8 0) (c1 := .int .i64 0) (c2 := .int .i64 0) (k1.al _)
theorem both_new (HB : Below w.heap.size w X) : Hid (Hd w X.heap.size (X.heap.size + 1) sl sg ((X.alloc (.cells #[.int .u8 9, .int .i64 sl, .int .i64 0] 33)).alloc (.cells #[.int .u8 6, .int .i64 sg, .int .i64 1] 33))) ∧
    Hid (Hd w (X.heap.size + 1) X.heap.size sl sg ((X.alloc (.cells #[.int .u8 6, .int .i64 sg, .int .i64 1] 33)).alloc (.cells #[.int .u8 9, .int .i64 sl, .int .i64 0] 33))) := by
  have k1 : Bq X.heap.size 33 (rA 9 sl 0) (X.alloc (.cells #[.int .u8 9, .int .i64 sl, .int .i64 0] 33)) := Bq.new X (rA 9 sl 0) 33
  have k2 : Bq X.heap.size 33 (rA 6 sg 1) (X.alloc (.cells #[.int .u8 6, .int .i64 sg, .int .i64 1] 33)) := Bq.new X (rA 6 sg 1) 33
  have j1 : Bq _ 33 (rA 6 sg 1) ((X.alloc (.cells #[.int .u8 9, .int .i64 sl, .int .i64 0] 33)).alloc (.cells #[.int .u8 6, .int .i64 sg, .int .i64 1] 33)) := Bq.new _ (rA 6 sg 1) 33
  have j2 : Bq _ 33 (rA 9 sl 0) ((X.alloc (.cells #[.int .u8 6, .int .i64 sg, .int .i64 1] 33)).alloc (.cells #[.int .u8 9, .int .i64 sl, .int .i64 0] 33)) := Bq.new _ (rA 9 sl 0) 33
  rw [World.size_alloc] at j1 j2
  exact ⟨Lib.hid ⟨bl_al (bl_al HB _) _, k1.al _, j1⟩, Lib.hid ⟨bl_al (bl_al HB _) _, j2, k2.al _⟩⟩
end
end Go.Proofs.YtmjcbjcnmgleaaaGreatDoor
