/-
  Package grows: the lines A, B, that both operations have in common; condition: the operation and the memory lie as they say, numbers of their kinds.
-/
import Derived.Test.YtmjcbjcnmgleaaaGreatDoorXP34
namespace Go.Proofs.YtmjcbjcnmgleaaaGreatDoor
open Go.RowKit Go.Maps
section
variable {p b q r : Nat} {E : List Nat} {T : TypeId} {nx sg sl ws en : Int} {pt : Value} {tl cs : List Value} {M : MV} {o : OS} {w w' X Y : World}
theorem parked_yes {x : Int} (h : stW x = 3) : (stS (fld x 0 3) == 3) = true := by unfold stW at h; rw [h]; rfl
theorem parked_no {x : Int} (h : stW x ≠ 3) : (stS (fld x 0 3) == 3) = false := by
  unfold stW at h
  refine beq_eq_false_iff_ne.2 fun e => h ?_
  unfold stS at e
  split at e <;> omega
def fwd (sg sl : Int) : Int := if sl + 1 = 8 * sg + 8 then 0 else 7
theorem forth_any (k : Bq q T (TC nx pt sg sl ws en tl) w) (h : 0 ≤ sg ∧ sg < 32) (h1 : 8 * sg ≤ sl) (h2 : sl < 8 * sg + 8) :
    Calls Tryz.prog 113 #[.pointer (some ⟨q, 0, none⟩)] w fun e w' => e = .returned (.int .i64 (fwd sg sl)) ∧ Bq q T (TC nx pt sg (sl + 1) ws en tl) w' ∧ Only q q w w' := by
  unfold fwd
  by_cases hc : sl + 1 = 8 * sg + 8
  · rw [if_pos hc]; exact tForth_last k h hc
  · rw [if_neg hc]; exact tForth_on k h h1 (by omega)
theorem s4_of {X : World} {H : Nat} (h : Bq H 33 (rA 9 sl 0) X) (k : Bq q T (TC nx pt sg sl ws en tl) X) : X.cell? ⟨H, 0, none⟩ = some (.int .u8 9) ∧ X.cell? ⟨H, 1, none⟩ = some (.int .i64 sl) ∧ X.cell? ⟨H, 2, none⟩ = some (.int .i64 0) ∧ X.cell? ⟨q, 4, none⟩ = some (.int .u64 ws) := ⟨h.cell 0, h.cell 1, h.cell 2, k.cell 4⟩
theorem header_lo (s g : Int) (w : World) (hL : Lay w) (hs : 0 ≤ s) (hg : U64 g) : Calls Tryz.prog 49 #[.int .u8 s, .int .u32 g] w fun e w' => e = .returned (.int .u64 (headerW s g)) ∧ Below w.heap.size w w' := by
  refine (header_any s g w hL hs hg).mono ?_
  rintro e w' ⟨rfl, n, rfl⟩
  exact ⟨rfl, below_drewN' (Below.refl _ _) n⟩
theorem s5_of {X : World} {H : Nat} (h : Bq H 33 (rA 6 sg 1) X) (k : Bq q T (TC nx pt sg sl ws en tl) X) : X.cell? ⟨H, 0, none⟩ = some (.int .u8 6) ∧ X.cell? ⟨H, 1, none⟩ = some (.int .i64 sg) ∧ X.cell? ⟨H, 2, none⟩ = some (.int .i64 1) ∧ X.cell? ⟨q, 4, none⟩ = some (.int .u64 ws) := ⟨h.cell 0, h.cell 1, h.cell 2, k.cell 4⟩
theorem down_wrap' (n : Int) : IntKind.u64.wrap (n - 1) = down64 n := by rw [IntKind.wrap_u64]; rfl
theorem cas_Hc (F : VX p b M w) (hs : M.s.st < 1000000) (h : 0 ≤ sl ∧ sl < 256) {u : Int} (v : Int) (hv : U64 v) {c : Bool} (hc : casV M.V (adH sl) u = c) : Calls Tryz.prog 108 #[.pointer (some ⟨p, 0, none⟩), .agg #[.int .u8 9, .int .i64 sl, .int .i64 0], .int .u64 u, .int .u64 v] w fun e w' => e = .returned (.bool c) ∧ VX p b (csM M (adH sl) u v) w' ∧ Only p b w w' := by
  subst hc
  exact cas_H F hs h u v hv
theorem cas_Pc (F : VX p b M w) (hs : M.s.st < 1000000) (h : 0 ≤ sg ∧ sg < 32) {u : Int} (v : Int) (hv : U64 v) {c : Bool} (hc : casV M.V (adP sg) u = c) : Calls Tryz.prog 108 #[.pointer (some ⟨p, 0, none⟩), .agg #[.int .u8 6, .int .i64 sg, .int .i64 1], .int .u64 u, .int .u64 v] w fun e w' => e = .returned (.bool c) ∧ VX p b (csM M (adP sg) u v) w' ∧ Only p b w w' := by
  subst hc
  exact cas_P F hs h u v hv
theorem tc_row {X : World} {H A : Nat} (h : Hd w H A sl sg X) : (X.cell? ⟨H, 0, none⟩ = some (.int .u8 9) ∧ X.cell? ⟨H, 1, none⟩ = some (.int .i64 sl) ∧ X.cell? ⟨H, 2, none⟩ = some (.int .i64 0)) ∧ X.cell? ⟨A, 0, none⟩ = some (.int .u8 6) ∧ X.cell? ⟨A, 1, none⟩ = some (.int .i64 sg) ∧ X.cell? ⟨A, 2, none⟩ = some (.int .i64 1) :=
  ⟨⟨h.h.cell 0, h.h.cell 1, h.h.cell 2⟩, h.a.cell 0, h.a.cell 1, h.a.cell 2⟩
set_option maxRecDepth 100000 in
set_option maxHeartbeats 8000000 in
theorem tA (hq : 1 < q) (hT : T ≠ 121) (k : Bq q T (TC 7 pt sg sl ws en tl) w) (F : VX p b M w) (hs : M.s.st < 1000000) (h : 0 ≤ sg ∧ sg < 32) (h1 : 8 * sg ≤ sl) (h2 : sl < 8 * sg + 8) :
    Calls Tryz.prog 77 #[.pointer (some ⟨q, 0, none⟩), .pointer (some ⟨p, 0, none⟩)] w fun e w' => (stW (M.V (adH sl)) = 3 → e = .returned (.int .i64 8) ∧ Ln p b q T (TC 7 pt sg sl (M.V (adH sl)) en tl) (ldM M (adH sl)) w w') ∧ (stW (M.V (adH sl)) ≠ 3 → e = .returned (.int .i64 (fwd sg sl)) ∧ Ln p b q T (TC 7 pt sg (sl + 1) (M.V (adH sl)) en tl) (ldM M (adH sl)) w w') := by
  obtain ⟨c0, c1, c2, c3, c4, c5, z⟩ := k.tc
  have HK := Lib.hid k
  have HF := Lib.hid F
  have hne := F.ne hT k
  have hsl : 0 ≤ sl ∧ sl < 256 := by omega
  have hu := F.u64 (adH sl)
  have HX := Lib.hid (And.intro h1 h2)
  clear k F z h2 h1
  go_enter Tryz.func77, Tryz.ntmps77
  go_upto_region 1 with (fail)
  go_cut [5, 6] (fun x5 x6 wx => ∃ H A, x5 = .pointer (some ⟨H, 0, none⟩) ∧ x6 = .pointer (some ⟨A, 0, none⟩) ∧ Hid (Hd w H A sl sg wx))
  case first =>
    have HKd := Lib.hid (HK.out.below (Below.refl _ w).drew)
    have HBd := Lib.hid (show Below w.heap.size w w.drew from (Below.refl _ w).drew)
    have HKe := Lib.hid ((HK.out.al (.cells #[.int .u8 0, .int .i64 0, .int .i64 0] 33)).below (Below.refl _ (w.alloc (.cells #[.int .u8 0, .int .i64 0, .int .i64 0] 33))).drew)
    have HKf := Lib.hid (((HK.out.al (.cells #[.int .u8 0, .int .i64 0, .int .i64 0] 33)).al (.cells #[.int .u8 0, .int .i64 0, .int .i64 0] 33)).below (Below.refl _ ((w.alloc (.cells #[.int .u8 0, .int .i64 0, .int .i64 0] 33)).alloc (.cells #[.int .u8 0, .int .i64 0, .int .i64 0] 33))).drew)
    have HBe := Lib.hid (bl_step (bl_al (Below.refl _ w) (.cells #[.int .u8 0, .int .i64 0, .int .i64 0] 33)) (Below.refl _ (w.alloc (.cells #[.int .u8 0, .int .i64 0, .int .i64 0] 33))).drew)
    have HBf := Lib.hid (bl_step (bl_al (bl_al (Below.refl _ w) (.cells #[.int .u8 0, .int .i64 0, .int .i64 0] 33)) (.cells #[.int .u8 0, .int .i64 0, .int .i64 0] 33)) (Below.refl _ ((w.alloc (.cells #[.int .u8 0, .int .i64 0, .int .i64 0] 33)).alloc (.cells #[.int .u8 0, .int .i64 0, .int .i64 0] 33))).drew)
    have HZe := Lib.hid ((zNew w).below (Below.refl _ (w.alloc (.cells #[.int .u8 0, .int .i64 0, .int .i64 0] 33))).drew)
    have HZf := Lib.hid (((zNew w).al (.cells #[.int .u8 0, .int .i64 0, .int .i64 0] 33)).below (Below.refl _ ((w.alloc (.cells #[.int .u8 0, .int .i64 0, .int .i64 0] 33)).alloc (.cells #[.int .u8 0, .int .i64 0, .int .i64 0] 33))).drew)
    have HYf := Lib.hid ((zNew1 w (.cells #[.int .u8 0, .int .i64 0, .int .i64 0] 33)).below (Below.refl _ ((w.alloc (.cells #[.int .u8 0, .int .i64 0, .int .i64 0] 33)).alloc (.cells #[.int .u8 0, .int .i64 0, .int .i64 0] 33))).drew)
    have hs0 := Lib.hid HKd.out.tc23
    have hqw := HK.out.lt
    clear c0 c1 c2 c3 c4 c5
    go_region_held3 (fun w9 => w9.cell? ⟨q, 2, none⟩ = some (.int .i64 sg) ∧ w9.cell? ⟨q, 3, none⟩ = some (.int .i64 sl))
      (first | with_reducible exact hs0.out | with_reducible exact hs1.out | with_reducible exact hs2.out | with_reducible exact hs3.out | with_reducible exact hs4.out | with_reducible exact hs5.out | with_reducible exact hs6.out | with_reducible exact HKe.out.tc23 | with_reducible exact HKf.out.tc23 | with_reducible exact HKd.out.tc23 | with_reducible exact (HKd.out.al _).tc23 | with_reducible exact ((HKd.out.al _).al _).tc23 | with_reducible exact HK8.out.tc23 | with_reducible exact (HK8.out.al _).tc23 | with_reducible exact ((HK8.out.al _).al _).tc23 | with_reducible exact HK9.out.tc23 | with_reducible exact (HK9.out.al _).tc23 | with_reducible exact ((HK9.out.al _).al _).tc23 | fail)
      (first
        | (go_at_call 48; with_reducible refine (segSlot_any sl 0 w.drew).mono ?_; rintro ee x8 ⟨rfl, hb8⟩; have HK8 := Lib.hid (HKd.out.below hb8); have HB8 := Lib.hid (bl_step HBd.out hb8); clear hb8)
        | (go_at_call 48; with_reducible refine (segSlot_any sl 0 (w.alloc (.cells #[.int .u8 0, .int .i64 0, .int .i64 0] 33)).drew).mono ?_; rintro ee x8 ⟨rfl, hb8⟩; have HK8 := Lib.hid (HKe.out.below hb8); have HZ8 := Lib.hid (HZe.out.below hb8); have HB8 := Lib.hid (bl_step HBe.out hb8); clear hb8)
        | (go_at_call 48; with_reducible refine (segSlot_any sl 0 ((w.alloc (.cells #[.int .u8 0, .int .i64 0, .int .i64 0] 33)).alloc (.cells #[.int .u8 0, .int .i64 0, .int .i64 0] 33)).drew).mono ?_; rintro ee x8 ⟨rfl, hb8⟩; have HK8 := Lib.hid (HKf.out.below hb8); have HZ8 := Lib.hid (HZf.out.below hb8); have HY8 := Lib.hid (HYf.out.below hb8); have HB8 := Lib.hid (bl_step HBf.out hb8); clear hb8)
        | (revert HY8; intro HY8; go_at_call 46; with_reducible refine (segWord_any sg 1 x8).mono ?_; rintro ee x9 ⟨rfl, hb9⟩; have HK9 := Lib.hid (HK8.out.below hb9); have HB9 := Lib.hid (bl_step HB8.out hb9); obtain ⟨⟨fa0, fa1, fa2, fa3, fa4, fa5⟩, ⟨fb0, fb1, fb2, fb3, fb4, fb5⟩, ⟨fc0, fc1, fc2, fc3, fc4, fc5⟩, ⟨fd0, fd1, fd2, fd3, fd4, fd5⟩, hs1, hs2, hs3, hs4, HP1, HP2⟩ := two_pack HB9.out (HZ8.out.below hb9) (HY8.out.below hb9) (Nat.ne_of_lt (Nat.lt_succ_self _)) (Nat.le_refl _) (Nat.le_succ _) sl sg HK9.out hqw; clear hb9)
        | (revert HZ8; intro HZ8; go_at_call 46; with_reducible refine (segWord_any sg 1 x8).mono ?_; rintro ee x9 ⟨rfl, hb9⟩; have HK9 := Lib.hid (HK8.out.below hb9); have HB9 := Lib.hid (bl_step HB8.out hb9); obtain ⟨⟨fa0, fa1, fa2, fa3, fa4, fa5⟩, ⟨fb0, fb1, fb2, fb3, fb4, fb5⟩, ⟨fc0, fc1, fc2, fc3, fc4, fc5⟩, ⟨fd0, fd1, fd2, fd3, fd4, fd5⟩, hs1, hs2, hs3, hs4, HP1, HP2⟩ := two_pack (bl_al HB9.out (.cells #[.int .u8 0, .int .i64 0, .int .i64 0] 33)) ((HZ8.out.below hb9).al _) (zNew x9) (Nat.ne_of_lt (HZ8.out.below hb9).lt) (Nat.le_refl _) HB9.out.size sl sg (HK9.out.al _) hqw; obtain ⟨⟨fe0, fe1, fe2, fe3, fe4, fe5⟩, hs5, hs6, HP3⟩ := fold_pack HB9.out (HZ8.out.below hb9) (Nat.le_refl _) rfl sl sg HK9.out hqw; clear hb9)
        | (go_at_call 46; with_reducible refine (segWord_any sg 1 x8).mono ?_; rintro ee x9 ⟨rfl, hb9⟩; have HK9 := Lib.hid (HK8.out.below hb9); have HB9 := Lib.hid (bl_step HB8.out hb9); obtain ⟨⟨fa0, fa1, fa2, fa3, fa4, fa5⟩, ⟨fb0, fb1, fb2, fb3, fb4, fb5⟩, ⟨fc0, fc1, fc2, fc3, fc4, fc5⟩, ⟨fd0, fd1, fd2, fd3, fd4, fd5⟩, hs1, hs2, hs3, hs4, HP1, HP2⟩ := two_pack (bl_al (bl_al HB9.out (.cells #[.int .u8 0, .int .i64 0, .int .i64 0] 33)) (.cells #[.int .u8 0, .int .i64 0, .int .i64 0] 33)) ((zNew x9).al _) (zNew1 x9 (.cells #[.int .u8 0, .int .i64 0, .int .i64 0] 33)) (Nat.ne_of_lt (Nat.lt_succ_self _)) HB9.out.size (Nat.le_succ_of_le HB9.out.size) sl sg ((HK9.out.al _).al _) hqw; obtain ⟨⟨fe0, fe1, fe2, fe3, fe4, fe5⟩, hs5, hs6, HP3⟩ := fold_pack (bl_al HB9.out (.cells #[.int .u8 0, .int .i64 0, .int .i64 0] 33)) (zNew x9) HB9.out.size (World.size_alloc _ _).symm sl sg (HK9.out.al _) hqw; clear hb9)
        | (revert HZ8; intro HZ8; go_at_call 46; with_reducible refine (segWord_any sg 1 (x8.alloc (.cells #[.int .u8 0, .int .i64 0, .int .i64 0] 33))).mono ?_; rintro ee x9 ⟨rfl, hb9⟩; have HK9 := Lib.hid ((HK8.out.al _).below hb9); have HB9 := Lib.hid (bl_step (bl_al HB8.out _) hb9); obtain ⟨⟨fa0, fa1, fa2, fa3, fa4, fa5⟩, ⟨fb0, fb1, fb2, fb3, fb4, fb5⟩, ⟨fc0, fc1, fc2, fc3, fc4, fc5⟩, ⟨fd0, fd1, fd2, fd3, fd4, fd5⟩, hs1, hs2, hs3, hs4, HP1, HP2⟩ := two_pack HB9.out ((HZ8.out.al _).below hb9) ((zNew x8).below hb9) (Nat.ne_of_lt HZ8.out.lt) (Nat.le_refl _) HB8.out.size sl sg HK9.out hqw; clear hb9)
        | (go_at_call 46; with_reducible refine (segWord_any sg 1 (x8.alloc (.cells #[.int .u8 0, .int .i64 0, .int .i64 0] 33))).mono ?_; rintro ee x9 ⟨rfl, hb9⟩; have HK9 := Lib.hid ((HK8.out.al _).below hb9); have HB9 := Lib.hid (bl_step (bl_al HB8.out _) hb9); obtain ⟨⟨fa0, fa1, fa2, fa3, fa4, fa5⟩, ⟨fb0, fb1, fb2, fb3, fb4, fb5⟩, ⟨fc0, fc1, fc2, fc3, fc4, fc5⟩, ⟨fd0, fd1, fd2, fd3, fd4, fd5⟩, hs1, hs2, hs3, hs4, HP1, HP2⟩ := two_pack (bl_al HB9.out (.cells #[.int .u8 0, .int .i64 0, .int .i64 0] 33)) (((zNew x8).below hb9).al _) (zNew x9) (Nat.ne_of_lt ((zNew x8).below hb9).lt) HB8.out.size HB9.out.size sl sg (HK9.out.al _) hqw; obtain ⟨⟨fe0, fe1, fe2, fe3, fe4, fe5⟩, hs5, hs6, HP3⟩ := fold_pack HB9.out ((zNew x8).below hb9) HB8.out.size rfl sl sg HK9.out hqw; clear hb9)
        | (go_at_call 46; with_reducible refine (segWord_any sg 1 ((x8.alloc (.cells #[.int .u8 0, .int .i64 0, .int .i64 0] 33)).alloc (.cells #[.int .u8 0, .int .i64 0, .int .i64 0] 33))).mono ?_; rintro ee x9 ⟨rfl, hb9⟩; have HK9 := Lib.hid (((HK8.out.al _).al _).below hb9); have HB9 := Lib.hid (bl_step (bl_al (bl_al HB8.out _) _) hb9); obtain ⟨⟨fa0, fa1, fa2, fa3, fa4, fa5⟩, ⟨fb0, fb1, fb2, fb3, fb4, fb5⟩, ⟨fc0, fc1, fc2, fc3, fc4, fc5⟩, ⟨fd0, fd1, fd2, fd3, fd4, fd5⟩, hs1, hs2, hs3, hs4, HP1, HP2⟩ := two_pack HB9.out (((zNew x8).al _).below hb9) ((zNew1 x8 (.cells #[.int .u8 0, .int .i64 0, .int .i64 0] 33)).below hb9) (Nat.ne_of_lt (Nat.lt_succ_self _)) HB8.out.size (Nat.le_succ_of_le HB8.out.size) sl sg HK9.out hqw; clear hb9)
        | fail)
    all_goals (go_wp2_with fail)
    all_goals go_meet
    all_goals refine ⟨_, _, rfl, rfl, ?_⟩
    all_goals first | with_reducible exact HP1 | with_reducible exact HP2 | with_reducible exact HP3 | with_reducible exact (both_new HB9.out).1 | with_reducible exact (both_new HB9.out).2
  case rest =>
    obtain ⟨H, A, rfl, rfl, HD⟩ := hcut
    have HKc := Lib.hid (HK.out.below HD.out.low)
    have HFc := Lib.hid (HF.out.below HD.out.low)
    have HO := Lib.hid (Onl.of_below (p := p) (b := b) (E := [q]) HD.out.low)
    clear c0 c1 c2 c3 c4 c5
    obtain ⟨c0, c1, c2, c3, c4, c5, z⟩ := HKc.out.tc
    obtain ⟨⟨y0, y1, y2⟩, y3, y4, y5⟩ := tc_row HD.out
    have z4 := z 4
    clear z
    go_wp2_with fail
    ((with_reducible refine (load_H HFc.out hs hsl).mono ?_); rintro ee w3 ⟨rfl, F3, h3⟩)
    have HL := Lib.hid (Ln.load HKc.out F3 hne h3)
    clear F3 h3 c0 c1 c2 c3 c4 c5 z4 y0 y1 y2 y3 y4 y5
    obtain ⟨c0, c1, c2, c3, c4, c5, z⟩ := HL.out.k.tc
    have z4 := z 4
    clear z
    have HS := Lib.hid (HL.out.set hT hq 4 (.int .u64 (M.V (adH sl))) (cs' := TC 7 pt sg sl (M.V (adH sl)) en tl) rfl)
    go_wp2_with fail
    revert HS
    generalize w3.setCell ⟨q, 4, none⟩ (.int .u64 (M.V (adH sl))) = x3
    intro HS
    clear c0 c1 c2 c3 c4 c5 z4
    obtain ⟨c0, c1, c2, c3, c4, c5, z⟩ := HS.out.k.tc
    clear z
    ((with_reducible refine (asHeader_any (M.V (adH sl)) _ HS.out.f.lay hu).mono ?_); rintro ee w5 ⟨rfl, n, rfl⟩)
    have HN := Lib.hid (HS.out.below (below_drewN' (Below.refl _ _) n))
    by_cases hc : stW (M.V (adH sl)) = 3
    · have hb := parked_yes hc
      have HC := Lib.hid hc
      clear hc
      go_wp2_with fail
      go_ret
      exact ⟨fun _ => ⟨rfl, HN.out.k, HN.out.f, HO.out.trans HN.out.o⟩, fun h => absurd HC.out h⟩
    · have hb := parked_no hc
      have HC := Lib.hid hc
      clear hc
      go_wp2_with fail
      ((with_reducible refine (forth_any HN.out.k h HX.out.1 HX.out.2).mono ?_); rintro ee w9 ⟨rfl, k9, h9⟩)
      have HM := Lib.hid (HN.out.stay hT hq k9 h9)
      clear k9 h9
      go_wp2_with fail
      go_ret
      exact ⟨fun h => absurd h HC.out, fun _ => ⟨rfl, HM.out.k, HM.out.f, HO.out.trans HM.out.o⟩⟩
set_option maxRecDepth 100000 in
set_option maxHeartbeats 8000000 in
theorem tB (hq : 1 < q) (hT : T ≠ 121) (k : Bq q T (TC 8 pt sg sl ws en tl) w) (F : VX p b M w) (hs : M.s.st < 1000000) (h : 0 ≤ sg ∧ sg < 32) (h1 : 8 * sg ≤ sl) (h2 : sl < 8 * sg + 8) (hw : U64 ws) :
    Calls Tryz.prog 77 #[.pointer (some ⟨q, 0, none⟩), .pointer (some ⟨p, 0, none⟩)] w fun e w' => (casV M.V (adH sl) ws = true → e = .returned (.int .i64 9) ∧ Ln p b q T (TC 8 pt sg sl ws en tl) (csM M (adH sl) ws (headerW 0 (gW ws))) w w') ∧ (casV M.V (adH sl) ws = false → e = .returned (.int .i64 (fwd sg sl)) ∧ Ln p b q T (TC 8 pt sg (sl + 1) ws en tl) (csM M (adH sl) ws (headerW 0 (gW ws))) w w') := by
  obtain ⟨c0, c1, c2, c3, c4, c5, z⟩ := k.tc
  have HK := Lib.hid k
  have HF := Lib.hid F
  have hne := F.ne hT k
  have hsl : 0 ≤ sl ∧ sl < 256 := by omega
  have HX := Lib.hid (And.intro h1 h2)
  clear k F z h2 h1
  go_enter Tryz.func77, Tryz.ntmps77
  go_upto_region 1 with (fail)
  go_cut [5, 6] (fun x5 x6 wx => ∃ H A, x5 = .pointer (some ⟨H, 0, none⟩) ∧ x6 = .pointer (some ⟨A, 0, none⟩) ∧ Hid (Hd w H A sl sg wx))
  case first =>
    have HKd := Lib.hid (HK.out.below (Below.refl _ w).drew)
    have HBd := Lib.hid (show Below w.heap.size w w.drew from (Below.refl _ w).drew)
    have HKe := Lib.hid ((HK.out.al (.cells #[.int .u8 0, .int .i64 0, .int .i64 0] 33)).below (Below.refl _ (w.alloc (.cells #[.int .u8 0, .int .i64 0, .int .i64 0] 33))).drew)
    have HKf := Lib.hid (((HK.out.al (.cells #[.int .u8 0, .int .i64 0, .int .i64 0] 33)).al (.cells #[.int .u8 0, .int .i64 0, .int .i64 0] 33)).below (Below.refl _ ((w.alloc (.cells #[.int .u8 0, .int .i64 0, .int .i64 0] 33)).alloc (.cells #[.int .u8 0, .int .i64 0, .int .i64 0] 33))).drew)
    have HBe := Lib.hid (bl_step (bl_al (Below.refl _ w) (.cells #[.int .u8 0, .int .i64 0, .int .i64 0] 33)) (Below.refl _ (w.alloc (.cells #[.int .u8 0, .int .i64 0, .int .i64 0] 33))).drew)
    have HBf := Lib.hid (bl_step (bl_al (bl_al (Below.refl _ w) (.cells #[.int .u8 0, .int .i64 0, .int .i64 0] 33)) (.cells #[.int .u8 0, .int .i64 0, .int .i64 0] 33)) (Below.refl _ ((w.alloc (.cells #[.int .u8 0, .int .i64 0, .int .i64 0] 33)).alloc (.cells #[.int .u8 0, .int .i64 0, .int .i64 0] 33))).drew)
    have HZe := Lib.hid ((zNew w).below (Below.refl _ (w.alloc (.cells #[.int .u8 0, .int .i64 0, .int .i64 0] 33))).drew)
    have HZf := Lib.hid (((zNew w).al (.cells #[.int .u8 0, .int .i64 0, .int .i64 0] 33)).below (Below.refl _ ((w.alloc (.cells #[.int .u8 0, .int .i64 0, .int .i64 0] 33)).alloc (.cells #[.int .u8 0, .int .i64 0, .int .i64 0] 33))).drew)
    have HYf := Lib.hid ((zNew1 w (.cells #[.int .u8 0, .int .i64 0, .int .i64 0] 33)).below (Below.refl _ ((w.alloc (.cells #[.int .u8 0, .int .i64 0, .int .i64 0] 33)).alloc (.cells #[.int .u8 0, .int .i64 0, .int .i64 0] 33))).drew)
    have hs0 := Lib.hid HKd.out.tc23
    have hqw := HK.out.lt
    clear c0 c1 c2 c3 c4 c5
    go_region_held3 (fun w9 => w9.cell? ⟨q, 2, none⟩ = some (.int .i64 sg) ∧ w9.cell? ⟨q, 3, none⟩ = some (.int .i64 sl))
      (first | with_reducible exact hs0.out | with_reducible exact hs1.out | with_reducible exact hs2.out | with_reducible exact hs3.out | with_reducible exact hs4.out | with_reducible exact hs5.out | with_reducible exact hs6.out | with_reducible exact HKe.out.tc23 | with_reducible exact HKf.out.tc23 | with_reducible exact HKd.out.tc23 | with_reducible exact (HKd.out.al _).tc23 | with_reducible exact ((HKd.out.al _).al _).tc23 | with_reducible exact HK8.out.tc23 | with_reducible exact (HK8.out.al _).tc23 | with_reducible exact ((HK8.out.al _).al _).tc23 | with_reducible exact HK9.out.tc23 | with_reducible exact (HK9.out.al _).tc23 | with_reducible exact ((HK9.out.al _).al _).tc23 | fail)
      (first
        | (go_at_call 48; with_reducible refine (segSlot_any sl 0 w.drew).mono ?_; rintro ee x8 ⟨rfl, hb8⟩; have HK8 := Lib.hid (HKd.out.below hb8); have HB8 := Lib.hid (bl_step HBd.out hb8); clear hb8)
        | (go_at_call 48; with_reducible refine (segSlot_any sl 0 (w.alloc (.cells #[.int .u8 0, .int .i64 0, .int .i64 0] 33)).drew).mono ?_; rintro ee x8 ⟨rfl, hb8⟩; have HK8 := Lib.hid (HKe.out.below hb8); have HZ8 := Lib.hid (HZe.out.below hb8); have HB8 := Lib.hid (bl_step HBe.out hb8); clear hb8)
        | (go_at_call 48; with_reducible refine (segSlot_any sl 0 ((w.alloc (.cells #[.int .u8 0, .int .i64 0, .int .i64 0] 33)).alloc (.cells #[.int .u8 0, .int .i64 0, .int .i64 0] 33)).drew).mono ?_; rintro ee x8 ⟨rfl, hb8⟩; have HK8 := Lib.hid (HKf.out.below hb8); have HZ8 := Lib.hid (HZf.out.below hb8); have HY8 := Lib.hid (HYf.out.below hb8); have HB8 := Lib.hid (bl_step HBf.out hb8); clear hb8)
        | (revert HY8; intro HY8; go_at_call 46; with_reducible refine (segWord_any sg 1 x8).mono ?_; rintro ee x9 ⟨rfl, hb9⟩; have HK9 := Lib.hid (HK8.out.below hb9); have HB9 := Lib.hid (bl_step HB8.out hb9); obtain ⟨⟨fa0, fa1, fa2, fa3, fa4, fa5⟩, ⟨fb0, fb1, fb2, fb3, fb4, fb5⟩, ⟨fc0, fc1, fc2, fc3, fc4, fc5⟩, ⟨fd0, fd1, fd2, fd3, fd4, fd5⟩, hs1, hs2, hs3, hs4, HP1, HP2⟩ := two_pack HB9.out (HZ8.out.below hb9) (HY8.out.below hb9) (Nat.ne_of_lt (Nat.lt_succ_self _)) (Nat.le_refl _) (Nat.le_succ _) sl sg HK9.out hqw; clear hb9)
        | (revert HZ8; intro HZ8; go_at_call 46; with_reducible refine (segWord_any sg 1 x8).mono ?_; rintro ee x9 ⟨rfl, hb9⟩; have HK9 := Lib.hid (HK8.out.below hb9); have HB9 := Lib.hid (bl_step HB8.out hb9); obtain ⟨⟨fa0, fa1, fa2, fa3, fa4, fa5⟩, ⟨fb0, fb1, fb2, fb3, fb4, fb5⟩, ⟨fc0, fc1, fc2, fc3, fc4, fc5⟩, ⟨fd0, fd1, fd2, fd3, fd4, fd5⟩, hs1, hs2, hs3, hs4, HP1, HP2⟩ := two_pack (bl_al HB9.out (.cells #[.int .u8 0, .int .i64 0, .int .i64 0] 33)) ((HZ8.out.below hb9).al _) (zNew x9) (Nat.ne_of_lt (HZ8.out.below hb9).lt) (Nat.le_refl _) HB9.out.size sl sg (HK9.out.al _) hqw; obtain ⟨⟨fe0, fe1, fe2, fe3, fe4, fe5⟩, hs5, hs6, HP3⟩ := fold_pack HB9.out (HZ8.out.below hb9) (Nat.le_refl _) rfl sl sg HK9.out hqw; clear hb9)
        | (go_at_call 46; with_reducible refine (segWord_any sg 1 x8).mono ?_; rintro ee x9 ⟨rfl, hb9⟩; have HK9 := Lib.hid (HK8.out.below hb9); have HB9 := Lib.hid (bl_step HB8.out hb9); obtain ⟨⟨fa0, fa1, fa2, fa3, fa4, fa5⟩, ⟨fb0, fb1, fb2, fb3, fb4, fb5⟩, ⟨fc0, fc1, fc2, fc3, fc4, fc5⟩, ⟨fd0, fd1, fd2, fd3, fd4, fd5⟩, hs1, hs2, hs3, hs4, HP1, HP2⟩ := two_pack (bl_al (bl_al HB9.out (.cells #[.int .u8 0, .int .i64 0, .int .i64 0] 33)) (.cells #[.int .u8 0, .int .i64 0, .int .i64 0] 33)) ((zNew x9).al _) (zNew1 x9 (.cells #[.int .u8 0, .int .i64 0, .int .i64 0] 33)) (Nat.ne_of_lt (Nat.lt_succ_self _)) HB9.out.size (Nat.le_succ_of_le HB9.out.size) sl sg ((HK9.out.al _).al _) hqw; obtain ⟨⟨fe0, fe1, fe2, fe3, fe4, fe5⟩, hs5, hs6, HP3⟩ := fold_pack (bl_al HB9.out (.cells #[.int .u8 0, .int .i64 0, .int .i64 0] 33)) (zNew x9) HB9.out.size (World.size_alloc _ _).symm sl sg (HK9.out.al _) hqw; clear hb9)
        | (revert HZ8; intro HZ8; go_at_call 46; with_reducible refine (segWord_any sg 1 (x8.alloc (.cells #[.int .u8 0, .int .i64 0, .int .i64 0] 33))).mono ?_; rintro ee x9 ⟨rfl, hb9⟩; have HK9 := Lib.hid ((HK8.out.al _).below hb9); have HB9 := Lib.hid (bl_step (bl_al HB8.out _) hb9); obtain ⟨⟨fa0, fa1, fa2, fa3, fa4, fa5⟩, ⟨fb0, fb1, fb2, fb3, fb4, fb5⟩, ⟨fc0, fc1, fc2, fc3, fc4, fc5⟩, ⟨fd0, fd1, fd2, fd3, fd4, fd5⟩, hs1, hs2, hs3, hs4, HP1, HP2⟩ := two_pack HB9.out ((HZ8.out.al _).below hb9) ((zNew x8).below hb9) (Nat.ne_of_lt HZ8.out.lt) (Nat.le_refl _) HB8.out.size sl sg HK9.out hqw; clear hb9)
        | (go_at_call 46; with_reducible refine (segWord_any sg 1 (x8.alloc (.cells #[.int .u8 0, .int .i64 0, .int .i64 0] 33))).mono ?_; rintro ee x9 ⟨rfl, hb9⟩; have HK9 := Lib.hid ((HK8.out.al _).below hb9); have HB9 := Lib.hid (bl_step (bl_al HB8.out _) hb9); obtain ⟨⟨fa0, fa1, fa2, fa3, fa4, fa5⟩, ⟨fb0, fb1, fb2, fb3, fb4, fb5⟩, ⟨fc0, fc1, fc2, fc3, fc4, fc5⟩, ⟨fd0, fd1, fd2, fd3, fd4, fd5⟩, hs1, hs2, hs3, hs4, HP1, HP2⟩ := two_pack (bl_al HB9.out (.cells #[.int .u8 0, .int .i64 0, .int .i64 0] 33)) (((zNew x8).below hb9).al _) (zNew x9) (Nat.ne_of_lt ((zNew x8).below hb9).lt) HB8.out.size HB9.out.size sl sg (HK9.out.al _) hqw; obtain ⟨⟨fe0, fe1, fe2, fe3, fe4, fe5⟩, hs5, hs6, HP3⟩ := fold_pack HB9.out ((zNew x8).below hb9) HB8.out.size rfl sl sg HK9.out hqw; clear hb9)
        | (go_at_call 46; with_reducible refine (segWord_any sg 1 ((x8.alloc (.cells #[.int .u8 0, .int .i64 0, .int .i64 0] 33)).alloc (.cells #[.int .u8 0, .int .i64 0, .int .i64 0] 33))).mono ?_; rintro ee x9 ⟨rfl, hb9⟩; have HK9 := Lib.hid (((HK8.out.al _).al _).below hb9); have HB9 := Lib.hid (bl_step (bl_al (bl_al HB8.out _) _) hb9); obtain ⟨⟨fa0, fa1, fa2, fa3, fa4, fa5⟩, ⟨fb0, fb1, fb2, fb3, fb4, fb5⟩, ⟨fc0, fc1, fc2, fc3, fc4, fc5⟩, ⟨fd0, fd1, fd2, fd3, fd4, fd5⟩, hs1, hs2, hs3, hs4, HP1, HP2⟩ := two_pack HB9.out (((zNew x8).al _).below hb9) ((zNew1 x8 (.cells #[.int .u8 0, .int .i64 0, .int .i64 0] 33)).below hb9) (Nat.ne_of_lt (Nat.lt_succ_self _)) HB8.out.size (Nat.le_succ_of_le HB8.out.size) sl sg HK9.out hqw; clear hb9)
        | fail)
    all_goals (go_wp2_with fail)
    all_goals go_meet
    all_goals refine ⟨_, _, rfl, rfl, ?_⟩
    all_goals first | with_reducible exact HP1 | with_reducible exact HP2 | with_reducible exact HP3 | with_reducible exact (both_new HB9.out).1 | with_reducible exact (both_new HB9.out).2
  case rest =>
    obtain ⟨H, A, rfl, rfl, HD⟩ := hcut
    have HKc := Lib.hid (HK.out.below HD.out.low)
    have HFc := Lib.hid (HF.out.below HD.out.low)
    have HO := Lib.hid (Onl.of_below (p := p) (b := b) (E := [q]) HD.out.low)
    clear c0 c1 c2 c3 c4 c5
    obtain ⟨c0, c1, c2, c3, c4, c5, z⟩ := HKc.out.tc
    obtain ⟨⟨y0, y1, y2⟩, y3, y4, y5⟩ := tc_row HD.out
    have z4 := z 4
    clear z
    go_wp2_with fail
    ((with_reducible refine (asHeader_any ws _ HFc.out.lay hw).mono ?_); rintro ee w5 ⟨rfl, n, rfl⟩)
    have HK5 := Lib.hid (HKc.out.below (below_drewN' (Below.refl _ _) n))
    have HF5 := Lib.hid (HFc.out.below (below_drewN' (Below.refl _ _) n))
    have HO5 := Lib.hid (HO.out.trans (Onl.of_below (below_drewN' (Below.refl _ _) n)))
    have HH5 := Lib.hid (HD.out.h.below (below_drewN' (Below.refl _ _) n))
    clear c0 c1 c2 c3 c4 c5 z4 y0 y1 y2 y3 y4 y5
    revert HK5 HF5 HO5 HH5
    generalize wc.drewN n = x5
    intro HK5 HF5 HO5 HH5
    obtain ⟨c0, c1, c2, c3, c4, c5, z⟩ := HK5.out.tc
    clear z
    go_wp2_with fail
    have HBd := Lib.hid (show Below x5.heap.size x5 x5.drew from (Below.refl _ _).drew)
    have HKd := Lib.hid (HK5.out.below HBd.out)
    have HFd := Lib.hid (HF5.out.below HBd.out)
    have HOd := Lib.hid (HO5.out.trans (Onl.of_below HBd.out))
    have HHd := Lib.hid (HH5.out.below HBd.out)
    have hs0 := Lib.hid (s4_of HHd.out HKd.out)
    have hg := gen_u64' ws
    have hv : U64 (headerW 0 (fld ws 3 32)) := hdrW_u64 ws (by decide)
    clear c0 c1 c2 c3 c4 c5
    rcases hcb : casV M.V (adH sl) ws with _ | _
    all_goals
      have HC := Lib.hid hcb
      clear hcb
      go_region_held3 (fun w9 => w9.cell? ⟨H, 0, none⟩ = some (.int .u8 9) ∧ w9.cell? ⟨H, 1, none⟩ = some (.int .i64 sl) ∧ w9.cell? ⟨H, 2, none⟩ = some (.int .i64 0) ∧ w9.cell? ⟨q, 4, none⟩ = some (.int .u64 ws))
        (first | with_reducible exact hs0.out | with_reducible exact hs8.out | with_reducible exact hs9.out | fail)
        (first
          | (go_at_call 49; with_reducible refine (header_lo 0 (fld ws 3 32) _ HFd.out.lay (by decide) hg).mono ?_; rintro ee x8 ⟨rfl, hb8⟩; have HK8 := Lib.hid (HKd.out.below hb8); have HF8 := Lib.hid (HFd.out.below hb8); have HO8 := Lib.hid (HOd.out.trans (Onl.of_below hb8)); have HH8 := Lib.hid (HHd.out.below hb8); have hs8 := Lib.hid (s4_of HH8.out HK8.out); clear hb8)
          | (go_at_call 108; with_reducible refine (cas_Hc HF8.out hs hsl (headerW 0 (fld ws 3 32)) hv HC.out).mono ?_; rintro ee x9 ⟨rfl, F9, h9⟩; have HL := Lib.hid (Ln.load HK8.out F9 hne h9); have hs9 := Lib.hid (s4_of (HH8.out.same (h9.block _ HH8.out.lt (HF8.out.ne (by decide) HH8.out).1 (HF8.out.ne (by decide) HH8.out).2)) HL.out.k); clear F9 h9)
          | fail)
      go_wp2_with fail
    · have HN := Lib.hid HL.out
      ((with_reducible refine (forth_any HN.out.k h HX.out.1 HX.out.2).mono ?_); rintro ee w9 ⟨rfl, k9, h9⟩)
      have HM := Lib.hid (HN.out.stay hT hq k9 h9)
      clear k9 h9
      go_wp2_with fail
      go_ret
      exact ⟨fun h => absurd (h.symm.trans HC.out) (by simp), fun _ => ⟨rfl, HM.out.k, HM.out.f, HO8.out.trans HM.out.o⟩⟩
    · go_ret
      exact ⟨fun _ => ⟨rfl, HL.out.k, HL.out.f, HO8.out.trans HL.out.o⟩, fun h => absurd (h.symm.trans HC.out) (by simp)⟩
end
end Go.Proofs.YtmjcbjcnmgleaaaGreatDoor
