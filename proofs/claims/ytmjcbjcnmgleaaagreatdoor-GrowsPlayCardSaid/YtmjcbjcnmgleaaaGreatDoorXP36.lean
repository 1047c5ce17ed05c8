/-
  Package grows: the lines C to E, that both operations have in common; condition: the operation and the memory lie as they say, numbers of their kinds.
-/
import Derived.Test.YtmjcbjcnmgleaaaGreatDoorXP35
namespace Go.Proofs.YtmjcbjcnmgleaaaGreatDoor
open Go.RowKit Go.Maps
section
variable {p b q r : Nat} {E : List Nat} {T : TypeId} {nx sg sl ws en : Int} {pt : Value} {tl cs : List Value} {M : MV} {o : OS} {w w' X Y : World}
set_option maxRecDepth 100000 in
set_option maxHeartbeats 8000000 in
theorem tC (hq : 1 < q) (hT : T ≠ 121) (k : Bq q T (TC 9 pt sg sl ws en tl) w) (F : VX p b M w) (hs : M.s.st < 1000000) (h : 0 ≤ sg ∧ sg < 32) (h1 : 8 * sg ≤ sl) (h2 : sl < 8 * sg + 8) :
    Calls Tryz.prog 77 #[.pointer (some ⟨q, 0, none⟩), .pointer (some ⟨p, 0, none⟩)] w fun e w' => e = .returned (.int .i64 10) ∧ Ln p b q T (TC 9 pt sg sl (M.V (adP sg)) en tl) (ldM M (adP sg)) w w' := by
  obtain ⟨c0, c1, c2, c3, c4, c5, z⟩ := k.tc
  have HK := Lib.hid k
  have HF := Lib.hid F
  have hne := F.ne hT k
  have hsl : 0 ≤ sl ∧ sl < 256 := by omega
  have HX := Lib.hid (And.intro h1 h2)
  clear k F z h2 h1
  go_enter Tryz.func77, Tryz.ntmps77
  go_upto_region 1 with (fail)
  go_cut [5, 6] (fun x5 x6 wx => ∃ H A, x5 = .pointer (some ⟨H, 0, none⟩) ∧ x6 = .pointer (some ⟨A, 0, none⟩) ∧ Hid (Hd w H A sl sg wx))
  case first =>
    have HKd := Lib.hid (HK.out.below (Below.refl _ w).drew)
    have HBd := Lib.hid (show Below w.heap.size w w.drew from (Below.refl _ w).drew)
    have HKe := Lib.hid ((HK.out.al (.cells #[.int .u8 0, .int .i64 0, .int .i64 0] 33)).below (Below.refl _ (w.alloc (.cells #[.int .u8 0, .int .i64 0, .int .i64 0] 33))).drew)
    have HKf := Lib.hid (((HK.out.al (.cells #[.int .u8 0, .int .i64 0, .int .i64 0] 33)).al (.cells #[.int .u8 0, .int .i64 0, .int .i64 0] 33)).below (Below.refl _ ((w.alloc (.cells #[.int .u8 0, .int .i64 0, .int .i64 0] 33)).alloc (.cells #[.int .u8 0, .int .i64 0, .int .i64 0] 33))).drew)
    have HBe := Lib.hid (bl_step (bl_al (Below.refl _ w) (.cells #[.int .u8 0, .int .i64 0, .int .i64 0] 33)) (Below.refl _ (w.alloc (.cells #[.int .u8 0, .int .i64 0, .int .i64 0] 33))).drew)
    have HBf := Lib.hid (bl_step (bl_al (bl_al (Below.refl _ w) (.cells #[.int .u8 0, .int .i64 0, .int .i64 0] 33)) (.cells #[.int .u8 0, .int .i64 0, .int .i64 0] 33)) (Below.refl _ ((w.alloc (.cells #[.int .u8 0, .int .i64 0, .int .i64 0] 33)).alloc (.cells #[.int .u8 0, .int .i64 0, .int .i64 0] 33))).drew)
    have HZe := Lib.hid ((zNew w).below (Below.refl _ (w.alloc (.cells #[.int .u8 0, .int .i64 0, .int .i64 0] 33))).drew)
    have HZf := Lib.hid (((zNew w).al (.cells #[.int .u8 0, .int .i64 0, .int .i64 0] 33)).below (Below.refl _ ((w.alloc (.cells #[.int .u8 0, .int .i64 0, .int .i64 0] 33)).alloc (.cells #[.int .u8 0, .int .i64 0, .int .i64 0] 33))).drew)
    have HYf := Lib.hid ((zNew1 w (.cells #[.int .u8 0, .int .i64 0, .int .i64 0] 33)).below (Below.refl _ ((w.alloc (.cells #[.int .u8 0, .int .i64 0, .int .i64 0] 33)).alloc (.cells #[.int .u8 0, .int .i64 0, .int .i64 0] 33))).drew)
    have hs0 := Lib.hid HKd.out.tc23
    have hqw := HK.out.lt
    clear c0 c1 c2 c3 c4 c5
    go_region_held3 (fun w9 => w9.cell? ⟨q, 2, none⟩ = some (.int .i64 sg) ∧ w9.cell? ⟨q, 3, none⟩ = some (.int .i64 sl))
      (first | with_reducible exact hs0.out | with_reducible exact hs1.out | with_reducible exact hs2.out | with_reducible exact hs3.out | with_reducible exact hs4.out | with_reducible exact hs5.out | with_reducible exact hs6.out | with_reducible exact HKe.out.tc23 | with_reducible exact HKf.out.tc23 | with_reducible exact HKd.out.tc23 | with_reducible exact (HKd.out.al _).tc23 | with_reducible exact ((HKd.out.al _).al _).tc23 | with_reducible exact HK8.out.tc23 | with_reducible exact (HK8.out.al _).tc23 | with_reducible exact ((HK8.out.al _).al _).tc23 | with_reducible exact HK9.out.tc23 | with_reducible exact (HK9.out.al _).tc23 | with_reducible exact ((HK9.out.al _).al _).tc23 | fail)
      (first
        | (go_at_call 48; with_reducible refine (segSlot_any sl 0 w.drew).mono ?_; rintro ee x8 ⟨rfl, hb8⟩; have HK8 := Lib.hid (HKd.out.below hb8); have HB8 := Lib.hid (bl_step HBd.out hb8); clear hb8)
        | (go_at_call 48; with_reducible refine (segSlot_any sl 0 (w.alloc (.cells #[.int .u8 0, .int .i64 0, .int .i64 0] 33)).drew).mono ?_; rintro ee x8 ⟨rfl, hb8⟩; have HK8 := Lib.hid (HKe.out.below hb8); have HZ8 := Lib.hid (HZe.out.below hb8); have HB8 := Lib.hid (bl_step HBe.out hb8); clear hb8)
        | (go_at_call 48; with_reducible refine (segSlot_any sl 0 ((w.alloc (.cells #[.int .u8 0, .int .i64 0, .int .i64 0] 33)).alloc (.cells #[.int .u8 0, .int .i64 0, .int .i64 0] 33)).drew).mono ?_; rintro ee x8 ⟨rfl, hb8⟩; have HK8 := Lib.hid (HKf.out.below hb8); have HZ8 := Lib.hid (HZf.out.below hb8); have HY8 := Lib.hid (HYf.out.below hb8); have HB8 := Lib.hid (bl_step HBf.out hb8); clear hb8)
        | (revert HY8; intro HY8; go_at_call 46; with_reducible refine (segWord_any sg 1 x8).mono ?_; rintro ee x9 ⟨rfl, hb9⟩; have HK9 := Lib.hid (HK8.out.below hb9); have HB9 := Lib.hid (bl_step HB8.out hb9); obtain ⟨⟨fa0, fa1, fa2, fa3, fa4, fa5⟩, ⟨fb0, fb1, fb2, fb3, fb4, fb5⟩, ⟨fc0, fc1, fc2, fc3, fc4, fc5⟩, ⟨fd0, fd1, fd2, fd3, fd4, fd5⟩, hs1, hs2, hs3, hs4, HP1, HP2⟩ := two_pack HB9.out (HZ8.out.below hb9) (HY8.out.below hb9) (Nat.ne_of_lt (Nat.lt_succ_self _)) (Nat.le_refl _) (Nat.le_succ _) sl sg HK9.out hqw; clear hb9)
        | (revert HZ8; intro HZ8; go_at_call 46; with_reducible refine (segWord_any sg 1 x8).mono ?_; rintro ee x9 ⟨rfl, hb9⟩; have HK9 := Lib.hid (HK8.out.below hb9); have HB9 := Lib.hid (bl_step HB8.out hb9); obtain ⟨⟨fa0, fa1, fa2, fa3, fa4, fa5⟩, ⟨fb0, fb1, fb2, fb3, fb4, fb5⟩, ⟨fc0, fc1, fc2, fc3, fc4, fc5⟩, ⟨fd0, fd1, fd2, fd3, fd4, fd5⟩, hs1, hs2, hs3, hs4, HP1, HP2⟩ := two_pack (bl_al HB9.out (.cells #[.int .u8 0, .int .i64 0, .int .i64 0] 33)) ((HZ8.out.below hb9).al _) (zNew x9) (Nat.ne_of_lt (HZ8.out.below hb9).lt) (Nat.le_refl _) HB9.out.size sl sg (HK9.out.al _) hqw; obtain ⟨⟨fe0, fe1, fe2, fe3, fe4, fe5⟩, hs5, hs6, HP3⟩ := fold_pack HB9.out (HZ8.out.below hb9) (Nat.le_refl _) rfl sl sg HK9.out hqw; clear hb9)
        | (go_at_call 46; with_reducible refine (segWord_any sg 1 x8).mono ?_; rintro ee x9 ⟨rfl, hb9⟩; have HK9 := Lib.hid (HK8.out.below hb9); have HB9 := Lib.hid (bl_step HB8.out hb9); obtain ⟨⟨fa0, fa1, fa2, fa3, fa4, fa5⟩, ⟨fb0, fb1, fb2, fb3, fb4, fb5⟩, ⟨fc0, fc1, fc2, fc3, fc4, fc5⟩, ⟨fd0, fd1, fd2, fd3, fd4, fd5⟩, hs1, hs2, hs3, hs4, HP1, HP2⟩ := two_pack (bl_al (bl_al HB9.out (.cells #[.int .u8 0, .int .i64 0, .int .i64 0] 33)) (.cells #[.int .u8 0, .int .i64 0, .int .i64 0] 33)) ((zNew x9).al _) (zNew1 x9 (.cells #[.int .u8 0, .int .i64 0, .int .i64 0] 33)) (Nat.ne_of_lt (Nat.lt_succ_self _)) HB9.out.size (Nat.le_succ_of_le HB9.out.size) sl sg ((HK9.out.al _).al _) hqw; obtain ⟨⟨fe0, fe1, fe2, fe3, fe4, fe5⟩, hs5, hs6, HP3⟩ := fold_pack (bl_al HB9.out (.cells #[.int .u8 0, .int .i64 0, .int .i64 0] 33)) (zNew x9) HB9.out.size (World.size_alloc _ _).symm sl sg (HK9.out.al _) hqw; clear hb9)
        | (revert HZ8; intro HZ8; go_at_call 46; with_reducible refine (segWord_any sg 1 (x8.alloc (.cells #[.int .u8 0, .int .i64 0, .int .i64 0] 33))).mono ?_; rintro ee x9 ⟨rfl, hb9⟩; have HK9 := Lib.hid ((HK8.out.al _).below hb9); have HB9 := Lib.hid (bl_step (bl_al HB8.out _) hb9); obtain ⟨⟨fa0, fa1, fa2, fa3, fa4, fa5⟩, ⟨fb0, fb1, fb2, fb3, fb4, fb5⟩, ⟨fc0, fc1, fc2, fc3, fc4, fc5⟩, ⟨fd0, fd1, fd2, fd3, fd4, fd5⟩, hs1, hs2, hs3, hs4, HP1, HP2⟩ := two_pack HB9.out ((HZ8.out.al _).below hb9) ((zNew x8).below hb9) (Nat.ne_of_lt HZ8.out.lt) (Nat.le_refl _) HB8.out.size sl sg HK9.out hqw; clear hb9)
        | (go_at_call 46; with_reducible refine (segWord_any sg 1 (x8.alloc (.cells #[.int .u8 0, .int .i64 0, .int .i64 0] 33))).mono ?_; rintro ee x9 ⟨rfl, hb9⟩; have HK9 := Lib.hid ((HK8.out.al _).below hb9); have HB9 := Lib.hid (bl_step (bl_al HB8.out _) hb9); obtain ⟨⟨fa0, fa1, fa2, fa3, fa4, fa5⟩, ⟨fb0, fb1, fb2, fb3, fb4, fb5⟩, ⟨fc0, fc1, fc2, fc3, fc4, fc5⟩, ⟨fd0, fd1, fd2, fd3, fd4, fd5⟩, hs1, hs2, hs3, hs4, HP1, HP2⟩ := two_pack (bl_al HB9.out (.cells #[.int .u8 0, .int .i64 0, .int .i64 0] 33)) (((zNew x8).below hb9).al _) (zNew x9) (Nat.ne_of_lt ((zNew x8).below hb9).lt) HB8.out.size HB9.out.size sl sg (HK9.out.al _) hqw; obtain ⟨⟨fe0, fe1, fe2, fe3, fe4, fe5⟩, hs5, hs6, HP3⟩ := fold_pack HB9.out ((zNew x8).below hb9) HB8.out.size rfl sl sg HK9.out hqw; clear hb9)
        | (go_at_call 46; with_reducible refine (segWord_any sg 1 ((x8.alloc (.cells #[.int .u8 0, .int .i64 0, .int .i64 0] 33)).alloc (.cells #[.int .u8 0, .int .i64 0, .int .i64 0] 33))).mono ?_; rintro ee x9 ⟨rfl, hb9⟩; have HK9 := Lib.hid (((HK8.out.al _).al _).below hb9); have HB9 := Lib.hid (bl_step (bl_al (bl_al HB8.out _) _) hb9); obtain ⟨⟨fa0, fa1, fa2, fa3, fa4, fa5⟩, ⟨fb0, fb1, fb2, fb3, fb4, fb5⟩, ⟨fc0, fc1, fc2, fc3, fc4, fc5⟩, ⟨fd0, fd1, fd2, fd3, fd4, fd5⟩, hs1, hs2, hs3, hs4, HP1, HP2⟩ := two_pack HB9.out (((zNew x8).al _).below hb9) ((zNew1 x8 (.cells #[.int .u8 0, .int .i64 0, .int .i64 0] 33)).below hb9) (Nat.ne_of_lt (Nat.lt_succ_self _)) HB8.out.size (Nat.le_succ_of_le HB8.out.size) sl sg HK9.out hqw; clear hb9)
        | fail)
    all_goals (go_wp2_with fail)
    all_goals go_meet
    all_goals refine ⟨_, _, rfl, rfl, ?_⟩
    all_goals first | with_reducible exact HP1 | with_reducible exact HP2 | with_reducible exact HP3 | with_reducible exact (both_new HB9.out).1 | with_reducible exact (both_new HB9.out).2
  case rest =>
    obtain ⟨H, A, rfl, rfl, HD⟩ := hcut
    have HKc := Lib.hid (HK.out.below HD.out.low)
    have HFc := Lib.hid (HF.out.below HD.out.low)
    have HO := Lib.hid (Onl.of_below (p := p) (b := b) (E := [q]) HD.out.low)
    clear c0 c1 c2 c3 c4 c5
    obtain ⟨c0, c1, c2, c3, c4, c5, z⟩ := HKc.out.tc
    obtain ⟨⟨y0, y1, y2⟩, y3, y4, y5⟩ := tc_row HD.out
    have z4 := z 4
    clear z
    go_wp2_with fail
    ((with_reducible refine (load_P HFc.out hs h).mono ?_); rintro ee w3 ⟨rfl, F3, h3⟩)
    have HL := Lib.hid (Ln.load HKc.out F3 hne h3)
    clear F3 h3 c0 c1 c2 c3 c4 c5 z4 y0 y1 y2 y3 y4 y5
    obtain ⟨c0, c1, c2, c3, c4, c5, z⟩ := HL.out.k.tc
    have z4 := z 4
    clear z
    have HS := Lib.hid (HL.out.set hT hq 4 (.int .u64 (M.V (adP sg))) (cs' := TC 9 pt sg sl (M.V (adP sg)) en tl) rfl)
    go_wp2_with fail
    go_ret
    exact ⟨rfl, HS.out.k, HS.out.f, HO.out.trans HS.out.o⟩
set_option maxRecDepth 100000 in
set_option maxHeartbeats 8000000 in
theorem tD_no (_hq : 1 < q) (hT : T ≠ 121) (k : Bq q T (TC 10 pt sg sl ws en tl) w) (F : VX p b M w) (hs : M.s.st < 1000000) (h : 0 ≤ sg ∧ sg < 32) (h1 : 8 * sg ≤ sl) (h2 : sl < 8 * sg + 8) (hc : casV M.V (adP sg) ws = false) :
    Calls Tryz.prog 77 #[.pointer (some ⟨q, 0, none⟩), .pointer (some ⟨p, 0, none⟩)] w fun e w' => e = .returned (.int .i64 9) ∧ Ln p b q T (TC 10 pt sg sl ws en tl) (csM M (adP sg) ws (down64 ws)) w w' := by
  obtain ⟨c0, c1, c2, c3, c4, c5, z⟩ := k.tc
  have HK := Lib.hid k
  have HF := Lib.hid F
  have hne := F.ne hT k
  have hsl : 0 ≤ sl ∧ sl < 256 := by omega
  have HC := Lib.hid hc
  clear hc
  have HX := Lib.hid (And.intro h1 h2)
  clear k F z h2 h1
  go_enter Tryz.func77, Tryz.ntmps77
  go_upto_region 1 with (fail)
  go_cut [5, 6] (fun x5 x6 wx => ∃ H A, x5 = .pointer (some ⟨H, 0, none⟩) ∧ x6 = .pointer (some ⟨A, 0, none⟩) ∧ Hid (Hd w H A sl sg wx))
  case first =>
    have HKd := Lib.hid (HK.out.below (Below.refl _ w).drew)
    have HBd := Lib.hid (show Below w.heap.size w w.drew from (Below.refl _ w).drew)
    have HKe := Lib.hid ((HK.out.al (.cells #[.int .u8 0, .int .i64 0, .int .i64 0] 33)).below (Below.refl _ (w.alloc (.cells #[.int .u8 0, .int .i64 0, .int .i64 0] 33))).drew)
    have HKf := Lib.hid (((HK.out.al (.cells #[.int .u8 0, .int .i64 0, .int .i64 0] 33)).al (.cells #[.int .u8 0, .int .i64 0, .int .i64 0] 33)).below (Below.refl _ ((w.alloc (.cells #[.int .u8 0, .int .i64 0, .int .i64 0] 33)).alloc (.cells #[.int .u8 0, .int .i64 0, .int .i64 0] 33))).drew)
    have HBe := Lib.hid (bl_step (bl_al (Below.refl _ w) (.cells #[.int .u8 0, .int .i64 0, .int .i64 0] 33)) (Below.refl _ (w.alloc (.cells #[.int .u8 0, .int .i64 0, .int .i64 0] 33))).drew)
    have HBf := Lib.hid (bl_step (bl_al (bl_al (Below.refl _ w) (.cells #[.int .u8 0, .int .i64 0, .int .i64 0] 33)) (.cells #[.int .u8 0, .int .i64 0, .int .i64 0] 33)) (Below.refl _ ((w.alloc (.cells #[.int .u8 0, .int .i64 0, .int .i64 0] 33)).alloc (.cells #[.int .u8 0, .int .i64 0, .int .i64 0] 33))).drew)
    have HZe := Lib.hid ((zNew w).below (Below.refl _ (w.alloc (.cells #[.int .u8 0, .int .i64 0, .int .i64 0] 33))).drew)
    have HZf := Lib.hid (((zNew w).al (.cells #[.int .u8 0, .int .i64 0, .int .i64 0] 33)).below (Below.refl _ ((w.alloc (.cells #[.int .u8 0, .int .i64 0, .int .i64 0] 33)).alloc (.cells #[.int .u8 0, .int .i64 0, .int .i64 0] 33))).drew)
    have HYf := Lib.hid ((zNew1 w (.cells #[.int .u8 0, .int .i64 0, .int .i64 0] 33)).below (Below.refl _ ((w.alloc (.cells #[.int .u8 0, .int .i64 0, .int .i64 0] 33)).alloc (.cells #[.int .u8 0, .int .i64 0, .int .i64 0] 33))).drew)
    have hs0 := Lib.hid HKd.out.tc23
    have hqw := HK.out.lt
    clear c0 c1 c2 c3 c4 c5
    go_region_held3 (fun w9 => w9.cell? ⟨q, 2, none⟩ = some (.int .i64 sg) ∧ w9.cell? ⟨q, 3, none⟩ = some (.int .i64 sl))
      (first | with_reducible exact hs0.out | with_reducible exact hs1.out | with_reducible exact hs2.out | with_reducible exact hs3.out | with_reducible exact hs4.out | with_reducible exact hs5.out | with_reducible exact hs6.out | with_reducible exact HKe.out.tc23 | with_reducible exact HKf.out.tc23 | with_reducible exact HKd.out.tc23 | with_reducible exact (HKd.out.al _).tc23 | with_reducible exact ((HKd.out.al _).al _).tc23 | with_reducible exact HK8.out.tc23 | with_reducible exact (HK8.out.al _).tc23 | with_reducible exact ((HK8.out.al _).al _).tc23 | with_reducible exact HK9.out.tc23 | with_reducible exact (HK9.out.al _).tc23 | with_reducible exact ((HK9.out.al _).al _).tc23 | fail)
      (first
        | (go_at_call 48; with_reducible refine (segSlot_any sl 0 w.drew).mono ?_; rintro ee x8 ⟨rfl, hb8⟩; have HK8 := Lib.hid (HKd.out.below hb8); have HB8 := Lib.hid (bl_step HBd.out hb8); clear hb8)
        | (go_at_call 48; with_reducible refine (segSlot_any sl 0 (w.alloc (.cells #[.int .u8 0, .int .i64 0, .int .i64 0] 33)).drew).mono ?_; rintro ee x8 ⟨rfl, hb8⟩; have HK8 := Lib.hid (HKe.out.below hb8); have HZ8 := Lib.hid (HZe.out.below hb8); have HB8 := Lib.hid (bl_step HBe.out hb8); clear hb8)
        | (go_at_call 48; with_reducible refine (segSlot_any sl 0 ((w.alloc (.cells #[.int .u8 0, .int .i64 0, .int .i64 0] 33)).alloc (.cells #[.int .u8 0, .int .i64 0, .int .i64 0] 33)).drew).mono ?_; rintro ee x8 ⟨rfl, hb8⟩; have HK8 := Lib.hid (HKf.out.below hb8); have HZ8 := Lib.hid (HZf.out.below hb8); have HY8 := Lib.hid (HYf.out.below hb8); have HB8 := Lib.hid (bl_step HBf.out hb8); clear hb8)
        | (revert HY8; intro HY8; go_at_call 46; with_reducible refine (segWord_any sg 1 x8).mono ?_; rintro ee x9 ⟨rfl, hb9⟩; have HK9 := Lib.hid (HK8.out.below hb9); have HB9 := Lib.hid (bl_step HB8.out hb9); obtain ⟨⟨fa0, fa1, fa2, fa3, fa4, fa5⟩, ⟨fb0, fb1, fb2, fb3, fb4, fb5⟩, ⟨fc0, fc1, fc2, fc3, fc4, fc5⟩, ⟨fd0, fd1, fd2, fd3, fd4, fd5⟩, hs1, hs2, hs3, hs4, HP1, HP2⟩ := two_pack HB9.out (HZ8.out.below hb9) (HY8.out.below hb9) (Nat.ne_of_lt (Nat.lt_succ_self _)) (Nat.le_refl _) (Nat.le_succ _) sl sg HK9.out hqw; clear hb9)
        | (revert HZ8; intro HZ8; go_at_call 46; with_reducible refine (segWord_any sg 1 x8).mono ?_; rintro ee x9 ⟨rfl, hb9⟩; have HK9 := Lib.hid (HK8.out.below hb9); have HB9 := Lib.hid (bl_step HB8.out hb9); obtain ⟨⟨fa0, fa1, fa2, fa3, fa4, fa5⟩, ⟨fb0, fb1, fb2, fb3, fb4, fb5⟩, ⟨fc0, fc1, fc2, fc3, fc4, fc5⟩, ⟨fd0, fd1, fd2, fd3, fd4, fd5⟩, hs1, hs2, hs3, hs4, HP1, HP2⟩ := two_pack (bl_al HB9.out (.cells #[.int .u8 0, .int .i64 0, .int .i64 0] 33)) ((HZ8.out.below hb9).al _) (zNew x9) (Nat.ne_of_lt (HZ8.out.below hb9).lt) (Nat.le_refl _) HB9.out.size sl sg (HK9.out.al _) hqw; obtain ⟨⟨fe0, fe1, fe2, fe3, fe4, fe5⟩, hs5, hs6, HP3⟩ := fold_pack HB9.out (HZ8.out.below hb9) (Nat.le_refl _) rfl sl sg HK9.out hqw; clear hb9)
        | (go_at_call 46; with_reducible refine (segWord_any sg 1 x8).mono ?_; rintro ee x9 ⟨rfl, hb9⟩; have HK9 := Lib.hid (HK8.out.below hb9); have HB9 := Lib.hid (bl_step HB8.out hb9); obtain ⟨⟨fa0, fa1, fa2, fa3, fa4, fa5⟩, ⟨fb0, fb1, fb2, fb3, fb4, fb5⟩, ⟨fc0, fc1, fc2, fc3, fc4, fc5⟩, ⟨fd0, fd1, fd2, fd3, fd4, fd5⟩, hs1, hs2, hs3, hs4, HP1, HP2⟩ := two_pack (bl_al (bl_al HB9.out (.cells #[.int .u8 0, .int .i64 0, .int .i64 0] 33)) (.cells #[.int .u8 0, .int .i64 0, .int .i64 0] 33)) ((zNew x9).al _) (zNew1 x9 (.cells #[.int .u8 0, .int .i64 0, .int .i64 0] 33)) (Nat.ne_of_lt (Nat.lt_succ_self _)) HB9.out.size (Nat.le_succ_of_le HB9.out.size) sl sg ((HK9.out.al _).al _) hqw; obtain ⟨⟨fe0, fe1, fe2, fe3, fe4, fe5⟩, hs5, hs6, HP3⟩ := fold_pack (bl_al HB9.out (.cells #[.int .u8 0, .int .i64 0, .int .i64 0] 33)) (zNew x9) HB9.out.size (World.size_alloc _ _).symm sl sg (HK9.out.al _) hqw; clear hb9)
        | (revert HZ8; intro HZ8; go_at_call 46; with_reducible refine (segWord_any sg 1 (x8.alloc (.cells #[.int .u8 0, .int .i64 0, .int .i64 0] 33))).mono ?_; rintro ee x9 ⟨rfl, hb9⟩; have HK9 := Lib.hid ((HK8.out.al _).below hb9); have HB9 := Lib.hid (bl_step (bl_al HB8.out _) hb9); obtain ⟨⟨fa0, fa1, fa2, fa3, fa4, fa5⟩, ⟨fb0, fb1, fb2, fb3, fb4, fb5⟩, ⟨fc0, fc1, fc2, fc3, fc4, fc5⟩, ⟨fd0, fd1, fd2, fd3, fd4, fd5⟩, hs1, hs2, hs3, hs4, HP1, HP2⟩ := two_pack HB9.out ((HZ8.out.al _).below hb9) ((zNew x8).below hb9) (Nat.ne_of_lt HZ8.out.lt) (Nat.le_refl _) HB8.out.size sl sg HK9.out hqw; clear hb9)
        | (go_at_call 46; with_reducible refine (segWord_any sg 1 (x8.alloc (.cells #[.int .u8 0, .int .i64 0, .int .i64 0] 33))).mono ?_; rintro ee x9 ⟨rfl, hb9⟩; have HK9 := Lib.hid ((HK8.out.al _).below hb9); have HB9 := Lib.hid (bl_step (bl_al HB8.out _) hb9); obtain ⟨⟨fa0, fa1, fa2, fa3, fa4, fa5⟩, ⟨fb0, fb1, fb2, fb3, fb4, fb5⟩, ⟨fc0, fc1, fc2, fc3, fc4, fc5⟩, ⟨fd0, fd1, fd2, fd3, fd4, fd5⟩, hs1, hs2, hs3, hs4, HP1, HP2⟩ := two_pack (bl_al HB9.out (.cells #[.int .u8 0, .int .i64 0, .int .i64 0] 33)) (((zNew x8).below hb9).al _) (zNew x9) (Nat.ne_of_lt ((zNew x8).below hb9).lt) HB8.out.size HB9.out.size sl sg (HK9.out.al _) hqw; obtain ⟨⟨fe0, fe1, fe2, fe3, fe4, fe5⟩, hs5, hs6, HP3⟩ := fold_pack HB9.out ((zNew x8).below hb9) HB8.out.size rfl sl sg HK9.out hqw; clear hb9)
        | (go_at_call 46; with_reducible refine (segWord_any sg 1 ((x8.alloc (.cells #[.int .u8 0, .int .i64 0, .int .i64 0] 33)).alloc (.cells #[.int .u8 0, .int .i64 0, .int .i64 0] 33))).mono ?_; rintro ee x9 ⟨rfl, hb9⟩; have HK9 := Lib.hid (((HK8.out.al _).al _).below hb9); have HB9 := Lib.hid (bl_step (bl_al (bl_al HB8.out _) _) hb9); obtain ⟨⟨fa0, fa1, fa2, fa3, fa4, fa5⟩, ⟨fb0, fb1, fb2, fb3, fb4, fb5⟩, ⟨fc0, fc1, fc2, fc3, fc4, fc5⟩, ⟨fd0, fd1, fd2, fd3, fd4, fd5⟩, hs1, hs2, hs3, hs4, HP1, HP2⟩ := two_pack HB9.out (((zNew x8).al _).below hb9) ((zNew1 x8 (.cells #[.int .u8 0, .int .i64 0, .int .i64 0] 33)).below hb9) (Nat.ne_of_lt (Nat.lt_succ_self _)) HB8.out.size (Nat.le_succ_of_le HB8.out.size) sl sg HK9.out hqw; clear hb9)
        | fail)
    all_goals (go_wp2_with fail)
    all_goals go_meet
    all_goals refine ⟨_, _, rfl, rfl, ?_⟩
    all_goals first | with_reducible exact HP1 | with_reducible exact HP2 | with_reducible exact HP3 | with_reducible exact (both_new HB9.out).1 | with_reducible exact (both_new HB9.out).2
  case rest =>
    obtain ⟨H, A, rfl, rfl, HD⟩ := hcut
    have HKc := Lib.hid (HK.out.below HD.out.low)
    have HFc := Lib.hid (HF.out.below HD.out.low)
    have HO := Lib.hid (Onl.of_below (p := p) (b := b) (E := [q]) HD.out.low)
    clear c0 c1 c2 c3 c4 c5
    obtain ⟨c0, c1, c2, c3, c4, c5, z⟩ := HKc.out.tc
    obtain ⟨⟨y0, y1, y2⟩, y3, y4, y5⟩ := tc_row HD.out
    have z4 := z 4
    clear z
    go_wp2_with fail
    have HBd := Lib.hid (show Below wc.heap.size wc wc.drew from (Below.refl _ _).drew)
    have HKd := Lib.hid (HKc.out.below HBd.out)
    have HFd := Lib.hid (HFc.out.below HBd.out)
    have HOd := Lib.hid (HO.out.trans (Onl.of_below HBd.out))
    have HAd := Lib.hid (HD.out.a.below HBd.out)
    have hs0 := Lib.hid (s5_of HAd.out HKd.out)
    have hv := down_u64 ws
    have e8 := down_wrap ws
    have e9 := down_wrap' ws
    clear c0 c1 c2 c3 c4 c5 z4 y0 y1 y2 y3 y4 y5
    go_region_held3 (fun w9 => w9.cell? ⟨A, 0, none⟩ = some (.int .u8 6) ∧ w9.cell? ⟨A, 1, none⟩ = some (.int .i64 sg) ∧ w9.cell? ⟨A, 2, none⟩ = some (.int .i64 1) ∧ w9.cell? ⟨q, 4, none⟩ = some (.int .u64 ws))
      (first | with_reducible exact hs0.out | with_reducible exact hs9.out | fail)
      (first
        | (go_at_call 108; with_reducible refine (cas_Pc HFd.out hs h (down64 ws) hv HC.out).mono ?_; rintro ee x9 ⟨rfl, F9, h9⟩; have HL := Lib.hid (Ln.load HKd.out F9 hne h9); have hs9 := Lib.hid (s5_of (HAd.out.same (h9.block _ HAd.out.lt (HFd.out.ne (by decide) HAd.out).1 (HFd.out.ne (by decide) HAd.out).2)) HL.out.k); clear F9 h9)
        | fail)
    clear e8 e9
    obtain ⟨c0, c1, c2, c3, c4, c5, z⟩ := HL.out.k.tc
    clear z
    go_wp2_with fail
    go_ret
    exact ⟨rfl, HL.out.k, HL.out.f, HOd.out.trans HL.out.o⟩
set_option maxRecDepth 100000 in
set_option maxHeartbeats 8000000 in
theorem tD_yes (hq : 1 < q) (hT : T ≠ 121) (k : Bq q T (TC 10 pt sg sl ws en tl) w) (F : VX p b M w) (hs : M.s.st < 1000000) (h : 0 ≤ sg ∧ sg < 32) (h1 : 8 * sg ≤ sl) (h2 : sl < 8 * sg + 8) (hc : casV M.V (adP sg) ws = true) :
    Calls Tryz.prog 77 #[.pointer (some ⟨q, 0, none⟩), .pointer (some ⟨p, 0, none⟩)] w fun e w' => e = .returned (.int .i64 11) ∧ ∃ r, w.heap.size ≤ r ∧ Bq r 198 [.int .i64 1, .int .u64 0, .int .i64 sl] w' ∧ Ln p b q T (TC 10 (.iface 152 (.pointer (some ⟨r, 0, none⟩))) sg sl ws en tl) (csM M (adP sg) ws (down64 ws)) w w' := by
  obtain ⟨c0, c1, c2, c3, c4, c5, z⟩ := k.tc
  have HK := Lib.hid k
  have HF := Lib.hid F
  have hne := F.ne hT k
  have hsl : 0 ≤ sl ∧ sl < 256 := by omega
  have HC := Lib.hid hc
  clear hc
  have HX := Lib.hid (And.intro h1 h2)
  clear k F z h2 h1
  go_enter Tryz.func77, Tryz.ntmps77
  go_upto_region 1 with (fail)
  go_cut [5, 6] (fun x5 x6 wx => ∃ H A, x5 = .pointer (some ⟨H, 0, none⟩) ∧ x6 = .pointer (some ⟨A, 0, none⟩) ∧ Hid (Hd w H A sl sg wx))
  case first =>
    have HKd := Lib.hid (HK.out.below (Below.refl _ w).drew)
    have HBd := Lib.hid (show Below w.heap.size w w.drew from (Below.refl _ w).drew)
    have HKe := Lib.hid ((HK.out.al (.cells #[.int .u8 0, .int .i64 0, .int .i64 0] 33)).below (Below.refl _ (w.alloc (.cells #[.int .u8 0, .int .i64 0, .int .i64 0] 33))).drew)
    have HKf := Lib.hid (((HK.out.al (.cells #[.int .u8 0, .int .i64 0, .int .i64 0] 33)).al (.cells #[.int .u8 0, .int .i64 0, .int .i64 0] 33)).below (Below.refl _ ((w.alloc (.cells #[.int .u8 0, .int .i64 0, .int .i64 0] 33)).alloc (.cells #[.int .u8 0, .int .i64 0, .int .i64 0] 33))).drew)
    have HBe := Lib.hid (bl_step (bl_al (Below.refl _ w) (.cells #[.int .u8 0, .int .i64 0, .int .i64 0] 33)) (Below.refl _ (w.alloc (.cells #[.int .u8 0, .int .i64 0, .int .i64 0] 33))).drew)
    have HBf := Lib.hid (bl_step (bl_al (bl_al (Below.refl _ w) (.cells #[.int .u8 0, .int .i64 0, .int .i64 0] 33)) (.cells #[.int .u8 0, .int .i64 0, .int .i64 0] 33)) (Below.refl _ ((w.alloc (.cells #[.int .u8 0, .int .i64 0, .int .i64 0] 33)).alloc (.cells #[.int .u8 0, .int .i64 0, .int .i64 0] 33))).drew)
    have HZe := Lib.hid ((zNew w).below (Below.refl _ (w.alloc (.cells #[.int .u8 0, .int .i64 0, .int .i64 0] 33))).drew)
    have HZf := Lib.hid (((zNew w).al (.cells #[.int .u8 0, .int .i64 0, .int .i64 0] 33)).below (Below.refl _ ((w.alloc (.cells #[.int .u8 0, .int .i64 0, .int .i64 0] 33)).alloc (.cells #[.int .u8 0, .int .i64 0, .int .i64 0] 33))).drew)
    have HYf := Lib.hid ((zNew1 w (.cells #[.int .u8 0, .int .i64 0, .int .i64 0] 33)).below (Below.refl _ ((w.alloc (.cells #[.int .u8 0, .int .i64 0, .int .i64 0] 33)).alloc (.cells #[.int .u8 0, .int .i64 0, .int .i64 0] 33))).drew)
    have hs0 := Lib.hid HKd.out.tc23
    have hqw := HK.out.lt
    clear c0 c1 c2 c3 c4 c5
    go_region_held3 (fun w9 => w9.cell? ⟨q, 2, none⟩ = some (.int .i64 sg) ∧ w9.cell? ⟨q, 3, none⟩ = some (.int .i64 sl))
      (first | with_reducible exact hs0.out | with_reducible exact hs1.out | with_reducible exact hs2.out | with_reducible exact hs3.out | with_reducible exact hs4.out | with_reducible exact hs5.out | with_reducible exact hs6.out | with_reducible exact HKe.out.tc23 | with_reducible exact HKf.out.tc23 | with_reducible exact HKd.out.tc23 | with_reducible exact (HKd.out.al _).tc23 | with_reducible exact ((HKd.out.al _).al _).tc23 | with_reducible exact HK8.out.tc23 | with_reducible exact (HK8.out.al _).tc23 | with_reducible exact ((HK8.out.al _).al _).tc23 | with_reducible exact HK9.out.tc23 | with_reducible exact (HK9.out.al _).tc23 | with_reducible exact ((HK9.out.al _).al _).tc23 | fail)
      (first
        | (go_at_call 48; with_reducible refine (segSlot_any sl 0 w.drew).mono ?_; rintro ee x8 ⟨rfl, hb8⟩; have HK8 := Lib.hid (HKd.out.below hb8); have HB8 := Lib.hid (bl_step HBd.out hb8); clear hb8)
        | (go_at_call 48; with_reducible refine (segSlot_any sl 0 (w.alloc (.cells #[.int .u8 0, .int .i64 0, .int .i64 0] 33)).drew).mono ?_; rintro ee x8 ⟨rfl, hb8⟩; have HK8 := Lib.hid (HKe.out.below hb8); have HZ8 := Lib.hid (HZe.out.below hb8); have HB8 := Lib.hid (bl_step HBe.out hb8); clear hb8)
        | (go_at_call 48; with_reducible refine (segSlot_any sl 0 ((w.alloc (.cells #[.int .u8 0, .int .i64 0, .int .i64 0] 33)).alloc (.cells #[.int .u8 0, .int .i64 0, .int .i64 0] 33)).drew).mono ?_; rintro ee x8 ⟨rfl, hb8⟩; have HK8 := Lib.hid (HKf.out.below hb8); have HZ8 := Lib.hid (HZf.out.below hb8); have HY8 := Lib.hid (HYf.out.below hb8); have HB8 := Lib.hid (bl_step HBf.out hb8); clear hb8)
        | (revert HY8; intro HY8; go_at_call 46; with_reducible refine (segWord_any sg 1 x8).mono ?_; rintro ee x9 ⟨rfl, hb9⟩; have HK9 := Lib.hid (HK8.out.below hb9); have HB9 := Lib.hid (bl_step HB8.out hb9); obtain ⟨⟨fa0, fa1, fa2, fa3, fa4, fa5⟩, ⟨fb0, fb1, fb2, fb3, fb4, fb5⟩, ⟨fc0, fc1, fc2, fc3, fc4, fc5⟩, ⟨fd0, fd1, fd2, fd3, fd4, fd5⟩, hs1, hs2, hs3, hs4, HP1, HP2⟩ := two_pack HB9.out (HZ8.out.below hb9) (HY8.out.below hb9) (Nat.ne_of_lt (Nat.lt_succ_self _)) (Nat.le_refl _) (Nat.le_succ _) sl sg HK9.out hqw; clear hb9)
        | (revert HZ8; intro HZ8; go_at_call 46; with_reducible refine (segWord_any sg 1 x8).mono ?_; rintro ee x9 ⟨rfl, hb9⟩; have HK9 := Lib.hid (HK8.out.below hb9); have HB9 := Lib.hid (bl_step HB8.out hb9); obtain ⟨⟨fa0, fa1, fa2, fa3, fa4, fa5⟩, ⟨fb0, fb1, fb2, fb3, fb4, fb5⟩, ⟨fc0, fc1, fc2, fc3, fc4, fc5⟩, ⟨fd0, fd1, fd2, fd3, fd4, fd5⟩, hs1, hs2, hs3, hs4, HP1, HP2⟩ := two_pack (bl_al HB9.out (.cells #[.int .u8 0, .int .i64 0, .int .i64 0] 33)) ((HZ8.out.below hb9).al _) (zNew x9) (Nat.ne_of_lt (HZ8.out.below hb9).lt) (Nat.le_refl _) HB9.out.size sl sg (HK9.out.al _) hqw; obtain ⟨⟨fe0, fe1, fe2, fe3, fe4, fe5⟩, hs5, hs6, HP3⟩ := fold_pack HB9.out (HZ8.out.below hb9) (Nat.le_refl _) rfl sl sg HK9.out hqw; clear hb9)
        | (go_at_call 46; with_reducible refine (segWord_any sg 1 x8).mono ?_; rintro ee x9 ⟨rfl, hb9⟩; have HK9 := Lib.hid (HK8.out.below hb9); have HB9 := Lib.hid (bl_step HB8.out hb9); obtain ⟨⟨fa0, fa1, fa2, fa3, fa4, fa5⟩, ⟨fb0, fb1, fb2, fb3, fb4, fb5⟩, ⟨fc0, fc1, fc2, fc3, fc4, fc5⟩, ⟨fd0, fd1, fd2, fd3, fd4, fd5⟩, hs1, hs2, hs3, hs4, HP1, HP2⟩ := two_pack (bl_al (bl_al HB9.out (.cells #[.int .u8 0, .int .i64 0, .int .i64 0] 33)) (.cells #[.int .u8 0, .int .i64 0, .int .i64 0] 33)) ((zNew x9).al _) (zNew1 x9 (.cells #[.int .u8 0, .int .i64 0, .int .i64 0] 33)) (Nat.ne_of_lt (Nat.lt_succ_self _)) HB9.out.size (Nat.le_succ_of_le HB9.out.size) sl sg ((HK9.out.al _).al _) hqw; obtain ⟨⟨fe0, fe1, fe2, fe3, fe4, fe5⟩, hs5, hs6, HP3⟩ := fold_pack (bl_al HB9.out (.cells #[.int .u8 0, .int .i64 0, .int .i64 0] 33)) (zNew x9) HB9.out.size (World.size_alloc _ _).symm sl sg (HK9.out.al _) hqw; clear hb9)
        | (revert HZ8; intro HZ8; go_at_call 46; with_reducible refine (segWord_any sg 1 (x8.alloc (.cells #[.int .u8 0, .int .i64 0, .int .i64 0] 33))).mono ?_; rintro ee x9 ⟨rfl, hb9⟩; have HK9 := Lib.hid ((HK8.out.al _).below hb9); have HB9 := Lib.hid (bl_step (bl_al HB8.out _) hb9); obtain ⟨⟨fa0, fa1, fa2, fa3, fa4, fa5⟩, ⟨fb0, fb1, fb2, fb3, fb4, fb5⟩, ⟨fc0, fc1, fc2, fc3, fc4, fc5⟩, ⟨fd0, fd1, fd2, fd3, fd4, fd5⟩, hs1, hs2, hs3, hs4, HP1, HP2⟩ := two_pack HB9.out ((HZ8.out.al _).below hb9) ((zNew x8).below hb9) (Nat.ne_of_lt HZ8.out.lt) (Nat.le_refl _) HB8.out.size sl sg HK9.out hqw; clear hb9)
        | (go_at_call 46; with_reducible refine (segWord_any sg 1 (x8.alloc (.cells #[.int .u8 0, .int .i64 0, .int .i64 0] 33))).mono ?_; rintro ee x9 ⟨rfl, hb9⟩; have HK9 := Lib.hid ((HK8.out.al _).below hb9); have HB9 := Lib.hid (bl_step (bl_al HB8.out _) hb9); obtain ⟨⟨fa0, fa1, fa2, fa3, fa4, fa5⟩, ⟨fb0, fb1, fb2, fb3, fb4, fb5⟩, ⟨fc0, fc1, fc2, fc3, fc4, fc5⟩, ⟨fd0, fd1, fd2, fd3, fd4, fd5⟩, hs1, hs2, hs3, hs4, HP1, HP2⟩ := two_pack (bl_al HB9.out (.cells #[.int .u8 0, .int .i64 0, .int .i64 0] 33)) (((zNew x8).below hb9).al _) (zNew x9) (Nat.ne_of_lt ((zNew x8).below hb9).lt) HB8.out.size HB9.out.size sl sg (HK9.out.al _) hqw; obtain ⟨⟨fe0, fe1, fe2, fe3, fe4, fe5⟩, hs5, hs6, HP3⟩ := fold_pack HB9.out ((zNew x8).below hb9) HB8.out.size rfl sl sg HK9.out hqw; clear hb9)
        | (go_at_call 46; with_reducible refine (segWord_any sg 1 ((x8.alloc (.cells #[.int .u8 0, .int .i64 0, .int .i64 0] 33)).alloc (.cells #[.int .u8 0, .int .i64 0, .int .i64 0] 33))).mono ?_; rintro ee x9 ⟨rfl, hb9⟩; have HK9 := Lib.hid (((HK8.out.al _).al _).below hb9); have HB9 := Lib.hid (bl_step (bl_al (bl_al HB8.out _) _) hb9); obtain ⟨⟨fa0, fa1, fa2, fa3, fa4, fa5⟩, ⟨fb0, fb1, fb2, fb3, fb4, fb5⟩, ⟨fc0, fc1, fc2, fc3, fc4, fc5⟩, ⟨fd0, fd1, fd2, fd3, fd4, fd5⟩, hs1, hs2, hs3, hs4, HP1, HP2⟩ := two_pack HB9.out (((zNew x8).al _).below hb9) ((zNew1 x8 (.cells #[.int .u8 0, .int .i64 0, .int .i64 0] 33)).below hb9) (Nat.ne_of_lt (Nat.lt_succ_self _)) HB8.out.size (Nat.le_succ_of_le HB8.out.size) sl sg HK9.out hqw; clear hb9)
        | fail)
    all_goals (go_wp2_with fail)
    all_goals go_meet
    all_goals refine ⟨_, _, rfl, rfl, ?_⟩
    all_goals first | with_reducible exact HP1 | with_reducible exact HP2 | with_reducible exact HP3 | with_reducible exact (both_new HB9.out).1 | with_reducible exact (both_new HB9.out).2
  case rest =>
    obtain ⟨H, A, rfl, rfl, HD⟩ := hcut
    have HKc := Lib.hid (HK.out.below HD.out.low)
    have HFc := Lib.hid (HF.out.below HD.out.low)
    have HO := Lib.hid (Onl.of_below (p := p) (b := b) (E := [q]) HD.out.low)
    clear c0 c1 c2 c3 c4 c5
    obtain ⟨c0, c1, c2, c3, c4, c5, z⟩ := HKc.out.tc
    obtain ⟨⟨y0, y1, y2⟩, y3, y4, y5⟩ := tc_row HD.out
    have z4 := z 4
    clear z
    go_wp2_with fail
    have HBd := Lib.hid (show Below wc.heap.size wc wc.drew from (Below.refl _ _).drew)
    have HKd := Lib.hid (HKc.out.below HBd.out)
    have HFd := Lib.hid (HFc.out.below HBd.out)
    have HOd := Lib.hid (HO.out.trans (Onl.of_below HBd.out))
    have HAd := Lib.hid (HD.out.a.below HBd.out)
    have hs0 := Lib.hid (s5_of HAd.out HKd.out)
    have hv := down_u64 ws
    have e8 := down_wrap ws
    have e9 := down_wrap' ws
    clear c0 c1 c2 c3 c4 c5 z4 y0 y1 y2 y3 y4 y5
    go_region_held3 (fun w9 => w9.cell? ⟨A, 0, none⟩ = some (.int .u8 6) ∧ w9.cell? ⟨A, 1, none⟩ = some (.int .i64 sg) ∧ w9.cell? ⟨A, 2, none⟩ = some (.int .i64 1) ∧ w9.cell? ⟨q, 4, none⟩ = some (.int .u64 ws))
      (first | with_reducible exact hs0.out | with_reducible exact hs9.out | fail)
      (first
        | (go_at_call 108; with_reducible refine (cas_Pc HFd.out hs h (down64 ws) hv HC.out).mono ?_; rintro ee x9 ⟨rfl, F9, h9⟩; have HL := Lib.hid (Ln.load HKd.out F9 hne h9); have hs9 := Lib.hid (s5_of (HAd.out.same (h9.block _ HAd.out.lt (HFd.out.ne (by decide) HAd.out).1 (HFd.out.ne (by decide) HAd.out).2)) HL.out.k); clear F9 h9)
        | fail)
    clear e8 e9
    obtain ⟨c0, c1, c2, c3, c4, c5, z⟩ := HL.out.k.tc
    clear z
    go_wp2_with fail
    ((with_reducible refine (newPush_any sl hsl.1 hsl.2 _).mono ?_); rintro ee w4 ⟨rfl, hop, hb4, _⟩)
    have HR := Lib.hid hop.bq
    have HL4 := Lib.hid (HL.out.below hb4)
    have hw3 : w.heap.size ≤ x9.heap.size := Nat.le_trans HOd.out.size HL.out.o.size
    have hq3 : q < x9.heap.size := HL.out.k.lt
    clear hop hb4 c0 c1 c2 c3 c4 c5
    obtain ⟨c0, c1, c2, c3, c4, c5, z⟩ := HL4.out.k.tc
    have z1 := z 1
    clear z
    have HS := Lib.hid (HL4.out.set hT hq 1 (.iface 152 (.pointer (some ⟨x9.heap.size, 0, none⟩))) (cs' := TC 10 (.iface 152 (.pointer (some ⟨x9.heap.size, 0, none⟩))) sg sl ws en tl) rfl)
    go_wp2_with fail
    go_ret
    exact ⟨rfl, x9.heap.size, hw3, HR.out.setO (by omega) 1 _, HS.out.k, HS.out.f, HOd.out.trans HS.out.o⟩
set_option maxRecDepth 100000 in
set_option maxHeartbeats 8000000 in
theorem tE (hq : 1 < q) (hT : T ≠ 121) (k : Bq q T (TC 11 pt sg sl ws en tl) w) (F : VX p b M w) (hs : M.s.st < 1000000) (h : 0 ≤ sg ∧ sg < 32) (h1 : 8 * sg ≤ sl) (h2 : sl < 8 * sg + 8) (hpt : pt = .iface 152 (.pointer (some ⟨r, 0, none⟩))) (hr : 1 < r) (hqr : q ≠ r) (kr : Bq r 198 [.int .i64 o.nx, .int .u64 o.h, .int .i64 o.to] w) (hh : U64 o.h) (hnx : 0 ≤ o.nx ∧ o.nx ≤ 3) (hto : o.nx = 2 → I64w o.to) :
    Calls Tryz.prog 77 #[.pointer (some ⟨q, 0, none⟩), .pointer (some ⟨p, 0, none⟩)] w fun e w' => ((pushX o M).1.nx = 0 → e = .returned (.int .i64 (fwd sg sl)) ∧ Bq q T (TC 11 pt sg (sl + 1) ws en tl) w' ∧ VX p b (pushX o M).2 w' ∧ Onl p b [q, r] w w') ∧ ((pushX o M).1.nx ≠ 0 → e = .returned (.int .i64 11) ∧ Bq q T (TC 11 pt sg sl ws en tl) w' ∧ Bq r 198 [.int .i64 (pushX o M).1.nx, .int .u64 (pushX o M).1.h, .int .i64 (pushX o M).1.to] w' ∧ VX p b (pushX o M).2 w' ∧ Onl p b [q, r] w w') := by
  obtain ⟨c0, c1, c2, c3, c4, c5, z⟩ := k.tc
  have HK := Lib.hid k
  have HF := Lib.hid F
  have hne := F.ne hT k
  have hsl : 0 ≤ sl ∧ sl < 256 := by omega
  obtain ⟨tP, htP⟩ : ∃ t : TypeId, t = 152 := ⟨_, rfl⟩
  obtain ⟨fP, hfP⟩ : ∃ f : FuncId, f = 83 := ⟨_, rfl⟩
  have hm : ∀ X, (method (409) tP (.pointer (some ⟨r, 0, none⟩)) "Step").run Tryz.prog X = .ok (fP, .pointer (some ⟨r, 0, none⟩)) X := by rw [htP, hfP]; exact mt_Push r
  have he : ∀ args X, (callFunc fP args).run Tryz.prog X = .ok (.enter fP args) X := by rw [hfP]; exact Tryz.call83
  rw [← htP] at hpt
  subst hpt
  have HFP := Lib.hid hfP
  have HR := Lib.hid kr
  have HTO := Lib.hid hto
  clear kr hto htP hfP
  have HX := Lib.hid (And.intro h1 h2)
  clear k F z h2 h1
  go_enter Tryz.func77, Tryz.ntmps77
  go_upto_region 1 with (fail)
  go_cut [5, 6] (fun x5 x6 wx => ∃ H A, x5 = .pointer (some ⟨H, 0, none⟩) ∧ x6 = .pointer (some ⟨A, 0, none⟩) ∧ Hid (Hd w H A sl sg wx))
  case first =>
    have HKd := Lib.hid (HK.out.below (Below.refl _ w).drew)
    have HBd := Lib.hid (show Below w.heap.size w w.drew from (Below.refl _ w).drew)
    have HKe := Lib.hid ((HK.out.al (.cells #[.int .u8 0, .int .i64 0, .int .i64 0] 33)).below (Below.refl _ (w.alloc (.cells #[.int .u8 0, .int .i64 0, .int .i64 0] 33))).drew)
    have HKf := Lib.hid (((HK.out.al (.cells #[.int .u8 0, .int .i64 0, .int .i64 0] 33)).al (.cells #[.int .u8 0, .int .i64 0, .int .i64 0] 33)).below (Below.refl _ ((w.alloc (.cells #[.int .u8 0, .int .i64 0, .int .i64 0] 33)).alloc (.cells #[.int .u8 0, .int .i64 0, .int .i64 0] 33))).drew)
    have HBe := Lib.hid (bl_step (bl_al (Below.refl _ w) (.cells #[.int .u8 0, .int .i64 0, .int .i64 0] 33)) (Below.refl _ (w.alloc (.cells #[.int .u8 0, .int .i64 0, .int .i64 0] 33))).drew)
    have HBf := Lib.hid (bl_step (bl_al (bl_al (Below.refl _ w) (.cells #[.int .u8 0, .int .i64 0, .int .i64 0] 33)) (.cells #[.int .u8 0, .int .i64 0, .int .i64 0] 33)) (Below.refl _ ((w.alloc (.cells #[.int .u8 0, .int .i64 0, .int .i64 0] 33)).alloc (.cells #[.int .u8 0, .int .i64 0, .int .i64 0] 33))).drew)
    have HZe := Lib.hid ((zNew w).below (Below.refl _ (w.alloc (.cells #[.int .u8 0, .int .i64 0, .int .i64 0] 33))).drew)
    have HZf := Lib.hid (((zNew w).al (.cells #[.int .u8 0, .int .i64 0, .int .i64 0] 33)).below (Below.refl _ ((w.alloc (.cells #[.int .u8 0, .int .i64 0, .int .i64 0] 33)).alloc (.cells #[.int .u8 0, .int .i64 0, .int .i64 0] 33))).drew)
    have HYf := Lib.hid ((zNew1 w (.cells #[.int .u8 0, .int .i64 0, .int .i64 0] 33)).below (Below.refl _ ((w.alloc (.cells #[.int .u8 0, .int .i64 0, .int .i64 0] 33)).alloc (.cells #[.int .u8 0, .int .i64 0, .int .i64 0] 33))).drew)
    have hs0 := Lib.hid HKd.out.tc23
    have hqw := HK.out.lt
    clear c0 c1 c2 c3 c4 c5
    go_region_held3 (fun w9 => w9.cell? ⟨q, 2, none⟩ = some (.int .i64 sg) ∧ w9.cell? ⟨q, 3, none⟩ = some (.int .i64 sl))
      (first | with_reducible exact hs0.out | with_reducible exact hs1.out | with_reducible exact hs2.out | with_reducible exact hs3.out | with_reducible exact hs4.out | with_reducible exact hs5.out | with_reducible exact hs6.out | with_reducible exact HKe.out.tc23 | with_reducible exact HKf.out.tc23 | with_reducible exact HKd.out.tc23 | with_reducible exact (HKd.out.al _).tc23 | with_reducible exact ((HKd.out.al _).al _).tc23 | with_reducible exact HK8.out.tc23 | with_reducible exact (HK8.out.al _).tc23 | with_reducible exact ((HK8.out.al _).al _).tc23 | with_reducible exact HK9.out.tc23 | with_reducible exact (HK9.out.al _).tc23 | with_reducible exact ((HK9.out.al _).al _).tc23 | fail)
      (first
        | (go_at_call 48; with_reducible refine (segSlot_any sl 0 w.drew).mono ?_; rintro ee x8 ⟨rfl, hb8⟩; have HK8 := Lib.hid (HKd.out.below hb8); have HB8 := Lib.hid (bl_step HBd.out hb8); clear hb8)
        | (go_at_call 48; with_reducible refine (segSlot_any sl 0 (w.alloc (.cells #[.int .u8 0, .int .i64 0, .int .i64 0] 33)).drew).mono ?_; rintro ee x8 ⟨rfl, hb8⟩; have HK8 := Lib.hid (HKe.out.below hb8); have HZ8 := Lib.hid (HZe.out.below hb8); have HB8 := Lib.hid (bl_step HBe.out hb8); clear hb8)
        | (go_at_call 48; with_reducible refine (segSlot_any sl 0 ((w.alloc (.cells #[.int .u8 0, .int .i64 0, .int .i64 0] 33)).alloc (.cells #[.int .u8 0, .int .i64 0, .int .i64 0] 33)).drew).mono ?_; rintro ee x8 ⟨rfl, hb8⟩; have HK8 := Lib.hid (HKf.out.below hb8); have HZ8 := Lib.hid (HZf.out.below hb8); have HY8 := Lib.hid (HYf.out.below hb8); have HB8 := Lib.hid (bl_step HBf.out hb8); clear hb8)
        | (revert HY8; intro HY8; go_at_call 46; with_reducible refine (segWord_any sg 1 x8).mono ?_; rintro ee x9 ⟨rfl, hb9⟩; have HK9 := Lib.hid (HK8.out.below hb9); have HB9 := Lib.hid (bl_step HB8.out hb9); obtain ⟨⟨fa0, fa1, fa2, fa3, fa4, fa5⟩, ⟨fb0, fb1, fb2, fb3, fb4, fb5⟩, ⟨fc0, fc1, fc2, fc3, fc4, fc5⟩, ⟨fd0, fd1, fd2, fd3, fd4, fd5⟩, hs1, hs2, hs3, hs4, HP1, HP2⟩ := two_pack HB9.out (HZ8.out.below hb9) (HY8.out.below hb9) (Nat.ne_of_lt (Nat.lt_succ_self _)) (Nat.le_refl _) (Nat.le_succ _) sl sg HK9.out hqw; clear hb9)
        | (revert HZ8; intro HZ8; go_at_call 46; with_reducible refine (segWord_any sg 1 x8).mono ?_; rintro ee x9 ⟨rfl, hb9⟩; have HK9 := Lib.hid (HK8.out.below hb9); have HB9 := Lib.hid (bl_step HB8.out hb9); obtain ⟨⟨fa0, fa1, fa2, fa3, fa4, fa5⟩, ⟨fb0, fb1, fb2, fb3, fb4, fb5⟩, ⟨fc0, fc1, fc2, fc3, fc4, fc5⟩, ⟨fd0, fd1, fd2, fd3, fd4, fd5⟩, hs1, hs2, hs3, hs4, HP1, HP2⟩ := two_pack (bl_al HB9.out (.cells #[.int .u8 0, .int .i64 0, .int .i64 0] 33)) ((HZ8.out.below hb9).al _) (zNew x9) (Nat.ne_of_lt (HZ8.out.below hb9).lt) (Nat.le_refl _) HB9.out.size sl sg (HK9.out.al _) hqw; obtain ⟨⟨fe0, fe1, fe2, fe3, fe4, fe5⟩, hs5, hs6, HP3⟩ := fold_pack HB9.out (HZ8.out.below hb9) (Nat.le_refl _) rfl sl sg HK9.out hqw; clear hb9)
        | (go_at_call 46; with_reducible refine (segWord_any sg 1 x8).mono ?_; rintro ee x9 ⟨rfl, hb9⟩; have HK9 := Lib.hid (HK8.out.below hb9); have HB9 := Lib.hid (bl_step HB8.out hb9); obtain ⟨⟨fa0, fa1, fa2, fa3, fa4, fa5⟩, ⟨fb0, fb1, fb2, fb3, fb4, fb5⟩, ⟨fc0, fc1, fc2, fc3, fc4, fc5⟩, ⟨fd0, fd1, fd2, fd3, fd4, fd5⟩, hs1, hs2, hs3, hs4, HP1, HP2⟩ := two_pack (bl_al (bl_al HB9.out (.cells #[.int .u8 0, .int .i64 0, .int .i64 0] 33)) (.cells #[.int .u8 0, .int .i64 0, .int .i64 0] 33)) ((zNew x9).al _) (zNew1 x9 (.cells #[.int .u8 0, .int .i64 0, .int .i64 0] 33)) (Nat.ne_of_lt (Nat.lt_succ_self _)) HB9.out.size (Nat.le_succ_of_le HB9.out.size) sl sg ((HK9.out.al _).al _) hqw; obtain ⟨⟨fe0, fe1, fe2, fe3, fe4, fe5⟩, hs5, hs6, HP3⟩ := fold_pack (bl_al HB9.out (.cells #[.int .u8 0, .int .i64 0, .int .i64 0] 33)) (zNew x9) HB9.out.size (World.size_alloc _ _).symm sl sg (HK9.out.al _) hqw; clear hb9)
        | (revert HZ8; intro HZ8; go_at_call 46; with_reducible refine (segWord_any sg 1 (x8.alloc (.cells #[.int .u8 0, .int .i64 0, .int .i64 0] 33))).mono ?_; rintro ee x9 ⟨rfl, hb9⟩; have HK9 := Lib.hid ((HK8.out.al _).below hb9); have HB9 := Lib.hid (bl_step (bl_al HB8.out _) hb9); obtain ⟨⟨fa0, fa1, fa2, fa3, fa4, fa5⟩, ⟨fb0, fb1, fb2, fb3, fb4, fb5⟩, ⟨fc0, fc1, fc2, fc3, fc4, fc5⟩, ⟨fd0, fd1, fd2, fd3, fd4, fd5⟩, hs1, hs2, hs3, hs4, HP1, HP2⟩ := two_pack HB9.out ((HZ8.out.al _).below hb9) ((zNew x8).below hb9) (Nat.ne_of_lt HZ8.out.lt) (Nat.le_refl _) HB8.out.size sl sg HK9.out hqw; clear hb9)
        | (go_at_call 46; with_reducible refine (segWord_any sg 1 (x8.alloc (.cells #[.int .u8 0, .int .i64 0, .int .i64 0] 33))).mono ?_; rintro ee x9 ⟨rfl, hb9⟩; have HK9 := Lib.hid ((HK8.out.al _).below hb9); have HB9 := Lib.hid (bl_step (bl_al HB8.out _) hb9); obtain ⟨⟨fa0, fa1, fa2, fa3, fa4, fa5⟩, ⟨fb0, fb1, fb2, fb3, fb4, fb5⟩, ⟨fc0, fc1, fc2, fc3, fc4, fc5⟩, ⟨fd0, fd1, fd2, fd3, fd4, fd5⟩, hs1, hs2, hs3, hs4, HP1, HP2⟩ := two_pack (bl_al HB9.out (.cells #[.int .u8 0, .int .i64 0, .int .i64 0] 33)) (((zNew x8).below hb9).al _) (zNew x9) (Nat.ne_of_lt ((zNew x8).below hb9).lt) HB8.out.size HB9.out.size sl sg (HK9.out.al _) hqw; obtain ⟨⟨fe0, fe1, fe2, fe3, fe4, fe5⟩, hs5, hs6, HP3⟩ := fold_pack HB9.out ((zNew x8).below hb9) HB8.out.size rfl sl sg HK9.out hqw; clear hb9)
        | (go_at_call 46; with_reducible refine (segWord_any sg 1 ((x8.alloc (.cells #[.int .u8 0, .int .i64 0, .int .i64 0] 33)).alloc (.cells #[.int .u8 0, .int .i64 0, .int .i64 0] 33))).mono ?_; rintro ee x9 ⟨rfl, hb9⟩; have HK9 := Lib.hid (((HK8.out.al _).al _).below hb9); have HB9 := Lib.hid (bl_step (bl_al (bl_al HB8.out _) _) hb9); obtain ⟨⟨fa0, fa1, fa2, fa3, fa4, fa5⟩, ⟨fb0, fb1, fb2, fb3, fb4, fb5⟩, ⟨fc0, fc1, fc2, fc3, fc4, fc5⟩, ⟨fd0, fd1, fd2, fd3, fd4, fd5⟩, hs1, hs2, hs3, hs4, HP1, HP2⟩ := two_pack HB9.out (((zNew x8).al _).below hb9) ((zNew1 x8 (.cells #[.int .u8 0, .int .i64 0, .int .i64 0] 33)).below hb9) (Nat.ne_of_lt (Nat.lt_succ_self _)) HB8.out.size (Nat.le_succ_of_le HB8.out.size) sl sg HK9.out hqw; clear hb9)
        | fail)
    all_goals (go_wp2_with fail)
    all_goals go_meet
    all_goals refine ⟨_, _, rfl, rfl, ?_⟩
    all_goals first | with_reducible exact HP1 | with_reducible exact HP2 | with_reducible exact HP3 | with_reducible exact (both_new HB9.out).1 | with_reducible exact (both_new HB9.out).2
  case rest =>
    obtain ⟨H, A, rfl, rfl, HD⟩ := hcut
    have HKc := Lib.hid (HK.out.below HD.out.low)
    have HFc := Lib.hid (HF.out.below HD.out.low)
    have HO := Lib.hid (Onl.of_below (p := p) (b := b) (E := [q]) HD.out.low)
    clear c0 c1 c2 c3 c4 c5
    obtain ⟨c0, c1, c2, c3, c4, c5, z⟩ := HKc.out.tc
    obtain ⟨⟨y0, y1, y2⟩, y3, y4, y5⟩ := tc_row HD.out
    have z4 := z 4
    clear z
    go_wp2_with fail
    have HRc := Lib.hid (show OpAt 198 r o.nx o.h o.to wc from HR.out.below HD.out.low)
    go_wp2_with fail
    rw [HFP.out]
    ((with_reducible refine (push_stepX hr HFc.out hs hh hnx HTO.out HRc.out).mono ?_); rintro ee w3 ⟨rfl, hop, F3, h3⟩)
    have HR3 := Lib.hid hop.bq
    have HK3 := Lib.hid (HKc.out.onl (Onl.of_only3 (p := p) (b := b) (E := [r]) h3 (by simp)) hne.1 hne.2 (by simpa using hqr))
    have HF3 := Lib.hid F3
    have HO3 := Lib.hid ((HO.out.more (E' := [q, r]) (by simp)).trans (Onl.of_only3 (p := p) (b := b) (E := [q, r]) h3 (by simp)))
    clear hop F3 h3 c0 c1 c2 c3 c4 c5 z4 y0 y1 y2 y3 y4 y5
    obtain ⟨c0, c1, c2, c3, c4, c5, z⟩ := HK3.out.tc
    clear z
    by_cases hc : (pushX o M).1.nx = 0
    · have hb : ((pushX o M).1.nx == 0) = true := by simp [hc]
      have HC := Lib.hid hc
      clear hc
      go_wp2_with fail
      ((with_reducible refine (forth_any HK3.out h HX.out.1 HX.out.2).mono ?_); rintro ee w9 ⟨rfl, k9, h9⟩)
      have HK9 := Lib.hid k9
      have HF9 := Lib.hid (HF3.out.onlyq h9 hne.1 hne.2 hq)
      have HO9 := Lib.hid (HO3.out.trans (h9.onl (p := p) (b := b) (E := [q, r]) (by simp)))
      clear k9 h9
      go_wp2_with fail
      go_ret
      exact ⟨fun _ => ⟨rfl, HK9.out, HF9.out, HO9.out⟩, fun h => absurd HC.out h⟩
    · have hb : ((pushX o M).1.nx == 0) = false := by simp [hc]
      have HC := Lib.hid hc
      clear hc
      go_wp2_with fail
      go_ret
      exact ⟨fun h => absurd h HC.out, fun _ => ⟨rfl, HK3.out, HR3.out, HF3.out, HO3.out⟩⟩
end
end Go.Proofs.YtmjcbjcnmgleaaaGreatDoor
