/-
  The law PicksFair walked: it answers true, and changes nothing that was there; conditions: the program's four calls do as the plain side says; what lies lies as it says.
-/
import Derived.Test.YtmominipgkchjaaE1
namespace Go.Proofs.Ytmominipgkchjaa
open Go.RowKit

set_option maxHeartbeats 4000000 in
theorem lawFair (H : Prg) (n : Int) (A B : Option Addr) (ca cb : Nat) (ps : List Int) (who : List Bool) (w : World) (hn : I64 n) (hs : Row w A (ps.map iV)) (hb : Row w B (who.map bV)) (hcapA : A = Option.none → ca = 0) (hcapB : B = Option.none → cb = 0) (hp : ps.length ≤ 300) (hw : who.length ≤ 50) :
    Calls Try.prog 4 #[.slice A ps.length ca, .slice B who.length cb, .int .i64 n] w fun e w' => e = .returned (.bool true) ∧ Below w.heap.size w w' := by
  obtain ⟨i0, hi, hz0, hz1, hz2⟩ := info_parts Try_infoB
  obtain ⟨j0, hj, hy0, hy1, hy2⟩ := info_parts Try_infoI
  have HS := Lib.hid hs
  have HB := Lib.hid hb
  have HCA := Lib.hid hcapA
  have HCB := Lib.hid hcapB
  have HN := Lib.hid hn
  clear hs hb hcapA hcapB hn
  go_enter Try.func4, Try.ntmps4
  go_wp2_with (first
    | (at_builtin; refine append_row rfl (.const (.slice Option.none 0 0)) (.tmp 19) 27 3 rfl Try.underlying27 j0 _ 8 hj hy0 hy1 hy2 rfl (by decide) w.heap.size _ [] rfl (World.ownsRow_nil _ _ _ _) A ps.length ca (ps.map iV) (by rw [List.length_map]) rfl HS.out (iV_one ps) HCA.out (by simp; omega) (Nat.le_refl _) ?_; intro v1 w1 ho1 hb1; rw [List.nil_append, List.length_map] at ho1; obtain ⟨T, ct, rfl, q1, q2, _⟩ := own_slice ho1; have HR1 := Lib.hid (row_of_own ho1); have HB1 := Lib.hid hb1; clear ho1 hb1)
    | (at_builtin; refine append_row rfl (.const (.slice Option.none 0 0)) (.tmp 21) 22 4 rfl Try.underlying22 i0 _ 1 hi hz0 hz1 hz2 rfl (by decide) w1.heap.size _ [] rfl (World.ownsRow_nil _ _ _ _) B who.length cb (who.map bV) (by rw [List.length_map]) rfl (HB.out.below (HB1.out.mono (Nat.le_refl _))) (bV_one who) HCB.out (by simp; omega) (Nat.le_refl _) ?_; intro v2 w2 ho2 hb2; rw [List.nil_append, List.length_map] at ho2; obtain ⟨U, cu, rfl, q3, q4, _⟩ := own_slice ho2; have HU2 := Lib.hid (row_of_own ho2); have HR2 := Lib.hid (HR1.out.below hb2); have HB2 := Lib.hid (HB1.out.trans (hb2.mono HB1.out.size)); clear ho2 hb2))
  refine (H.rest n T ct ps w2 HN.out HR2.out q1 q2 (by omega)).mono ?_
  rintro e w3 ⟨rfl, hb⟩
  have HB3 := Lib.hid (HB2.out.trans (hb.mono HB2.out.size))
  have HR3 := Lib.hid (HR2.out.below hb)
  have HU3 := Lib.hid (HU2.out.below hb)
  clear hb HB2 HR2 HU2 HR1 HB1
  go_wp2_with fail
  refine (rrest_any n A ca ps w3 (HS.out.below (HB3.out.mono (Nat.le_refl _))) (by omega)).mono ?_
  rintro e w4 ⟨rfl, rfl⟩
  generalize (restC ps n : Int) = x
  go_wp2_with fail
  refine (H.fair n T U ct cu ps who w3 HN.out HR3.out HU3.out q1 q2 q3 q4 (by omega) (by omega)).mono ?_
  rintro e w5 ⟨rfl, hb⟩
  have HB5 := Lib.hid (HB3.out.trans (hb.mono HB3.out.size))
  have HR5 := Lib.hid (HR3.out.below hb)
  have HU5 := Lib.hid (HU3.out.below hb)
  clear hb HB3 HR3 HU3
  go_wp2_with fail
  refine (rfair_any n A B ca cb ps who w5 (HS.out.below (HB5.out.mono (Nat.le_refl _))) (HB.out.below (HB5.out.mono (Nat.le_refl _))) (by omega) (by omega)).mono ?_
  rintro e w6 ⟨rfl, rfl⟩
  generalize fairC ps who n = y
  have hyy : (y != y) = false := bne_self_eq_false y
  go_wp2_with fail
  refine (same_any U B cu cb who w5 HU5.out (HB.out.below (HB5.out.mono (Nat.le_refl _))) (by omega)).mono ?_
  rintro e w7 ⟨rfl, hb⟩
  have HB7 := Lib.hid (HB5.out.trans (hb.mono HB5.out.size))
  have HR7 := Lib.hid (HR5.out.below hb)
  clear hb HB5 HR5 HU5
  go_wp2_with fail
  go_loopw [9] (fun i wr => ∃ k : Nat, k ≤ ps.length ∧ i = .int .i64 (k : Int) ∧ Below w7.heap.size w7 wr) (fun i _ => ps.length - (intOf i).toNat)
  case atStart => exact ⟨0, Nat.zero_le _, rfl, Below.refl _ _⟩
  case round =>
    obtain ⟨k, hk, rfl, hr⟩ := hrel
    have HR := Lib.hid hr
    clear hr
    by_cases hlt : k < ps.length
    · obtain ⟨g, off, rfl, hc⟩ := (HR7.out.below HR.out).at_ (k := k) (by rw [List.length_map]; exact hlt)
      obtain ⟨g2, off2, rfl, hc2⟩ := (HS.out.below ((HB7.out.trans (HR.out.mono HB7.out.size)).mono (Nat.le_refl _))).at_ (k := k) (by rw [List.length_map]; exact hlt)
      have y1 := hc k _ (ints_at 0 hlt)
      have y2 := hc2 k _ (ints_at 0 hlt)
      generalize ps.getD k 0 = b at y1 y2
      have hlt' : (k : Int) < (ps.length : Int) := by omega
      have hge : (0 : Int) ≤ (k : Int) := by omega
      clear hc hc2
      go_wp2_with fail
      go_quiet (fail)
      go_wp2_with fail
      go_roundw
      case rel => exact ⟨k + 1, by omega, by go_num, below_drewN' HR.out _⟩
      case measure => simp [intOf]; omega
    · have hge : (ps.length : Int) ≤ (k : Int) := by omega
      have HL := Lib.hid (HB7.out.trans (HR.out.mono HB7.out.size))
      go_wp2_with (go_at_call 8; refine (lives_any H _).mono ?_; rintro e w4 ⟨rfl, hb4⟩; have HL4 := Lib.hid (HL.out.trans (hb4.mono HL.out.size)); clear hb4)
      go_ret
      exact ⟨rfl, HL4.out⟩
set_option maxHeartbeats 1000000 in
theorem lawFair_long (H : Prg) (n : Int) (A B : Option Addr) (m1 m2 ca cb : Nat) (w : World) (hm : 300 < m1 ∨ (m1 ≤ 300 ∧ 50 < m2)) :
    Calls Try.prog 4 #[.slice A m1 ca, .slice B m2 cb, .int .i64 n] w fun e w' => e = .returned (.bool true) ∧ Below w.heap.size w w' := by
  rcases hm with hm | ⟨hm1, hm⟩
  all_goals
    go_enter Try.func4, Try.ntmps4
    go_wp2_with (go_at_call 8; refine (lives_any H _).mono ?_; rintro e w4 ⟨rfl, hb4⟩; have HL4 := Lib.hid hb4; clear hb4)
    go_ret
    exact ⟨rfl, HL4.out⟩
end Go.Proofs.Ytmominipgkchjaa
