/-
  The law PicksAll walked: it answers true, and changes nothing that was there; conditions: the program's four calls do as the plain side says; what lies lies as it says.
-/
import Derived.Test.YtmominipgkchjaaE1
namespace Go.Proofs.Ytmominipgkchjaa
open Go.RowKit

theorem pick_place {l : List Bool} {k : Nat} (h : l.getD k false = true) (hk : k < l.length) : pickC ((goN l k).length : Int) l = (k : Int) := by
  have hg := goers_at h hk
  obtain ⟨hlt, _⟩ := List.getElem?_eq_some_iff.1 hg
  have h2 := goAt_some hlt
  rw [hg] at h2
  have e := (Option.some.inj h2).symm
  rw [pick_some (by omega), show (((goN l k).length : Int)).toNat = (goN l k).length from rfl, Nat.mod_eq_of_lt hlt, e]
theorem pick_in {n : Int} {l : List Bool} (h : 0 < (goers l).length) : ∃ r : Nat, pickC n l = (r : Int) ∧ r < l.length ∧ l.getD r false = true :=
  ⟨_, pick_some h, goAt_mem (Nat.mod_lt _ h)⟩
theorem pick_neg {n : Int} {l : List Bool} (hn : n < 0) : pickC n l = pickC 0 l := by
  unfold pickC
  rw [show n.toNat = 0 by omega]
  rfl
theorem pick_again {n : Int} {l : List Bool} (hn : 0 ≤ n) : pickC (n + ((goers l).length : Int)) l = pickC n l := by
  unfold pickC
  rw [show (n + ((goers l).length : Int)).toNat = n.toNat + (goers l).length by omega, Nat.add_mod_right]
set_option maxHeartbeats 4000000 in
theorem lawAll (H : Prg) (n : Int) (A : Option Addr) (cap : Nat) (l : List Bool) (w : World) (hn : I64 n) (hs : Row w A (l.map bV)) (hc1 : l.length ≤ cap) (hc2 : cap ≤ 9223372036854775807) (hl : l.length ≤ 50) :
    Calls Try.prog 6 #[.slice A l.length cap, .int .i64 n] w fun e w' => e = .returned (.bool true) ∧ Below w.heap.size w w' := by
  have HS := Lib.hid hs
  have HN := Lib.hid hn
  have H0 := Lib.hid (Below.refl w.heap.size w)
  have hgl := goers_length l
  clear hs hn
  go_enter Try.func6, Try.ntmps6
  go_wp2_with fail
  go_loopw [5, 6] (fun at_ i wr => ∃ k m : Nat, k ≤ l.length ∧ i = .int .i64 (k : Int) ∧ at_ = .int .i64 (m : Int) ∧ Hid ((goN l k).length = m) ∧ Below w.heap.size w wr) (fun _ i _ => l.length - (intOf i).toNat)
  case atStart => exact ⟨0, 0, Nat.zero_le _, rfl, rfl, Lib.hid rfl, H0.out⟩
  case round =>
    obtain ⟨k, m, hk, rfl, rfl, HM, hr⟩ := hrel
    have HR := Lib.hid hr
    have hm50 : m ≤ 50 := by
      have h1 := goN_length l k
      have h2 := HM.out
      omega
    clear hr
    by_cases hlt : k < l.length
    · obtain ⟨g, off, rfl, hc⟩ := (HS.out.below (HR.out.mono (Nat.le_refl _))).at_ (k := k) (by rw [List.length_map]; exact hlt)
      have y := hc k _ (bools_at hlt)
      have hlt' : (k : Int) < (l.length : Int) := by omega
      have hge : (0 : Int) ≤ (k : Int) := by omega
      clear hc
      cases hb : l.getD k false with
      | false =>
        rw [hb] at y
        have HN2 := Lib.hid (goN_no hb)
        clear hb
        go_wp2_with fail
        go_roundw
        case rel => exact ⟨k + 1, m, by omega, by go_num, rfl, Lib.hid (by rw [HN2.out]; exact HM.out), HR.out⟩
        case measure => simp [intOf]; omega
      | true =>
        rw [hb] at y
        have HN2 := Lib.hid (goN_yes hb)
        have hp := pick_place hb hlt
        rw [HM.out] at hp
        have HP := Lib.hid hp
        clear hb hp
        go_wp2_with fail
        refine (H.pick (m : Int) _ cap l wr (i64_small (by omega) (by omega)) (HS.out.below (HR.out.mono (Nat.le_refl _))) hc1 hc2 (by omega)).mono ?_
        rintro e w2 ⟨rfl, hb⟩
        rw [HP.out]
        have HB := Lib.hid (HR.out.trans (hb.mono HR.out.size))
        clear hb
        go_wp2_with fail
        go_roundw
        case rel =>
          refine ⟨k + 1, m + 1, by omega, by go_num, by go_num, Lib.hid ?_, HB.out⟩
          rw [HN2.out, List.length_append, HM.out]
          rfl
        case measure => simp [intOf]; omega
    · have hge : (l.length : Int) ≤ (k : Int) := by omega
      obtain rfl : k = l.length := by omega
      have HG := Lib.hid (show (goers l).length = m from HM.out)
      clear HM
      go_wp2_with fail
      refine (H.pick n A cap l wr HN.out (HS.out.below (HR.out.mono (Nat.le_refl _))) hc1 hc2 (by omega)).mono ?_
      rintro e w2 ⟨rfl, hb⟩
      have HB := Lib.hid (HR.out.trans (hb.mono HR.out.size))
      clear hb
      by_cases hz : m = 0
      · subst hz
        rw [pick_none HG.out]
        go_wp2_with (go_at_call 8; refine (lives_any H _).mono ?_; rintro e w4 ⟨rfl, hb4⟩; have HL4 := Lib.hid (HB.out.trans (hb4.mono HB.out.size)); clear hb4)
        go_ret
        exact ⟨rfl, HL4.out⟩
      · have hz' : ((m : Int) == 0) = false := beq_eq_false_iff_ne.2 (by omega)
        obtain ⟨r, hr, hrl, hrt⟩ := pick_in (n := n) (l := l) (by rw [HG.out]; omega)
        obtain ⟨g, off, rfl, hc⟩ := (HS.out.below (HB.out.mono (Nat.le_refl _))).at_ (k := r) (by rw [List.length_map]; exact hrl)
        have y := hc r _ (bools_at hrl)
        rw [hrt] at y
        have hrl' : (r : Int) < (l.length : Int) := by omega
        have hr0 : (0 : Int) ≤ (r : Int) := by omega
        have HPN := Lib.hid (fun (h : n < 0) => (pick_neg (l := l) h).symm.trans hr)
        have HPA := Lib.hid (fun (h : 0 ≤ n) => (pick_again (l := l) h).trans hr)
        rw [hr]
        clear hc hr hrt
        by_cases hneg : n < 0
        · have HP0 := Lib.hid (HPN.out hneg)
          go_wp2_with (go_at_call 9; refine (H.pick 0 _ cap l _ (i64_small (by omega) (by omega)) (HS.out.below (HB.out.mono (Nat.le_refl _))) hc1 hc2 (by omega)).mono ?_; rintro e w3 ⟨rfl, hb3⟩; rw [HP0.out]; have HB3 := Lib.hid (HB.out.trans (hb3.mono HB.out.size)); clear hb3)
          refine (lives_any H _).mono ?_
          rintro e w4 ⟨rfl, hb4⟩
          have HL4 := Lib.hid (HB3.out.trans (hb4.mono HB3.out.size))
          clear hb4
          go_wp2_with fail
          go_ret
          exact ⟨rfl, HL4.out⟩
        · have hpos : 0 ≤ n := by omega
          by_cases hbig : 1152921504606846976 < n
          · go_wp2_with (go_at_call 8; refine (lives_any H _).mono ?_; rintro e w4 ⟨rfl, hb4⟩; have HL4 := Lib.hid (HB.out.trans (hb4.mono HB.out.size)); clear hb4)
            go_ret
            exact ⟨rfl, HL4.out⟩
          · have hsm : n ≤ 1152921504606846976 := by omega
            have HPX := Lib.hid (show pickC (n + (m : Int)) l = (r : Int) by
              have h := HPA.out hpos
              rw [HG.out] at h
              exact h)
            clear hneg hbig
            go_wp2_with fail
            refine (H.pick (n + (m : Int)) _ cap l _ ⟨by omega, by omega⟩ (HS.out.below (HB.out.mono (Nat.le_refl _))) hc1 hc2 (by omega)).mono ?_
            rintro e w3 ⟨rfl, hb3⟩
            rw [HPX.out]
            have HB3 := Lib.hid (HB.out.trans (hb3.mono HB.out.size))
            clear hb3
            go_wp2_with (go_at_call 8; refine (lives_any H _).mono ?_; rintro e w4 ⟨rfl, hb4⟩; have HL4 := Lib.hid (HB3.out.trans (hb4.mono HB3.out.size)); clear hb4)
            go_ret
            exact ⟨rfl, HL4.out⟩
set_option maxHeartbeats 1000000 in
theorem lawAll_long (H : Prg) (n : Int) (A : Option Addr) (m cap : Nat) (w : World) (hm : 50 < m) :
    Calls Try.prog 6 #[.slice A m cap, .int .i64 n] w fun e w' => e = .returned (.bool true) ∧ Below w.heap.size w w' := by
  go_enter Try.func6, Try.ntmps6
  go_wp2_with (go_at_call 8; refine (lives_any H _).mono ?_; rintro e w4 ⟨rfl, hb4⟩; have HL4 := Lib.hid hb4; clear hb4)
  go_ret
  exact ⟨rfl, HL4.out⟩
end Go.Proofs.Ytmominipgkchjaa
