/-
  The law PicksTurns walked: it answers true, and changes nothing that was there; conditions: the program's four calls do as the plain side says; what lies lies as it says.
-/
import Derived.Test.YtmominipgkchjaaE1
namespace Go.Proofs.Ytmominipgkchjaa
open Go.RowKit

/-- Who went last, ahead of turn k. -/
def AtC (last : Int) (l : List Bool) (s k : Nat) : Int := if k = 0 then last else (goAt l ((s + (k - 1)) % (goers l).length) : Int)
theorem turn_step {last : Int} {l : List Bool} {k : Nat} (h : 0 < (goers l).length) : turnC (AtC last l (turnAt last l) k) l = (goAt l ((turnAt last l + k) % (goers l).length) : Int) := by
  cases k with
  | zero =>
    rw [show AtC last l (turnAt last l) 0 = last from rfl, turn_some h, Nat.add_zero, Nat.mod_eq_of_lt (turnAt_lt h)]
  | succ k =>
    have e : AtC last l (turnAt last l) (k + 1) = (goAt l ((turnAt last l + k) % (goers l).length) : Int) := by
      unfold AtC
      rw [if_neg (by omega), Nat.add_sub_cancel]
    rw [e, turn_some h, turnAt_next (Nat.mod_lt _ h), Nat.mod_add_mod, Nat.add_assoc]
theorem atC_i64 {last : Int} {l : List Bool} {k : Nat} (hl : I64 last) (h : 0 < (goers l).length) (hs : l.length ≤ 1000) : I64 (AtC last l (turnAt last l) k) := by
  unfold AtC
  split
  · exact hl
  · have := (goAt_mem (l := l) (Nat.mod_lt (turnAt last l + (k - 1)) h)).1
    exact i64_small (by omega) (by omega)
/-- What stands between two turns. -/
structure TAt (w0 : World) (l : List Bool) (last : Int) (k : Nat) (v : Value) (w : World) : Prop where
  own : w.ownsRow w0.heap.size 3 1 v k ((turnsC l (turnAt last l) k).map iV)
  low : Below w0.heap.size w0 w
set_option maxRecDepth 100000 in
set_option maxHeartbeats 16000000 in
theorem lawTurns (H : Prg) (last : Int) (M : Nat) (A : Option Addr) (cap : Nat) (l : List Bool) (w : World) (hla : I64 last) (hM : M ≤ 255) (hs : Row w A (l.map bV)) (hc1 : l.length ≤ cap) (hc2 : cap ≤ 9223372036854775807) (hl : l.length ≤ 50) :
    Calls Try.prog 5 #[.slice A l.length cap, .int .i64 last, .int .u8 (M : Int)] w fun e w' => e = .returned (.bool true) ∧ Below w.heap.size w w' := by
  obtain ⟨i0, hi, hz0, hz1, hz2⟩ := info_parts Try_infoI
  have HS := Lib.hid hs
  have HLA := Lib.hid hla
  have H0 := Lib.hid (Below.refl w.heap.size w)
  have hM1 : (M : Int) ≤ 255 := by omega
  have hM2 : (0 : Int) ≤ (M : Int) := by omega
  clear hs hla
  go_enter Try.func5, Try.ntmps5
  go_wp2_with fail
  go_loopw [7, 8] (fun n i wr => ∃ k m : Nat, k ≤ l.length ∧ i = .int .i64 (k : Int) ∧ n = .int .i64 (m : Int) ∧ Hid ((goN l k).length = m) ∧ wr = w) (fun _ i _ => l.length - (intOf i).toNat)
  case atStart => exact ⟨0, 0, Nat.zero_le _, rfl, rfl, Lib.hid rfl, rfl⟩
  case round =>
    obtain ⟨k, m, hk, rfl, rfl, HM, rfl⟩ := hrel
    have hm50 : m ≤ 50 := by
      have h1 := goN_length l k
      have h2 := HM.out
      omega
    by_cases hlt : k < l.length
    · obtain ⟨g, off, rfl, hc⟩ := HS.out.at_ (k := k) (by rw [List.length_map]; exact hlt)
      have y := hc k _ (bools_at hlt)
      have hlt' : (k : Int) < (l.length : Int) := by omega
      have hge : (0 : Int) ≤ (k : Int) := by omega
      clear hc
      cases hb : l.getD k false with
      | false =>
        rw [hb] at y
        have HN2 := Lib.hid (goN_no hb)
        clear hb
        go_wp2_with fail
        go_roundw
        case rel => exact ⟨k + 1, m, by omega, by go_num, rfl, Lib.hid (by rw [HN2.out]; exact HM.out), by trivial⟩
        case measure => simp [intOf]; omega
      | true =>
        rw [hb] at y
        have HN2 := Lib.hid (goN_yes hb)
        clear hb
        go_wp2_with fail
        go_roundw
        case rel =>
          refine ⟨k + 1, m + 1, by omega, by go_num, by go_num, Lib.hid ?_, by trivial⟩
          rw [HN2.out, List.length_append, HM.out]
          rfl
        case measure => simp [intOf]; omega
    · have hge : (l.length : Int) ≤ (k : Int) := by omega
      obtain rfl : k = l.length := by omega
      have HG := Lib.hid (show (goers l).length = m from HM.out)
      obtain ⟨G, hGm⟩ : ∃ G, m = G := ⟨_, rfl⟩
      subst hGm
      clear HM
      obtain ⟨wb, hwb⟩ : ∃ wb, wb = wr := ⟨wr, rfl⟩
      subst hwb
      have HT0 := Lib.hid (⟨World.ownsRow_nil wb _ _ _, Below.refl _ _⟩ : TAt wb l last 0 (.slice Option.none 0 0) wb)
      go_wp2_with fail
      go_loopw [9, 10, 11] (fun v x i wx => ∃ k : Nat, k ≤ M ∧ i = .int .i64 (k : Int) ∧ x = .int .i64 (AtC last l (turnAt last l) k) ∧ Hid (m = 0 → k = 0) ∧ TAt wb l last k v wx) (fun _ _ i _ => M - (intOf i).toNat)
      case atStart => exact ⟨0, Nat.zero_le _, rfl, rfl, Lib.hid (fun _ => rfl), HT0.out⟩
      case round =>
        obtain ⟨k, hk, rfl, rfl, HK, hta⟩ := hrel
        have HT := Lib.hid hta
        have hk0 : (0 : Int) ≤ (k : Int) := by omega
        have hk1 : (k : Int) ≤ 255 := by omega
        obtain ⟨B, cb, rfl, q1, q2, _⟩ := own_slice hta.own
        clear hta
        by_cases hkM : k < M
        · have hkM' : (k : Int) < (M : Int) := by omega
          by_cases hz : m = 0
          · obtain rfl : k = 0 := HK.out hz
            subst hz
            rw [show AtC last l (turnAt last l) 0 = last from rfl]
            go_wp2_with fail
            refine (H.turn last A cap l wr HLA.out (HS.out.below (HT.out.low.mono (Nat.le_refl _))) hc1 hc2 (by omega)).mono ?_
            rintro e w2 ⟨rfl, hb⟩
            rw [turn_none HG.out]
            have HB := Lib.hid (HT.out.low.trans (hb.mono HT.out.low.size))
            clear hb
            go_wp2_with (go_at_call 8; refine (lives_any H _).mono ?_; rintro e w4 ⟨rfl, hb4⟩; have HL4 := Lib.hid (HB.out.trans (hb4.mono HB.out.size)); clear hb4)
            go_ret
            exact ⟨rfl, HL4.out⟩
          · have hz' : ((m : Int) == 0) = false := beq_eq_false_iff_ne.2 (by omega)
            have hG0 : 0 < (goers l).length := by rw [HG.out]; omega
            have hts := turn_step (last := last) (k := k) hG0
            have hi64 := atC_i64 (k := k) HLA.out hG0 (by omega)
            obtain ⟨x0, hx0⟩ : ∃ x0, AtC last l (turnAt last l) k = x0 := ⟨_, rfl⟩
            obtain ⟨r, hr⟩ : ∃ r, goAt l ((turnAt last l + k) % (goers l).length) = r := ⟨_, rfl⟩
            obtain ⟨hrl, hrt⟩ := goAt_mem (l := l) (Nat.mod_lt (turnAt last l + k) hG0)
            rw [hx0] at hts hi64 ⊢
            rw [hr] at hts hrl hrt
            have HTS := Lib.hid hts
            have HX := Lib.hid hi64
            have HRR := Lib.hid hr
            clear hts hi64 hx0 hr hG0
            go_wp2_with fail
            refine (H.turn x0 A cap l wr HX.out (HS.out.below (HT.out.low.mono (Nat.le_refl _))) hc1 hc2 (by omega)).mono ?_
            rintro e w4 ⟨rfl, hb⟩
            rw [HTS.out]
            have HB4 := Lib.hid (HT.out.low.trans (hb.mono HT.out.low.size))
            have HVO := Lib.hid (own_low HT.out.own hb)
            have HV := Lib.hid (row_of_own HVO.out)
            clear hb
            obtain ⟨g, off, rfl, hc⟩ := (HS.out.below (HB4.out.mono (Nat.le_refl _))).at_ (k := r) (by rw [List.length_map]; exact hrl)
            have y := hc r _ (bools_at hrl)
            rw [hrt] at y
            have hrl' : (r : Int) < (l.length : Int) := by omega
            have hr0 : (0 : Int) ≤ (r : Int) := by omega
            clear hc hrt
            by_cases hkG : m ≤ k
            · obtain ⟨j, hj⟩ : ∃ j, k = m + j := ⟨k - m, by omega⟩
              have hsub : (k : Int) - (m : Int) = (j : Int) := by omega
              have hj0 : (0 : Int) ≤ (j : Int) := by omega
              have hjk : (j : Int) < (k : Int) := by omega
              have hjk2 : j < k := by omega
              have hkG' : (m : Int) ≤ (k : Int) := by omega
              have hag := turns_again (l := l) (s := turnAt last l) (i := k) (by rw [HG.out]; exact hkG)
              have HJ := Lib.hid hj
              obtain ⟨g3, off3, rfl, hc3⟩ := HV.out.at_ (k := j) (by rw [List.length_map, turnsC_length]; exact hjk2)
              have y3 := hc3 j _ (by rw [List.getElem?_map, turnsC_at hjk2]; rfl)
              rw [HG.out, show k - m = j by omega, ← HG.out] at hag
              rw [hag, HRR.out] at y3
              simp only [iV] at y3
              clear hc3 hag hj
              go_wp2_with fail
              go_loopw [12] (fun j wq => ∃ q : Nat, k + 1 - m ≤ q ∧ q ≤ k ∧ j = .int .i64 (q : Int) ∧ wq = w4) (fun j _ => k - (intOf j).toNat)
              case atStart =>
                have hjj := HJ.out
                exact ⟨k + 1 - m, Nat.le_refl _, by omega, by first | (congr 1; omega) | (congr 1; split <;> omega), rfl⟩
              case round =>
                obtain ⟨q, hq1, hq2, rfl, rfl⟩ := hrel
                have hq0 : (0 : Int) ≤ (q : Int) := by omega
                by_cases hql : q < k
                · have hql' : (q : Int) < (k : Int) := by omega
                  obtain ⟨g2, off2, hB, hc2⟩ := HV.out.at_ (k := q) (by rw [List.length_map, turnsC_length]; exact hql)
                  cases hB
                  have y2 := hc2 q _ (by rw [List.getElem?_map, turnsC_at hql]; rfl)
                  simp only [iV] at y2
                  have hun : ¬ (goAt l ((turnAt last l + q) % (goers l).length) : Int) = (goAt l ((turnAt last l + k) % (goers l).length) : Int) := fun e => turns_unlike (s := turnAt last l) (by rw [HG.out]; omega) hql (by rw [HG.out]; omega) (by omega)
                  rw [HRR.out] at hun
                  obtain ⟨z, hz⟩ : ∃ z : Int, (goAt l ((turnAt last l + q) % (goers l).length) : Int) = z := ⟨_, rfl⟩
                  rw [hz] at hun y2
                  have hun2 : ¬ z = (r : Int) := hun
                  have hunb : (z == (r : Int)) = false := beq_eq_false_iff_ne.2 hun2
                  clear hc2 hz hun
                  go_wp2_with fail
                  go_roundw
                  case rel => exact ⟨q + 1, by omega, by omega, by go_num, by trivial⟩
                  case measure => simp [intOf]; omega
                · have hql' : (k : Int) ≤ (q : Int) := by omega
                  obtain rfl : q = k := by omega
                  have HO := Lib.hid (HVO.out.alloc (.cells #[iV (r : Int)] 3))
                  have HBA := Lib.hid (HB4.out.alloc HB4.out.size (.cells #[iV (r : Int)] 3))
                  have htl := turnsC_length l (turnAt last l) q
                  clear hql
                  go_wp2_with (at_builtin; refine wpList_append_own _ rfl (.tmp 104) (.tmp 106) _ rfl wb.heap.size 3 i0 _ 1 8 Try.underlying27 hi hz0 hz1 hz2 rfl (by decide) _ q ((turnsC l (turnAt last l) q).map iV) rfl HO.out ⟨wr.heap.size, 0, Option.none⟩ 1 1 [iV (r : Int)] rfl rfl (cells_new wr 3 [iV (r : Int)]) (fun u hu => by rw [List.mem_singleton.1 hu]; rfl) (by unfold maxLen; omega) (by omega) HBA.out.size ?_; intro v' w6 hown' hgrow _; have HO6 := Lib.hid hown'; have HG6 := Lib.hid (HBA.out.grown hgrow HBA.out.size (fun k hk => (HO.out.lt k hk).1)); clear hown' hgrow)
                  go_roundw
                  case rel =>
                    refine ⟨q + 1, by omega, by go_num, ?_, Lib.hid (fun h => by omega), ?_, HG6.out⟩
                    · unfold AtC
                      rw [if_neg (by omega), Nat.add_sub_cancel, HRR.out]
                    · rw [turnsC_succ, List.map_append, HRR.out]
                      exact HO6.out
                  case measure => simp [intOf]; omega
            · have hkG' : (k : Int) < (m : Int) := by omega
              have HJ := Lib.hid hkG'
              go_wp2_with fail
              go_loopw [12] (fun j wq => ∃ q : Nat, k + 1 - m ≤ q ∧ q ≤ k ∧ j = .int .i64 (q : Int) ∧ wq = w4) (fun j _ => k - (intOf j).toNat)
              case atStart =>
                have hjj := HJ.out
                exact ⟨k + 1 - m, Nat.le_refl _, by omega, by first | (congr 1; omega) | (congr 1; split <;> omega), rfl⟩
              case round =>
                obtain ⟨q, hq1, hq2, rfl, rfl⟩ := hrel
                have hq0 : (0 : Int) ≤ (q : Int) := by omega
                by_cases hql : q < k
                · have hql' : (q : Int) < (k : Int) := by omega
                  obtain ⟨g2, off2, hB, hc2⟩ := HV.out.at_ (k := q) (by rw [List.length_map, turnsC_length]; exact hql)
                  cases hB
                  have y2 := hc2 q _ (by rw [List.getElem?_map, turnsC_at hql]; rfl)
                  simp only [iV] at y2
                  have hun : ¬ (goAt l ((turnAt last l + q) % (goers l).length) : Int) = (goAt l ((turnAt last l + k) % (goers l).length) : Int) := fun e => turns_unlike (s := turnAt last l) (by rw [HG.out]; omega) hql (by rw [HG.out]; omega) (by omega)
                  rw [HRR.out] at hun
                  obtain ⟨z, hz⟩ : ∃ z : Int, (goAt l ((turnAt last l + q) % (goers l).length) : Int) = z := ⟨_, rfl⟩
                  rw [hz] at hun y2
                  have hun2 : ¬ z = (r : Int) := hun
                  have hunb : (z == (r : Int)) = false := beq_eq_false_iff_ne.2 hun2
                  clear hc2 hz hun
                  go_wp2_with fail
                  go_roundw
                  case rel => exact ⟨q + 1, by omega, by omega, by go_num, by trivial⟩
                  case measure => simp [intOf]; omega
                · have hql' : (k : Int) ≤ (q : Int) := by omega
                  obtain rfl : q = k := by omega
                  have HO := Lib.hid (HVO.out.alloc (.cells #[iV (r : Int)] 3))
                  have HBA := Lib.hid (HB4.out.alloc HB4.out.size (.cells #[iV (r : Int)] 3))
                  have htl := turnsC_length l (turnAt last l) q
                  clear hql
                  go_wp2_with (at_builtin; refine wpList_append_own _ rfl (.tmp 104) (.tmp 106) _ rfl wb.heap.size 3 i0 _ 1 8 Try.underlying27 hi hz0 hz1 hz2 rfl (by decide) _ q ((turnsC l (turnAt last l) q).map iV) rfl HO.out ⟨wr.heap.size, 0, Option.none⟩ 1 1 [iV (r : Int)] rfl rfl (cells_new wr 3 [iV (r : Int)]) (fun u hu => by rw [List.mem_singleton.1 hu]; rfl) (by unfold maxLen; omega) (by omega) HBA.out.size ?_; intro v' w6 hown' hgrow _; have HO6 := Lib.hid hown'; have HG6 := Lib.hid (HBA.out.grown hgrow HBA.out.size (fun k hk => (HO.out.lt k hk).1)); clear hown' hgrow)
                  go_roundw
                  case rel =>
                    refine ⟨q + 1, by omega, by go_num, ?_, Lib.hid (fun h => by omega), ?_, HG6.out⟩
                    · unfold AtC
                      rw [if_neg (by omega), Nat.add_sub_cancel, HRR.out]
                    · rw [turnsC_succ, List.map_append, HRR.out]
                      exact HO6.out
                  case measure => simp [intOf]; omega
        · have hkM' : (M : Int) ≤ (k : Int) := by omega
          have htl := turnsC_length l (turnAt last l) k
          have hvr := row_of_own HT.out.own
          have HV := Lib.hid hvr
          have hFAIR := fun (n : Int) (hn : I64 n) => H.fair n B A cb cap (turnsC l (turnAt last l) k) l wr hn hvr (HS.out.below (HT.out.low.mono (Nat.le_refl _))) (by rw [htl]; exact q1) q2 hc1 hc2 (by rw [htl]; omega) (by omega)
          rw [htl] at hFAIR
          have HFR := Lib.hid (fun (W : World) (h : Below wr.heap.size wr W) (n : Int) (hn : I64 n) => H.fair n B A cb cap (turnsC l (turnAt last l) k) l W hn (HV.out.below h) (HS.out.below ((HT.out.low.trans (h.mono HT.out.low.size)).mono (Nat.le_refl _))) (by rw [htl]; exact q1) q2 hc1 hc2 (by rw [htl]; omega) (by omega))
          rw [htl] at HFR
          clear hvr hFAIR htl
          go_wp2_with fail
          refine (HFR.out wr (Below.refl _ _) (m : Int) (i64_small (by omega) (by omega))).mono ?_
          rintro e w4 ⟨rfl, hb⟩
          have HB4 := Lib.hid hb
          have HBT := Lib.hid (HT.out.low.trans (hb.mono HT.out.low.size))
          clear hb
          by_cases hz : m = 0
          · subst hz
            generalize fairC (turnsC l (turnAt last l) k) l ((0 : Nat) : Int) = f
            go_wp2_with (go_at_call 8; refine (lives_any H _).mono ?_; rintro e w6 ⟨rfl, hb6⟩; have HL6 := Lib.hid (HBT.out.trans (hb6.mono HBT.out.size)); clear hb6)
            all_goals
              go_ret
              exact ⟨rfl, HL6.out⟩
          · have hm1 : (1 : Int) ≤ (m : Int) := by omega
            have hff := turns_fair (l := l) (s := turnAt last l) (m := k) (by rw [HG.out]; omega)
            rw [HG.out] at hff
            rw [hff]
            clear hff
            by_cases hkm : k < m
            · have hkm' : (k : Int) < (m : Int) := by omega
              go_wp2_with (go_at_call 8; refine (lives_any H _).mono ?_; rintro e w6 ⟨rfl, hb6⟩; have HL6 := Lib.hid (HBT.out.trans (hb6.mono HBT.out.size)); clear hb6)
              go_ret
              exact ⟨rfl, HL6.out⟩
            · have hkm' : (m : Int) ≤ (k : Int) := by omega
              have huf := turns_unfair (l := l) (s := turnAt last l) (m := k) (by rw [HG.out]; omega) (by rw [HG.out]; omega)
              rw [HG.out] at huf
              have HUF := Lib.hid huf
              clear huf hkm
              go_wp2_with fail
              refine (HFR.out w4 HB4.out ((m : Int) - 1) (i64_small (by omega) (by omega))).mono ?_
              rintro e w5 ⟨rfl, hb⟩
              rw [HUF.out]
              have HB5 := Lib.hid (HBT.out.trans (hb.mono HBT.out.size))
              clear hb
              go_wp2_with (go_at_call 8; refine (lives_any H _).mono ?_; rintro e w6 ⟨rfl, hb6⟩; have HL6 := Lib.hid (HB5.out.trans (hb6.mono HB5.out.size)); clear hb6)
              go_ret
              exact ⟨rfl, HL6.out⟩
set_option maxHeartbeats 1000000 in
theorem lawTurns_long (H : Prg) (last k : Int) (A : Option Addr) (m cap : Nat) (w : World) (hm : 50 < m) :
    Calls Try.prog 5 #[.slice A m cap, .int .i64 last, .int .u8 k] w fun e w' => e = .returned (.bool true) ∧ Below w.heap.size w w' := by
  go_enter Try.func5, Try.ntmps5
  go_wp2_with (go_at_call 8; refine (lives_any H _).mono ?_; rintro e w4 ⟨rfl, hb4⟩; have HL4 := Lib.hid hb4; clear hb4)
  go_ret
  exact ⟨rfl, HL4.out⟩
end Go.Proofs.Ytmominipgkchjaa
