/-
  The document's side of stage 4: Rest and Fair; are lists the same; condition: what lies lies as it says.
-/
import Derived.Test.YtmominipgkchjaaD1
namespace Go.Proofs.Ytmominipgkchjaa
open Go.RowKit

theorem dist_stop {ps : List Int} {n : Int} {i j : Nat} (hij : i ≤ j) (hj : j ≤ ps.length) (ho : ∀ k, i ≤ k → k < j → ps.getD k n ≠ n) (hs : j = ps.length ∨ ps.getD j n = n) : distC ps n i = j - i := by
  obtain ⟨h1, h2⟩ := dist_at ps n i
  have hd := dist_le ps n i
  rcases Nat.lt_trichotomy (i + distC ps n i) j with h | h | h
  · exact absurd (h2 (by omega)) (ho _ (by omega) h)
  · omega
  · rcases hs with hs | hs
    · omega
    · exact absurd hs (h1 j hij h)
set_option maxHeartbeats 2000000 in
theorem rrest_any (n : Int) (A : Option Addr) (cap : Nat) (ps : List Int) (w : World) (hs : Row w A (ps.map iV)) (hl : ps.length ≤ 100000) :
    Calls Try.prog 15 #[.slice A ps.length cap, .int .i64 n] w fun e w' => e = .returned (.int .i64 (restC ps n : Int)) ∧ w = w' := by
  have HS := Lib.hid hs
  have H0 := Lib.hid (restN_zero ps n)
  clear hs
  go_enter Try.func15, Try.ntmps15
  go_wp2_with fail
  go_loopw [5, 6] (fun m i wr => ∃ k r : Nat, k ≤ ps.length ∧ i = .int .i64 (k : Int) ∧ m = .int .i64 (r : Int) ∧ Hid (restN ps n k = r) ∧ wr = w) (fun _ i _ => ps.length - (intOf i).toNat)
  case atStart => exact ⟨0, 0, Nat.zero_le _, rfl, rfl, H0, rfl⟩
  case round =>
    obtain ⟨k, r, hk, rfl, rfl, HR, rfl⟩ := hrel
    by_cases hlt : k < ps.length
    · obtain ⟨g, off, rfl, hc⟩ := HS.out.at_ (k := k) (by rw [List.length_map]; exact hlt)
      have HC := Lib.hid (fun j (h : j < ps.length) => hc _ _ (ints_at (l := ps) (k := j) n h))
      have hlt' : (k : Int) < (ps.length : Int) := by omega
      have hge : (0 : Int) ≤ (k : Int) := by omega
      have hr1 : r ≤ 100000 := by
        have h1 := (restN_le ps n k ps.length).2 (fun i _ => by have := dist_le ps n i; omega)
        have h2 := HR.out
        omega
      clear hc
      go_wp2_with fail
      go_loopw [7] (fun j wq => ∃ q : Nat, k ≤ q ∧ q ≤ ps.length ∧ j = .int .i64 (q : Int) ∧ Hid (∀ t, k ≤ t → t < q → ps.getD t n ≠ n) ∧ wq = wr) (fun j _ => ps.length - (intOf j).toNat)
      case atStart => exact ⟨k, Nat.le_refl _, hk, rfl, Lib.hid (fun t h1 h2 => by omega), rfl⟩
      case round =>
        obtain ⟨q, hkq, hq, rfl, HQ, rfl⟩ := hrel
        have hq0 : (0 : Int) ≤ (q : Int) := by omega
        have hqk : (k : Int) ≤ (q : Int) := by omega
        have hstop : (q = ps.length ∨ ps.getD q n = n) → Hid (((max r (q - k) : Nat) : Int) = (restN ps n (k + 1) : Int)) := fun h => Lib.hid (by rw [restN_succ, HR.out, dist_stop hkq hq HQ.out h])
        have HSTOP := Lib.hid hstop
        clear hstop
        by_cases hql : q < ps.length
        · have hql' : (q : Int) < (ps.length : Int) := by omega
          have y := HC.out q hql
          obtain ⟨v, hv⟩ : ∃ v, ps.getD q n = v := ⟨_, rfl⟩
          rw [hv] at y
          by_cases hvn : v = n
          · have HE := Lib.hid (HSTOP.out (.inr (hv.trans hvn)))
            subst hvn
            obtain ⟨mx, hm⟩ : ∃ mx, max r (q - k) = mx := ⟨_, rfl⟩
            rw [hm] at HE
            have HMX := Lib.hid (show (if (r : Int) < (q : Int) - (k : Int) then (q : Int) - (k : Int) else (r : Int)) = (mx : Int) by split <;> omega)
            clear hv hm
            go_wp2_with fail
            go_roundw
            case rel => exact ⟨k + 1, mx, by omega, by go_num, by rw [HMX.out], Lib.hid (by have := HE.out.out; omega), by trivial⟩
            case measure => simp [intOf]; omega
          · have HV := Lib.hid hv
            clear hv
            go_wp2_with fail
            go_roundw
            case rel =>
              refine ⟨q + 1, by omega, by omega, by go_num, Lib.hid (fun t h1 h2 => ?_), by trivial⟩
              rcases Nat.lt_or_ge t q with h | h
              · exact HQ.out t h1 h
              · obtain rfl : t = q := by omega
                rw [HV.out]
                exact hvn
            case measure => simp [intOf]; omega
        · have hql' : (ps.length : Int) ≤ (q : Int) := by omega
          have HE := Lib.hid (HSTOP.out (.inl (by omega)))
          obtain ⟨mx, hm⟩ : ∃ mx, max r (q - k) = mx := ⟨_, rfl⟩
          rw [hm] at HE
          have HMX := Lib.hid (show (if (r : Int) < (q : Int) - (k : Int) then (q : Int) - (k : Int) else (r : Int)) = (mx : Int) by split <;> omega)
          clear hm
          go_wp2_with fail
          go_roundw
          case rel => exact ⟨k + 1, mx, by omega, by go_num, by rw [HMX.out], Lib.hid (by have := HE.out.out; omega), by trivial⟩
          case measure => simp [intOf]; omega
    · have hge : (ps.length : Int) ≤ (k : Int) := by omega
      obtain rfl : k = ps.length := by omega
      go_wp2_with fail
      go_ret
      exact ⟨ret_int (by rw [← HR.out]; rfl), rfl⟩
theorem fair_no {ps : List Int} {who : List Bool} {within : Int} {k : Nat} (hk : k < who.length) (hw : who.getD k false = true) (h : within ≤ (restC ps (k : Int) : Int)) : fairC ps who within = false := by
  rw [Bool.eq_false_iff]
  intro hf
  have := (fair_iff ps who within).1 hf k hk hw
  omega
set_option maxHeartbeats 1000000 in
theorem rfair_any (within : Int) (A B : Option Addr) (ca cb : Nat) (ps : List Int) (who : List Bool) (w : World) (hs : Row w A (ps.map iV)) (hb : Row w B (who.map bV)) (hl : ps.length ≤ 100000) (hm : who.length ≤ 100000) :
    Calls Try.prog 17 #[.slice A ps.length ca, .slice B who.length cb, .int .i64 within] w fun e w' => e = .returned (.bool (fairC ps who within)) ∧ w = w' := by
  have HS := Lib.hid hs
  have HB := Lib.hid hb
  clear hs hb
  go_enter Try.func17, Try.ntmps17
  go_wp2_with fail
  go_loopw [7] (fun i wr => ∃ k : Nat, k ≤ who.length ∧ i = .int .i64 (k : Int) ∧ Hid (∀ t, t < k → who.getD t false = true → (restC ps (t : Int) : Int) < within) ∧ wr = w) (fun i _ => who.length - (intOf i).toNat)
  case atStart => exact ⟨0, Nat.zero_le _, rfl, Lib.hid (fun t h => by omega), rfl⟩
  case round =>
    obtain ⟨k, hk, rfl, HR, rfl⟩ := hrel
    by_cases hlt : k < who.length
    · obtain ⟨g, off, rfl, hc⟩ := HB.out.at_ (k := k) (by rw [List.length_map]; exact hlt)
      have y := hc k _ (bools_at hlt)
      have hlt' : (k : Int) < (who.length : Int) := by omega
      have hge : (0 : Int) ≤ (k : Int) := by omega
      clear hc
      cases hb : who.getD k false with
      | false =>
        rw [hb] at y
        have HB2 := Lib.hid hb
        clear hb
        go_wp2_with fail
        go_roundw
        case rel =>
          refine ⟨k + 1, by omega, by go_num, Lib.hid (fun t h1 h2 => ?_), by trivial⟩
          rcases Nat.lt_or_ge t k with h | h
          · exact HR.out t h h2
          · obtain rfl : t = k := by omega
            rw [HB2.out] at h2
            cases h2
        case measure => simp [intOf]; omega
      | true =>
        rw [hb] at y
        have HC := Lib.hid (rrest_any (k : Int) A ca ps wr HS.out hl)
        have HB2 := Lib.hid hb
        obtain ⟨r, hr⟩ : ∃ r : Int, (restC ps (k : Int) : Int) = r := ⟨_, rfl⟩
        rw [hr] at HC
        clear hb
        by_cases hrw : r < within
        · have HR2 := Lib.hid (show (restC ps (k : Int) : Int) < within by omega)
          clear hr
          go_wp2_with (go_at_call 15; refine HC.out.mono ?_; rintro e w1 ⟨rfl, rfl⟩)
          go_roundw
          case rel =>
            refine ⟨k + 1, by omega, by go_num, Lib.hid (fun t h1 h2 => ?_), by trivial⟩
            rcases Nat.lt_or_ge t k with h | h
            · exact HR.out t h h2
            · obtain rfl : t = k := by omega
              exact HR2.out
          case measure => simp [intOf]; omega
        · have HF := Lib.hid (fair_no hlt HB2.out (show within ≤ (restC ps (k : Int) : Int) by omega))
          have hrw' : within ≤ r := by omega
          clear hr hrw
          go_wp2_with (go_at_call 15; refine HC.out.mono ?_; rintro e w1 ⟨rfl, rfl⟩)
          go_ret
          exact ⟨ret_bool HF.out.symm, rfl⟩
    · have hge : (who.length : Int) ≤ (k : Int) := by omega
      obtain rfl : k = who.length := by omega
      have HF := Lib.hid ((fair_iff ps who within).2 HR.out)
      go_wp2_with fail
      go_ret
      exact ⟨ret_bool HF.out.symm, rfl⟩
set_option maxHeartbeats 1000000 in
theorem same_any (A B : Option Addr) (ca cb : Nat) (l : List Bool) (w : World) (ha : Row w A (l.map bV)) (hb : Row w B (l.map bV)) (hl : l.length ≤ 100000) :
    Calls Try.prog 13 #[.slice A l.length ca, .slice B l.length cb] w fun e w' => e = .returned (.bool true) ∧ Below w.heap.size w w' := by
  have HA := Lib.hid ha
  have HB := Lib.hid hb
  have H0 := Lib.hid (Below.refl w.heap.size w)
  clear ha hb
  go_enter Try.func13, Try.ntmps13
  go_wp2_with fail
  go_loopw [5] (fun i wr => ∃ k : Nat, k ≤ l.length ∧ i = .int .i64 (k : Int) ∧ Below w.heap.size w wr) (fun i _ => l.length - (intOf i).toNat)
  case atStart => exact ⟨0, Nat.zero_le _, rfl, H0.out⟩
  case round =>
    obtain ⟨k, hk, rfl, hr⟩ := hrel
    have HR := Lib.hid hr
    clear hr
    by_cases hlt : k < l.length
    · obtain ⟨g, off, rfl, hc⟩ := (HA.out.below (HR.out.mono (Nat.le_refl _))).at_ (k := k) (by rw [List.length_map]; exact hlt)
      obtain ⟨g2, off2, rfl, hc2⟩ := (HB.out.below (HR.out.mono (Nat.le_refl _))).at_ (k := k) (by rw [List.length_map]; exact hlt)
      have y := hc k _ (bools_at hlt)
      have y2 := hc2 k _ (bools_at hlt)
      generalize l.getD k false = b at y y2
      have hlt' : (k : Int) < (l.length : Int) := by omega
      have hge : (0 : Int) ≤ (k : Int) := by omega
      clear hc hc2
      go_wp2_with fail
      go_quiet (fail)
      go_wp2_with fail
      go_roundw
      case rel => exact ⟨k + 1, by omega, by go_num, below_drewN' HR.out _⟩
      case measure => simp [intOf]; omega
    · have hge : (l.length : Int) ≤ (k : Int) := by omega
      go_wp2_with fail
      go_ret
      exact ⟨rfl, HR.out⟩
end Go.Proofs.Ytmominipgkchjaa
