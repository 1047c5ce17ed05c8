/-
  The program's Rest of layer 4: the longest rest of a number, in one pass; condition: the picks lie as it says.
-/
import Derived.Test.YtmominipgkchjaaE1
namespace Go.Proofs.Ytmominipgkchjaa
open Go.RowKit

/-- How many picks ago that number stood, of the first k. -/
def sinceN (ps : List Int) (n : Int) : Nat → Nat
  | 0 => 0
  | k + 1 => if ps.getD k n = n then 0 else sinceN ps n k + 1
def longN (ps : List Int) (n : Int) : Nat → Nat
  | 0 => 0
  | k + 1 => max (longN ps n k) (sinceN ps n (k + 1))
theorem since_yes {ps : List Int} {n : Int} {k : Nat} (h : ps.getD k n = n) : sinceN ps n (k + 1) = 0 := if_pos h
theorem since_no {ps : List Int} {n : Int} {k : Nat} (h : ps.getD k n ≠ n) : sinceN ps n (k + 1) = sinceN ps n k + 1 := if_neg h
theorem long_succ (ps : List Int) (n : Int) (k : Nat) : longN ps n (k + 1) = max (longN ps n k) (sinceN ps n (k + 1)) := rfl
theorem since_le (ps : List Int) (n : Int) (k : Nat) : sinceN ps n k ≤ k := by
  induction k with
  | zero => exact Nat.le_refl _
  | succ k ih =>
    by_cases h : ps.getD k n = n
    · rw [since_yes h]; omega
    · rw [since_no h]; omega
theorem long_le (ps : List Int) (n : Int) (k : Nat) : longN ps n k ≤ k := by
  induction k with
  | zero => exact Nat.le_refl _
  | succ k ih =>
    have := since_le ps n (k + 1)
    rw [long_succ]; omega
theorem since_run (ps : List Int) (n : Int) (k : Nat) : ∀ t, k - sinceN ps n k ≤ t → t < k → ps.getD t n ≠ n := by
  induction k with
  | zero => exact fun t _ h => by omega
  | succ k ih =>
    intro t h1 h2
    by_cases h : ps.getD k n = n
    · rw [since_yes h] at h1; omega
    · rw [since_no h] at h1
      rcases Nat.lt_or_ge t k with h3 | h3
      · exact ih t (by omega) h3
      · obtain rfl : t = k := by omega
        exact h
theorem since_ge (ps : List Int) (n : Int) (i : Nat) : ∀ d, (∀ t, i ≤ t → t < i + d → ps.getD t n ≠ n) → d ≤ sinceN ps n (i + d) := by
  intro d
  induction d with
  | zero => exact fun _ => Nat.zero_le _
  | succ d ih =>
    intro h
    rw [show i + (d + 1) = (i + d) + 1 by omega, since_no (h (i + d) (by omega) (by omega))]
    have := ih fun t h1 h2 => h t h1 (by omega)
    omega
theorem since_long (ps : List Int) (n : Int) (k : Nat) : ∀ j, j ≤ k → sinceN ps n j ≤ longN ps n k := by
  induction k with
  | zero => intro j hj; obtain rfl : j = 0 := by omega
            exact Nat.le_refl _
  | succ k ih =>
    intro j hj
    rw [long_succ]
    rcases Nat.lt_or_ge j (k + 1) with h | h
    · have := ih j (by omega); omega
    · obtain rfl : j = k + 1 := by omega
      omega
theorem long_at (ps : List Int) (n : Int) (k : Nat) : ∃ j, j ≤ k ∧ longN ps n k = sinceN ps n j := by
  induction k with
  | zero => exact ⟨0, Nat.le_refl _, rfl⟩
  | succ k ih =>
    obtain ⟨j, hj, he⟩ := ih
    rw [long_succ]
    rcases Nat.le_total (longN ps n k) (sinceN ps n (k + 1)) with h | h
    · exact ⟨k + 1, Nat.le_refl _, by omega⟩
    · exact ⟨j, by omega, by omega⟩
/-- One pass tells the longest rest. -/
theorem long_rest (ps : List Int) (n : Int) : longN ps n ps.length = restC ps n := by
  refine Nat.le_antisymm ?_ ?_
  · obtain ⟨j, hj, he⟩ := long_at ps n ps.length
    rw [he]
    have hs := since_le ps n j
    rcases Nat.eq_zero_or_pos (sinceN ps n j) with h0 | h0
    · omega
    · have hr := (restN_le ps n ps.length (restC ps n)).1 (Nat.le_refl _) (j - sinceN ps n j) (by omega)
      refine Nat.le_trans ?_ hr
      refine Nat.le_of_not_lt fun hlt => ?_
      have h2 := (dist_at ps n (j - sinceN ps n j)).2 (by omega)
      exact since_run ps n j _ (by omega) (by omega) h2
  · refine (restN_le ps n _ _).2 fun i hi => ?_
    have h1 := since_ge ps n i (distC ps n i) (dist_at ps n i).1
    have h2 := dist_le ps n i
    have h3 := since_long ps n ps.length (i + distC ps n i) (by omega)
    omega
set_option maxHeartbeats 2000000 in
theorem rest_any (n : Int) (A : Option Addr) (cap : Nat) (ps : List Int) (w : World) (hs : Row w A (ps.map iV)) (hl : ps.length ≤ 100000) :
    Calls Try.prog 14 #[.slice A ps.length cap, .int .i64 n] w fun e w' => e = .returned (.int .i64 (restC ps n : Int)) ∧ w = w' := by
  have HS := Lib.hid hs
  clear hs
  go_enter Try.func14, Try.ntmps14
  go_wp2_with fail
  go_loopw [5, 6, 11] (fun m r i wr => ∃ k a b : Nat, k ≤ ps.length ∧ i = .int .i64 (k : Int) ∧ m = .int .i64 (a : Int) ∧ r = .int .i64 (b : Int) ∧ Hid (longN ps n k = a) ∧ Hid (sinceN ps n k = b) ∧ wr = w) (fun _ _ i _ => ps.length - (intOf i).toNat)
  case atStart => exact ⟨0, 0, 0, Nat.zero_le _, rfl, rfl, rfl, Lib.hid rfl, Lib.hid rfl, rfl⟩
  case round =>
    obtain ⟨k, a, b, hk, rfl, rfl, rfl, HL, HN, rfl⟩ := hrel
    have ha : a ≤ 100000 := by have := long_le ps n k; have := HL.out; omega
    have hb : b ≤ 100000 := by have := since_le ps n k; have := HN.out; omega
    by_cases hlt : k < ps.length
    · obtain ⟨g, off, rfl, hc⟩ := HS.out.at_ (k := k) (by rw [List.length_map]; exact hlt)
      have y := hc k _ (ints_at n hlt)
      have hlt' : (k : Int) < (ps.length : Int) := by omega
      have hge : (0 : Int) ≤ (k : Int) := by omega
      clear hc
      obtain ⟨v, hv⟩ : ∃ v, ps.getD k n = v := ⟨_, rfl⟩
      rw [hv] at y
      by_cases hvn : v = n
      · have HS1 := Lib.hid (since_yes (hv.trans hvn))
        have HL1 := Lib.hid (long_succ ps n k)
        subst hvn
        clear hv
        have HM := Lib.hid (show (if (a : Int) < 0 then (0 : Int) else (a : Int)) = (a : Int) by split <;> omega)
        have ha0 : ¬ ((a : Int) < 0) := by omega
        go_wp2_with fail
        go_roundw
        case rel => exact ⟨k + 1, a, 0, by omega, by go_num, by first | rfl | rw [HM.out], rfl, Lib.hid (by rw [HL1.out, HL.out, HS1.out]; omega), HS1, by trivial⟩
        case measure => simp [intOf]; omega
      · have HS1 := Lib.hid (since_no (fun h => hvn (hv.symm.trans h)))
        have HL1 := Lib.hid (long_succ ps n k)
        clear hv
        by_cases hm : a < b + 1
        · have hm' : (a : Int) < (b : Int) + 1 := by omega
          go_wp2_with fail
          go_roundw
          case rel => exact ⟨k + 1, b + 1, b + 1, by omega, by go_num, by go_num, by go_num, Lib.hid (by rw [HL1.out, HL.out, HS1.out, HN.out]; omega), Lib.hid (by rw [HS1.out, HN.out]), by trivial⟩
          case measure => simp [intOf]; omega
        · have hm' : (b : Int) + 1 ≤ (a : Int) := by omega
          go_wp2_with fail
          go_roundw
          case rel => exact ⟨k + 1, a, b + 1, by omega, by go_num, by go_num, by go_num, Lib.hid (by rw [HL1.out, HL.out, HS1.out, HN.out]; omega), Lib.hid (by rw [HS1.out, HN.out]), by trivial⟩
          case measure => simp [intOf]; omega
    · have hge : (ps.length : Int) ≤ (k : Int) := by omega
      obtain rfl : k = ps.length := by omega
      go_wp2_with fail
      go_ret
      exact ⟨ret_int (by rw [← HL.out, long_rest]), rfl⟩
end Go.Proofs.Ytmominipgkchjaa
