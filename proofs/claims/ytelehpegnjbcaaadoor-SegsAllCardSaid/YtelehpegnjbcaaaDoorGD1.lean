/-
  The document's answers of layer 6: each call gives back the plain side's, and changes nothing that was there; condition: the arguments are numbers of their kinds, the words lie as it says.
-/
import Derived.Test.YtelehpegnjbcaaaDoorGRow
namespace Go.Proofs.YtelehpegnjbcaaaDoor
open Go.RowKit

theorem drewN_below (w : World) (n : Nat) : Below w.heap.size w (w.drewN n) := below_drewN' (Below.refl _ _) n
theorem ret_bool {a b : Bool} (h : a = b) : Ending.returned (.bool a) = .returned (.bool b) := by rw [h]
theorem ret_pair {a b c d : Int} (h : a = b) (k : c = d) : Ending.returned (.tuple #[.int .i64 a, .int .i64 c]) = .returned (.tuple #[.int .i64 b, .int .i64 d]) := by rw [h, k]
set_option maxHeartbeats 1000000 in
theorem rslots_any (n : Int) (w : World) : Calls Tryd.prog 10 #[.int .i64 n] w fun e w' => e = .returned (.tuple #[.int .i64 (fromG n), .int .i64 (toG n)]) ∧ w' = w := by
  by_cases h0 : n < 0
  · go_enter Tryd.func10, Tryd.ntmps10
    go_wp2
    go_ret2
    exact ⟨ret_pair (by unfold fromG; rw [if_neg (by omega)]) (by unfold toG; rw [if_neg (by omega)]), rfl⟩
  · by_cases h1 : 31 < n
    · go_enter Tryd.func10, Tryd.ntmps10
      go_wp2
      go_ret2
      exact ⟨ret_pair (by unfold fromG; rw [if_neg (by omega)]) (by unfold toG; rw [if_neg (by omega)]), rfl⟩
    · have e1 : IntKind.i64.wrap (8 * n) = 8 * n := by rw [IntKind.wrap_i64]; omega
      have e2 : IntKind.i64.wrap (8 * n + 8) = 8 * n + 8 := by rw [IntKind.wrap_i64]; omega
      have e3 : fromG n = 8 * n := by unfold fromG; rw [if_pos (by omega)]
      have e4 : toG n = 8 * n + 8 := by unfold toG; rw [if_pos (by omega)]
      rw [e3, e4]
      clear e3 e4
      go_enter Tryd.func10, Tryd.ntmps10
      go_wp2
      go_ret2
      exact ⟨rfl, rfl⟩
theorem ofG_at {n : Int} {k : Nat} (h0 : 8 * (k : Int) ≤ n) (h1 : n < 8 * (k : Int) + 8) (hk : k < 32) : ofG n = (k : Int) := by
  unfold ofG
  rw [if_pos (by omega)]
  omega
theorem ofG_no {n : Int} (h : ∀ j : Nat, j < 32 → ¬ (8 * (j : Int) ≤ n ∧ n < 8 * (j : Int) + 8)) : ofG n = -1 := by
  unfold ofG
  rw [if_neg]
  intro hn
  exact h (n / 8).toNat (by omega) (by omega)
set_option maxHeartbeats 2000000 in
theorem rof_any (n : Int) (w : World) : Calls Tryd.prog 12 #[.int .i64 n] w fun e w' => e = .returned (.int .i64 (ofG n)) ∧ w' = w := by
  go_enter Tryd.func12, Tryd.ntmps12
  go_wp2
  go_loopw [3] (fun i wr => ∃ k : Nat, k ≤ 32 ∧ i = .int .i64 (k : Int) ∧ Hid (∀ j : Nat, j < k → ¬ (8 * (j : Int) ≤ n ∧ n < 8 * (j : Int) + 8)) ∧ w = wr) (fun i _ => 32 - (intOf i).toNat)
  case atStart => exact ⟨0, by omega, rfl, Lib.hid (fun j h => by omega), rfl⟩
  case round =>
    obtain ⟨k, hk, rfl, HJ, rfl⟩ := hrel
    have hk0 : (0 : Int) ≤ (k : Int) := by omega
    by_cases hlt : k < 32
    · have hlt' : (k : Int) < 32 := by omega
      have e1 : IntKind.i64.wrap (8 * (k : Int)) = 8 * (k : Int) := by rw [IntKind.wrap_i64]; omega
      have e2 : IntKind.i64.wrap (8 * (k : Int) + 8) = 8 * (k : Int) + 8 := by rw [IntKind.wrap_i64]; omega
      have HN := Lib.hid (fun (h : ¬ (8 * (k : Int) ≤ n ∧ n < 8 * (k : Int) + 8)) => (show ∀ j : Nat, j < k + 1 → ¬ (8 * (j : Int) ≤ n ∧ n < 8 * (j : Int) + 8) from fun j h1 => by
        rcases Nat.lt_or_ge j k with h3 | h3
        · exact HJ.out j h3
        · obtain rfl : j = k := by omega
          exact h))
      by_cases h0 : 8 * (k : Int) ≤ n
      · by_cases h1 : n < 8 * (k : Int) + 8
        · have HP := Lib.hid (ofG_at h0 h1 hlt)
          go_wp2
          go_ret
          exact ⟨ret_int HP.out.symm, rfl⟩
        · have HP := Lib.hid (HN.out (fun h => h1 h.2))
          go_wp2
          go_roundw
          case rel => exact ⟨k + 1, by omega, by go_num, HP, trivial⟩
          case measure => simp [intOf]; omega
      · have HP := Lib.hid (HN.out (fun h => h0 h.1))
        go_wp2
        go_roundw
        case rel => exact ⟨k + 1, by omega, by go_num, HP, trivial⟩
        case measure => simp [intOf]; omega
    · have hge : (32 : Int) ≤ (k : Int) := by omega
      have HP := Lib.hid (ofG_no (fun j h => HJ.out j (by omega)))
      go_wp2
      go_ret
      exact ⟨ret_int HP.out.symm, rfl⟩
set_option maxHeartbeats 2000000 in
theorem rmay_any (s p : Int) (w : World) : Calls Tryd.prog 17 #[.int .u64 s, .int .u64 p] w fun e w' => e = .returned (.bool (maySeg s p)) ∧ w' = w := by
  by_cases h0 : s = 0
  · subst h0
    go_enter Tryd.func17, Tryd.ntmps17
    go_wp2
    go_ret
    exact ⟨ret_bool (by rw [Bool.eq_iff_iff]; simp [maySeg]), rfl⟩
  · by_cases h1 : s = 1
    · subst h1
      go_enter Tryd.func17, Tryd.ntmps17
      go_wp2
      go_ret
      exact ⟨ret_bool (by rw [Bool.eq_iff_iff]; simp [maySeg]), rfl⟩
    · by_cases h2 : s = 2
      · subst h2
        go_enter Tryd.func17, Tryd.ntmps17
        go_wp2
        go_ret
        exact ⟨ret_bool (by rw [Bool.eq_iff_iff]; simp [maySeg]), rfl⟩
      · have b0 : (s == 0) = false := beq_eq_false_iff_ne.2 h0
        have b1 : (s == 1) = false := beq_eq_false_iff_ne.2 h1
        have b2 : (s == 2) = false := beq_eq_false_iff_ne.2 h2
        go_enter Tryd.func17, Tryd.ntmps17
        go_wp2
        go_ret
        exact ⟨ret_bool (by rw [Bool.eq_iff_iff]; simp [maySeg, h0, h1, h2]), rfl⟩
set_option maxHeartbeats 4000000 in
theorem rturns_any (s p t : Int) (w : World) : Calls Tryd.prog 19 #[.int .u64 s, .int .u64 p, .int .u64 t] w fun e w' => e = .returned (.bool (turnsG s p t)) ∧ w' = w := by
  have HC := Lib.hid (rmay_any s p w)
  obtain ⟨b, hb⟩ : ∃ b, maySeg s p = b := ⟨_, rfl⟩
  rw [hb] at HC
  have HU := Lib.hid (show turnsG s p t = (b && decide ((t = 0 ∧ s = 2 ∧ p = 8) ∨ (t = 1 ∧ (s = 0 ∨ s = 2)) ∨ (t = 2 ∧ s = 1))) by unfold turnsG; rw [hb])
  clear hb
  cases b with
  | false =>
    go_enter Tryd.func19, Tryd.ntmps19
    go_wp2_with (go_at_call 17; refine HC.out.mono ?_; rintro e w1 ⟨rfl, rfl⟩)
    go_ret
    exact ⟨ret_bool (by rw [HU.out]; rfl), rfl⟩
  | true =>
    by_cases h0 : t = 0
    · subst h0
      by_cases h1 : s = 2
      · subst h1
        go_enter Tryd.func19, Tryd.ntmps19
        go_wp2_with (go_at_call 17; refine HC.out.mono ?_; rintro e w1 ⟨rfl, rfl⟩)
        go_ret
        exact ⟨ret_bool (by rw [HU.out, Bool.eq_iff_iff]; simp), rfl⟩
      · have b1 : (s == 2) = false := beq_eq_false_iff_ne.2 h1
        have HS := Lib.hid h1
        clear h1
        go_enter Tryd.func19, Tryd.ntmps19
        go_wp2_with (go_at_call 17; refine HC.out.mono ?_; rintro e w1 ⟨rfl, rfl⟩)
        go_ret
        exact ⟨ret_bool (by rw [HU.out, Bool.eq_iff_iff]; simp [HS.out]), rfl⟩
    · by_cases h1 : t = 1
      · subst h1
        by_cases h2 : s = 0
        · subst h2
          go_enter Tryd.func19, Tryd.ntmps19
          go_wp2_with (go_at_call 17; refine HC.out.mono ?_; rintro e w1 ⟨rfl, rfl⟩)
          go_ret
          exact ⟨ret_bool (by rw [HU.out, Bool.eq_iff_iff]; simp), rfl⟩
        · have b1 : (s == 0) = false := beq_eq_false_iff_ne.2 h2
          have HS := Lib.hid h2
          clear h2
          go_enter Tryd.func19, Tryd.ntmps19
          go_wp2_with (go_at_call 17; refine HC.out.mono ?_; rintro e w1 ⟨rfl, rfl⟩)
          go_ret
          exact ⟨ret_bool (by rw [HU.out, Bool.eq_iff_iff]; simp [HS.out]), rfl⟩
      · by_cases h2 : t = 2
        · subst h2
          go_enter Tryd.func19, Tryd.ntmps19
          go_wp2_with (go_at_call 17; refine HC.out.mono ?_; rintro e w1 ⟨rfl, rfl⟩)
          go_ret
          exact ⟨ret_bool (by rw [HU.out, Bool.eq_iff_iff]; simp), rfl⟩
        · have b0 : (t == 0) = false := beq_eq_false_iff_ne.2 h0
          have b1 : (t == 1) = false := beq_eq_false_iff_ne.2 h1
          have b2 : (t == 2) = false := beq_eq_false_iff_ne.2 h2
          have HT := Lib.hid (show turnsG s p t = false by rw [HU.out]; simp [h0, h1, h2])
          clear h0 h1 h2
          go_enter Tryd.func19, Tryd.ntmps19
          go_wp2_with (go_at_call 17; refine HC.out.mono ?_; rintro e w1 ⟨rfl, rfl⟩)
          go_ret
          exact ⟨ret_bool HT.out.symm, rfl⟩
set_option maxHeartbeats 2000000 in
theorem rcount_any (A : Option Addr) (cap : Nat) (l : List Int) (k : Int) (w : World) (hs : Row w A (l.map uV)) (hu : ∀ x ∈ l, U64 x) (hl : l.length ≤ 100000) :
    Calls Tryd.prog 21 #[.slice A l.length cap, .int .u8 k] w fun e w' => e = .returned (.int .i64 (countN l k : Int)) ∧ w' = w := by
  have HS := Lib.hid hs
  have HU := Lib.hid hu
  clear hs hu
  go_enter Tryd.func21, Tryd.ntmps21
  go_wp2
  go_loopw [5, 6] (fun n i wr => ∃ j : Nat, j ≤ l.length ∧ i = .int .i64 (j : Int) ∧ n = .int .i64 ((countN (l.take j) k : Nat) : Int) ∧ w = wr) (fun _ i _ => l.length - (intOf i).toNat)
  case atStart => exact ⟨0, Nat.zero_le _, rfl, rfl, rfl⟩
  case round =>
    obtain ⟨j, hj, rfl, rfl, rfl⟩ := hrel
    have hj0 : (0 : Int) ≤ (j : Int) := by omega
    by_cases hlt : j < l.length
    · have hlt' : (j : Int) < (l.length : Int) := by omega
      obtain ⟨g, off, rfl, hc⟩ := HS.out.at_ (k := j) (by rw [List.length_map]; exact hlt)
      have y := hc j _ (words_at hlt)
      have hx : U64 (l.getD j 0) := by
        rw [List.getD_eq_getElem?_getD, List.getElem?_eq_getElem hlt]
        exact HU.out _ (List.getElem_mem hlt)
      have HX := Lib.hid (fun w => asHeader24_any (l.getD j 0) w hx)
      rw [fld_s] at HX
      have HT := Lib.hid (countN_take hlt k)
      have hle := countN_le (l.take j) k
      rw [List.length_take] at hle
      obtain ⟨V, hV⟩ : ∃ V, countN (l.take j) k = V := ⟨_, rfl⟩
      rw [hV] at HT hle ⊢
      have eV : IntKind.i64.wrap ((V : Int) + 1) = (V : Int) + 1 := by rw [IntKind.wrap_i64]; omega
      obtain ⟨s, hs⟩ : ∃ s, stOf (l.getD j 0) = s := ⟨_, rfl⟩
      rw [show stS (l.getD j 0 % 8) = s from hs] at HX
      rw [hs] at HT
      clear hc hV hs hx hle
      generalize l.getD j 0 = x at *
      by_cases he : s = k
      · subst he
        go_wp2_with (go_at_call 25; refine (HX.out _).mono ?_; rintro e w1 ⟨rfl, rfl⟩)
        go_roundw
        case rel => exact ⟨j + 1, by omega, by go_num, by rw [HT.out, if_pos trivial]; push_cast; rfl, trivial⟩
        case measure => simp [intOf]; omega
      · have hb : (s == k) = false := beq_eq_false_iff_ne.2 he
        have HE := Lib.hid he
        clear he
        go_wp2_with (go_at_call 25; refine (HX.out _).mono ?_; rintro e w1 ⟨rfl, rfl⟩)
        go_roundw
        case rel => exact ⟨j + 1, by omega, by go_num, by rw [HT.out, if_neg HE.out, Nat.add_zero], trivial⟩
        case measure => simp [intOf]; omega
    · have hge : (l.length : Int) ≤ (j : Int) := by omega
      have HP := Lib.hid (show l.take j = l from List.take_of_length_le (by omega))
      go_wp2
      go_ret
      exact ⟨ret_int (by rw [HP.out]), rfl⟩
end Go.Proofs.YtelehpegnjbcaaaDoor
