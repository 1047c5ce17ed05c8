/-
  The document's side of stage 5: Of and Past; conditions: words of 64 bits, generations of 32; the words lie as it says.
-/
import Derived.Test.YtfholfmlkehfnaaDoorHD2
namespace Go.Proofs.YtfholfmlkehfnaaDoor
open Go.RowKit

theorem of_first {w to most : Int} {k : Nat} (h1 : 1 ≤ k) (h7 : k ≤ 7) (hd : doneH w (k : Int) most = some to) (hb : ∀ j : Nat, 1 ≤ j → j < k → doneH w (j : Int) most ≠ some to) : ofH w to most = (k : Int) := by
  have n1 := hb 1
  have n2 := hb 2
  have n3 := hb 3
  have n4 := hb 4
  have n5 := hb 5
  have n6 := hb 6
  have hk : k = 1 ∨ k = 2 ∨ k = 3 ∨ k = 4 ∨ k = 5 ∨ k = 6 ∨ k = 7 := by omega
  unfold ofH
  rcases hk with rfl | rfl | rfl | rfl | rfl | rfl | rfl
  all_goals
    simp at n1 n2 n3 n4 n5 n6 hd
    simp [*]
theorem of_zero {w to most : Int} (hb : ∀ j : Nat, 1 ≤ j → j < 8 → doneH w (j : Int) most ≠ some to) : ofH w to most = 0 := by
  have n1 := hb 1 (by omega) (by omega)
  have n2 := hb 2 (by omega) (by omega)
  have n3 := hb 3 (by omega) (by omega)
  have n4 := hb 4 (by omega) (by omega)
  have n5 := hb 5 (by omega) (by omega)
  have n6 := hb 6 (by omega) (by omega)
  have n7 := hb 7 (by omega) (by omega)
  unfold ofH
  simp at n1 n2 n3 n4 n5 n6 n7
  simp [*]
set_option maxHeartbeats 2000000 in
theorem rof_any (x to most : Int) (w : World) (hx : U64 x) (hm : U32 most) : Calls Tryd.prog 10 #[.int .u64 x, .int .u64 to, .int .u32 most] w fun e w' => e = .returned (.int .i64 (ofH x to most)) ∧ w' = w := by
  have CD := Lib.hid (fun c W => rdone_any x c most W hx hm)
  clear hx hm
  go_enter Tryd.func10, Tryd.ntmps10
  go_wp2_with fail
  go_loopw [7] (fun c wr => ∃ k : Nat, 1 ≤ k ∧ k ≤ 8 ∧ c = .int .i64 (k : Int) ∧ Hid (∀ j : Nat, 1 ≤ j → j < k → doneH x (j : Int) most ≠ some to) ∧ wr = w) (fun c _ => 8 - (intOf c).toNat)
  case atStart => exact ⟨1, Nat.le_refl _, by omega, rfl, Lib.hid (fun j h1 h2 => by omega), rfl⟩
  case round =>
    obtain ⟨k, hk1, hk8, rfl, HJ, rfl⟩ := hrel
    have hk0 : (0 : Int) ≤ (k : Int) := by omega
    have hk9 : (k : Int) ≤ 8 := by omega
    by_cases hlt : k ≤ 7
    · have hlt' : (k : Int) ≤ 7 := by omega
      have CD1 := Lib.hid (CD.out (k : Int) wr)
      have HFI := Lib.hid (fun h => of_first (w := x) (to := to) (most := most) hk1 hlt h HJ.out)
      have HNX := Lib.hid (fun (h : doneH x (k : Int) most ≠ some to) => (show ∀ j : Nat, 1 ≤ j → j < k + 1 → doneH x (j : Int) most ≠ some to from fun j h1 h2 => by
        rcases Nat.lt_or_ge j k with h3 | h3
        · exact HJ.out j h1 h3
        · obtain rfl : j = k := by omega
          exact h))
      cases hd : doneH x (k : Int) most with
      | none =>
        rw [hd, told_none] at CD1
        have HN := Lib.hid (HNX.out (by rw [hd]; simp))
        clear hd
        go_wp2_with fail
        refine CD1.out.mono ?_
        rintro e w' ⟨rfl, rfl⟩
        go_wp2_with fail
        go_roundw
        case rel => exact ⟨k + 1, by omega, by omega, by go_num, HN, by trivial⟩
        case measure => simp [intOf]; omega
      | some v =>
        rw [hd, told_some] at CD1
        by_cases hv : v = to
        · have HR := Lib.hid (HFI.out (by rw [hd, hv]))
          subst hv
          clear hd
          go_wp2_with fail
          refine CD1.out.mono ?_
          rintro e w' ⟨rfl, rfl⟩
          go_wp2_with fail
          go_ret
          exact ⟨ret_int HR.out.symm, rfl⟩
        · have HN := Lib.hid (HNX.out (by rw [hd]; intro e; exact hv (Option.some.inj e)))
          have hvb : (v == to) = false := beq_eq_false_iff_ne.2 hv
          clear hd
          go_wp2_with fail
          refine CD1.out.mono ?_
          rintro e w' ⟨rfl, rfl⟩
          go_wp2_with fail
          go_roundw
          case rel => exact ⟨k + 1, by omega, by omega, by go_num, HN, by trivial⟩
          case measure => simp [intOf]; omega
    · have hge : (7 : Int) < (k : Int) := by omega
      have HR := Lib.hid (of_zero (w := x) (to := to) (most := most) (fun j h1 h2 => HJ.out j h1 (by omega)))
      go_wp2_with fail
      go_ret
      exact ⟨ret_int HR.out.symm, rfl⟩
theorem getD_u64 {l : List Int} (h : ∀ x ∈ l, U64 x) (k : Nat) : U64 (l.getD k 0) := by
  rw [List.getD_eq_getElem?_getD]
  cases e : l[k]? with
  | none => exact ⟨by decide, by decide⟩
  | some x => exact h x (List.mem_of_getElem? e)
theorem ok_zero (l : List Int) (most : Int) : okAt l most 0 = mayH (l.getD 0 0) most := rfl
theorem ok_succ (l : List Int) (most : Int) (j : Nat) : okAt l most (j + 1) = decide (ofH (l.getD j 0) (l.getD (j + 1) 0) most ≠ 0) := rfl
set_option maxHeartbeats 4000000 in
theorem rpast_any (A : Option Addr) (cap : Nat) (l : List Int) (most : Int) (w : World) (hs : Row w A (l.map uV)) (hu : ∀ x ∈ l, U64 x) (hm : U32 most) (hl : l.length ≤ 100000) :
    Calls Tryd.prog 16 #[.slice A l.length cap, .int .u32 most] w fun e w' => e = .returned (.int .i64 (pastH l most : Int)) ∧ Below w.heap.size w w' := by
  have HS := Lib.hid hs
  have CM := Lib.hid (fun k W => rmay_any (l.getD k 0) most W (getD_u64 hu k) hm)
  have CO := Lib.hid (fun k to W => rof_any (l.getD k 0) to most W (getD_u64 hu k) hm)
  have H0 := Lib.hid (Below.refl w.heap.size w)
  clear hs hu hm
  go_enter Tryd.func16, Tryd.ntmps16
  go_wp2_with fail
  go_loopw [5] (fun i wr => ∃ k : Nat, k ≤ l.length ∧ i = .int .i64 (k : Int) ∧ Hid (∀ j, j < k → okAt l most j = true) ∧ Below w.heap.size w wr) (fun i _ => l.length - (intOf i).toNat)
  case atStart => exact ⟨0, Nat.zero_le _, rfl, Lib.hid (fun j h => by omega), H0.out⟩
  case round =>
    obtain ⟨k, hk, rfl, HJ, hr⟩ := hrel
    have HR := Lib.hid hr
    clear hr
    by_cases hlt : k < l.length
    · have hlt' : (k : Int) < (l.length : Int) := by omega
      obtain ⟨g, off, rfl, hc⟩ := (HS.out.below (HR.out.mono (Nat.le_refl _))).at_ (k := k) (by rw [List.length_map]; exact hlt)
      have HF := Lib.hid (fun h => past_first hlt h HJ.out)
      have HN := Lib.hid (fun (h : okAt l most k = true) => (show ∀ j, j < k + 1 → okAt l most j = true from fun j h1 => by
        rcases Nat.lt_or_ge j k with h3 | h3
        · exact HJ.out j h3
        · obtain rfl : j = k := by omega
          exact h))
      cases k with
      | zero =>
        have y := hc 0 _ (words_at hlt)
        rw [Nat.add_zero] at y
        have CM1 := Lib.hid (CM.out 0)
        have HE := Lib.hid (ok_zero l most)
        clear hc
        cases hb : mayH (l.getD 0 0) most with
        | false =>
          have HP := Lib.hid (HF.out (HE.out.trans hb))
          rw [hb] at CM1
          clear hb
          generalize l.getD 0 0 = x at y CM1
          go_wp2_with fail
          go_quiet ((go_at_call 8; exact Calls.quiet_of_same (CM1.out _)))
          go_wp2_with fail
          go_ret
          exact ⟨ret_int (by rw [HP.out]; try rfl), below_drewN' HR.out _⟩
        | true =>
          have HP := Lib.hid (HN.out (HE.out.trans hb))
          rw [hb] at CM1
          clear hb
          generalize l.getD 0 0 = x at y CM1
          go_wp2_with fail
          go_quiet ((go_at_call 8; exact Calls.quiet_of_same (CM1.out _)))
          go_wp2_with fail
          go_roundw
          case rel => exact ⟨1, by omega, by go_num, HP, below_drewN' HR.out _⟩
          case measure => simp [intOf]; omega
      | succ j =>
        have y := hc (j + 1) _ (words_at hlt)
        have y0 := hc j _ (words_at (by omega))
        have CO1 := Lib.hid (CO.out j (l.getD (j + 1) 0))
        have HE := Lib.hid (ok_succ l most j)
        have hj0 : (0 : Int) ≤ (j : Int) := by omega
        have hj1 : (j : Int) + 1 < (l.length : Int) := by omega
        have hjb : ((j : Int) + 1 == 0) = false := beq_eq_false_iff_ne.2 (by omega)
        have hj2 : (j : Int) < (l.length : Int) := by omega
        clear hc
        obtain ⟨z, hz⟩ : ∃ z, ofH (l.getD j 0) (l.getD (j + 1) 0) most = z := ⟨_, rfl⟩
        rw [hz] at CO1
        have HZ := Lib.hid hz
        clear hz
        generalize l.getD j 0 = x0 at y0 CO1 HE HZ
        generalize l.getD (j + 1) 0 = x1 at y CO1 HE HZ
        by_cases hb : z = 0
        · have HP := Lib.hid (HF.out (HE.out.trans (decide_eq_false (by rw [HZ.out, hb]; simp))))
          subst hb
          go_wp2_with fail
          go_quiet ((go_at_call 10; exact Calls.quiet_of_same (CO1.out _)))
          go_wp2_with fail
          go_ret
          exact ⟨ret_int (by rw [HP.out]; try rfl), below_drewN' HR.out _⟩
        · have HP := Lib.hid (HN.out (HE.out.trans (decide_eq_true (by rw [HZ.out]; exact hb))))
          have hzb : (z == 0) = false := beq_eq_false_iff_ne.2 hb
          go_wp2_with fail
          go_quiet ((go_at_call 10; exact Calls.quiet_of_same (CO1.out _)))
          go_wp2_with fail
          go_roundw
          case rel => exact ⟨j + 1 + 1, by omega, by go_num, HP, below_drewN' HR.out _⟩
          case measure => simp [intOf]; omega
    · have hge : (l.length : Int) ≤ (k : Int) := by omega
      have HP := Lib.hid (past_all (l := l) (most := most) (fun j h => HJ.out j (by omega)))
      go_wp2_with fail
      go_ret
      exact ⟨ret_int (by rw [HP.out]), HR.out⟩
end Go.Proofs.YtfholfmlkehfnaaDoor
