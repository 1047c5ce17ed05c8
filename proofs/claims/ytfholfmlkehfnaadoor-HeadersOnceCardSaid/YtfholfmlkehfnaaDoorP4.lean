/-
  The program's Past of layer 5: where a header's past breaks; conditions: the tables read as the program lays them; the words lie as it says.
-/
import Derived.Test.YtfholfmlkehfnaaDoorP1
namespace Go.Proofs.YtfholfmlkehfnaaDoor
open Go.RowKit

set_option maxRecDepth 100000 in
set_option maxHeartbeats 4000000 in
theorem past_any (A : Option Addr) (cap : Nat) (l : List Int) (most : Int) (w : World) (hl : Lay w) (hll : LayL w) (hs : Row w A (l.map uV)) (hu : ∀ x ∈ l, U64 x) (hm' : U32 most) (hn : l.length ≤ cap) (hl3 : l.length ≤ 1000) :
    Calls Tryd.prog 15 #[.slice A l.length cap, .int .u32 most] w fun e w' => e = .returned (.int .i64 (pastH l most : Int)) ∧ Below w.heap.size w w' := by
  have HS := Lib.hid hs
  have CM := Lib.hid (fun W (hW : Below w.heap.size w W) => may_any (l.getD 0 0) most W (hl.below hW) (getD_u64 hu 0) hm')
  have CO := Lib.hid (fun k j W (hW : Below w.heap.size w W) => of_any' (l.getD k 0) (l.getD j 0) most W (hl.below hW) (hll.below hll.lt hW) (getD_u64 hu k) (getD_u64 hu j) hm')
  have H0 := Lib.hid (Below.refl w.heap.size w)
  clear hs hu hm' hl hll
  by_cases hz : l.length = 0
  · have hnil := List.length_eq_zero_iff.1 hz
    subst hnil
    clear hz
    simp only [List.length_nil] at *
    go_enter Tryd.func15, Tryd.ntmps15
    go_wp2_with fail
    go_ret
    exact ⟨ret_int rfl, H0.out⟩
  · obtain ⟨g, off, rfl, hc⟩ := HS.out.at_ (k := 0) (by rw [List.length_map]; omega)
    have y := hc 0 _ (words_at (by omega))
    rw [Nat.add_zero] at y
    have hzi : ((l.length : Int) == 0) = false := beq_eq_false_iff_ne.2 (by omega)
    have hp0 : (0 : Int) < (l.length : Int) := by omega
    have HE := Lib.hid (ok_zero l most)
    have CM1 := Lib.hid (CM.out w H0.out)
    clear hc CM
    cases hb : mayH (l.getD 0 0) most with
    | false =>
      have HP := Lib.hid (past_first (by omega) (HE.out.trans hb) (fun j hj => by omega))
      rw [hb] at CM1
      clear hb
      generalize l.getD 0 0 = x at y CM1
      go_enter Tryd.func15, Tryd.ntmps15
      go_wp2_with (go_at_call 7; refine CM1.out.mono ?_; rintro e w1 ⟨rfl, hb1⟩)
      go_ret
      exact ⟨ret_int (by rw [HP.out]; rfl), hb1⟩
    | true =>
      have HK0 := Lib.hid (HE.out.trans hb)
      rw [hb] at CM1
      clear hb
      generalize l.getD 0 0 = x at y CM1
      go_enter Tryd.func15, Tryd.ntmps15
      go_wp2_with (go_at_call 7; refine CM1.out.mono ?_; rintro e w1 ⟨rfl, hb1⟩)
      have HB1 := Lib.hid hb1
      clear hb1 CM1 y HE
      go_loopw [24] (fun i wr => ∃ k : Nat, k ≤ l.length - 1 ∧ i = .int .i64 (k : Int) ∧ Hid (∀ j, j ≤ k → okAt l most j = true) ∧ Below w.heap.size w wr) (fun i _ => l.length - (intOf i).toNat)
      case atStart => exact ⟨0, Nat.zero_le _, rfl, Lib.hid (fun j h => by rw [show j = 0 by omega]; exact HK0.out), HB1.out⟩
      case round =>
        obtain ⟨k, hk, rfl, HJ, hr⟩ := hrel
        have HR := Lib.hid hr
        clear hr
        by_cases hlt : k < l.length - 1
        · have hlt' : (k : Int) < ((l.length - 1 : Nat) : Int) := by omega
          obtain ⟨g', off', he, hc2⟩ := (HS.out.below (HR.out.mono (Nat.le_refl _))).at_ (k := 0) (by rw [List.length_map]; omega)
          cases he
          have y0 := hc2 k _ (words_at (by omega))
          have y1 := hc2 (k + 1) _ (words_at (by omega))
          have CO1 := Lib.hid (CO.out k (k + 1) wr HR.out)
          have HE := Lib.hid (ok_succ l most k)
          have hk0 : (0 : Int) ≤ (k : Int) := by omega
          have hk1 : (k : Int) + 1 < (l.length : Int) := by omega
          have hk2 : (0 : Int) ≤ (k : Int) + 1 := by omega
          have HF := Lib.hid (fun h => past_first (l := l) (most := most) (i := k + 1) (by omega) h (fun j hj => HJ.out j (by omega)))
          have HN := Lib.hid (fun (h : okAt l most (k + 1) = true) => (show ∀ j, j ≤ k + 1 → okAt l most j = true from fun j h1 => by
            rcases Nat.lt_or_ge j (k + 1) with h3 | h3
            · exact HJ.out j (by omega)
            · obtain rfl : j = k + 1 := by omega
              exact h))
          obtain ⟨z, hz2⟩ : ∃ z, ofH (l.getD k 0) (l.getD (k + 1) 0) most = z := ⟨_, rfl⟩
          rw [hz2] at CO1
          have HZ := Lib.hid hz2
          clear hz2 hc2
          generalize l.getD k 0 = x0 at y0 CO1 HE HZ
          generalize l.getD (k + 1) 0 = x1 at y1 CO1 HE HZ
          by_cases hb : z = 0
          · have HP := Lib.hid (HF.out (HE.out.trans (decide_eq_false (by rw [HZ.out, hb]; simp))))
            subst hb
            go_wp2_with (go_at_call 9; refine CO1.out.mono ?_; rintro e w2 ⟨rfl, hb2⟩)
            go_ret
            exact ⟨ret_int (by rw [HP.out]; push_cast; rfl), HR.out.trans (hb2.mono HR.out.size)⟩
          · have HP := Lib.hid (HN.out (HE.out.trans (decide_eq_true (by rw [HZ.out]; exact hb))))
            have hzb : (z == 0) = false := beq_eq_false_iff_ne.2 hb
            go_wp2_with (go_at_call 9; refine CO1.out.mono ?_; rintro e w2 ⟨rfl, hb2⟩)
            go_roundw
            case rel => exact ⟨k + 1, by omega, by go_num, HP, HR.out.trans (hb2.mono HR.out.size)⟩
            case measure => simp [intOf]; omega
        · have hge : ((l.length - 1 : Nat) : Int) ≤ (k : Int) := by omega
          have HP := Lib.hid (past_all (l := l) (most := most) (fun j h => HJ.out j (by omega)))
          go_wp2_with fail
          go_ret
          exact ⟨ret_int (by rw [HP.out]), HR.out⟩
end Go.Proofs.YtfholfmlkehfnaaDoor
