/-
  The document's side of stage 4: those that may go, Pick, Turn; condition: the bools lie as it says.
-/
import Derived.Test.YtmominipgkchjaaA1
namespace Go.Proofs.Ytmominipgkchjaa
open Go.RowKit

/-- What stands between two rounds of goers. -/
structure GAt (w0 : World) (l : List Bool) (k : Nat) (v : Value) (w : World) : Prop where
  own : w.ownsRow w0.heap.size 3 1 v (goN l k).length ((goN l k).map nV)
  low : Below w0.heap.size w0 w
set_option maxHeartbeats 1000000 in
theorem rgoers_any (A : Option Addr) (cap : Nat) (l : List Bool) (w : World) (hs : Row w A (l.map bV)) (hl : l.length ≤ 100000) :
    Calls Try.prog 20 #[.slice A l.length cap] w fun e w' => ∃ v, e = .returned v ∧ w'.ownsRow w.heap.size 3 1 v (goers l).length ((goers l).map nV) ∧ Below w.heap.size w w' := by
  obtain ⟨i0, hi, hz0, hz1, hz2⟩ := info_parts Try_infoI
  have H0 := Lib.hid (⟨World.ownsRow_nil w _ _ _, Below.refl _ _⟩ : GAt w l 0 (.slice none 0 0) w)
  have HS := Lib.hid hs
  clear hs
  go_enter Try.func20, Try.ntmps20
  go_wp2_with fail
  go_loopw [3, 4] (fun v i wr => ∃ k : Nat, k ≤ l.length ∧ i = .int .i64 (k : Int) ∧ GAt w l k v wr) (fun _ i _ => l.length - (intOf i).toNat)
  case atStart => exact ⟨0, Nat.zero_le _, rfl, H0.out⟩
  case round =>
    obtain ⟨k, hk, rfl, hr⟩ := hrel
    have HR := Lib.hid hr
    clear hr
    by_cases hlt : k < l.length
    · obtain ⟨g, off, rfl, hc⟩ := (HS.out.below (HR.out.low.mono (Nat.le_refl _))).at_ (k := k) (by rw [List.length_map]; exact hlt)
      have y := hc k _ (bools_at hlt)
      have hlt' : (k : Int) < (l.length : Int) := by omega
      have hge : (0 : Int) ≤ (k : Int) := by omega
      have hgl := goN_length l k
      clear hc
      cases hb : l.getD k false with
      | false =>
        rw [hb] at y
        have HN := Lib.hid (goN_no hb)
        clear hb
        go_wp2_with fail
        go_roundw
        case rel => exact ⟨k + 1, by omega, by go_num, by rw [HN.out]; exact HR.out.own, HR.out.low⟩
        case measure => simp [intOf]; omega
      | true =>
        rw [hb] at y
        have HN := Lib.hid (goN_yes hb)
        have HO := Lib.hid (HR.out.own.alloc (.cells #[nV k] 3))
        have HB := Lib.hid (HR.out.low.alloc HR.out.low.size (.cells #[nV k] 3))
        clear hb
        go_wp2_with (at_builtin; refine wpList_append_own _ rfl (.tmp 15) (.tmp 17) _ rfl w.heap.size 3 i0 _ 1 8 Try.underlying27 hi hz0 hz1 hz2 rfl (by decide) _ (goN l k).length ((goN l k).map nV) rfl HO.out ⟨wr.heap.size, 0, none⟩ 1 1 [nV k] rfl rfl (cells_new wr 3 [nV k]) (fun u hu => by rw [List.mem_singleton.1 hu]; rfl) (by unfold maxLen; omega) (by omega) HB.out.size ?_; intro v' w4 hown' hgrow _; have HO4 := Lib.hid hown'; have HG := Lib.hid (HB.out.grown hgrow HB.out.size (fun k hk => (HO.out.lt k hk).1)); clear hown' hgrow)
        go_roundw
        case rel =>
          refine ⟨k + 1, by omega, by go_num, ?_, HG.out⟩
          rw [HN.out, List.length_append, List.map_append]
          exact HO4.out
        case measure => simp [intOf]; omega
    · have hge : (l.length : Int) ≤ (k : Int) := by omega
      have hkl : k = l.length := by omega
      subst hkl
      go_wp2_with fail
      go_ret
      exact ⟨_, rfl, HR.out.own, HR.out.low⟩
theorem rgoers_s (A : Option Addr) (cap : Nat) (l : List Bool) (w : World) (hs : Row w A (l.map bV)) (hl : l.length ≤ 100000) :
    Calls Try.prog 20 #[.slice A l.length cap] w fun e w' => ∃ B c, e = .returned (.slice B (goers l).length c) ∧ Row w' B ((goers l).map nV) ∧ Below w.heap.size w w' := by
  refine (rgoers_any A cap l w hs hl).mono ?_
  rintro e w' ⟨v, rfl, ho, hb⟩
  obtain ⟨B, c, rfl, _, _, _⟩ := own_slice ho
  exact ⟨B, c, rfl, row_of_own ho, hb⟩
theorem pick_none {n : Int} {l : List Bool} (h : (goers l).length = 0) : pickC n l = -1 := if_pos h
theorem pick_some {n : Int} {l : List Bool} (h : 0 < (goers l).length) : pickC n l = (goAt l (n.toNat % (goers l).length) : Int) := if_neg (by omega)
set_option maxHeartbeats 1000000 in
theorem rpick_any (n : Int) (A : Option Addr) (cap : Nat) (l : List Bool) (w : World) (hs : Row w A (l.map bV)) (hl : l.length ≤ 100000) :
    Calls Try.prog 10 #[.int .i64 n, .slice A l.length cap] w fun e w' => e = .returned (.int .i64 (pickC n l)) ∧ Below w.heap.size w w' := by
  have hgl := goers_length l
  obtain ⟨G, hG⟩ : ∃ G, (goers l).length = G := ⟨_, rfl⟩
  have HC := Lib.hid (rgoers_s A cap l w hs hl)
  rw [hG] at HC hgl
  clear hs
  go_enter Try.func10, Try.ntmps10
  go_wp2_with fail
  refine HC.out.mono ?_
  rintro e w1 ⟨B, c, rfl, hr, hb⟩
  have HB := Lib.hid hb
  have HR := Lib.hid hr
  have HG := Lib.hid hG
  clear hr hb hG HC
  by_cases hz : G = 0
  · subst hz
    have HP := Lib.hid (pick_none (n := n) HG.out)
    go_wp2_with fail
    go_ret
    exact ⟨ret_int HP.out.symm, HB.out⟩
  · have hG1 : 0 < G := by omega
    have hG0 : (0 : Int) < (G : Int) := by omega
    have hgz : ((G : Int) == 0) = false := beq_eq_false_iff_ne.2 (by omega)
    have HP := Lib.hid (pick_some (n := n) (by rw [HG.out]; exact hG1))
    obtain ⟨g, off, rfl, hc⟩ := HR.out.at_ (k := 0) (by rw [List.length_map, HG.out]; exact hG1)
    have hm := Nat.mod_lt n.toNat hG1
    have y := hc _ _ (go_at (l := l) (k := n.toNat % G) (by rw [HG.out]; exact hm))
    have HRES := Lib.hid (show (goAt l (n.toNat % G) : Int) = pickC n l by rw [HP.out, HG.out])
    clear hc HP HR
    by_cases hn : n < 0
    · have e0 : n.toNat % G = 0 := by rw [show n.toNat = 0 by omega, Nat.zero_mod]
      rw [e0] at y HRES
      rw [Nat.add_zero] at y
      clear e0 hm
      generalize (goAt l 0 : Int) = r at *
      go_wp2_with fail
      go_ret
      exact ⟨ret_int HRES.out, HB.out⟩
    · obtain ⟨N, rfl⟩ : ∃ N : Nat, n = (N : Int) := ⟨n.toNat, by omega⟩
      have e0 : ((N : Int)).toNat = N := rfl
      rw [e0] at y HRES hm
      have e1 : ((N : Int)).tmod (G : Int) = ((N % G : Nat) : Int) := by
        rw [Int.tmod_eq_emod_of_nonneg (by omega)]
        rfl
      obtain ⟨m, hm2⟩ : ∃ m, N % G = m := ⟨_, rfl⟩
      rw [hm2] at y HRES hm e1
      have hm' : (m : Int) < (G : Int) := by omega
      have hm0 : (0 : Int) ≤ (m : Int) := by omega
      have e2 : ((N : Int)) % (G : Int) = (m : Int) := by
        rw [← hm2]
        rfl
      generalize (goAt l m : Int) = r at *
      have hN0 : (0 : Int) ≤ (N : Int) := by omega
      clear e0 hm2
      go_wp2_with fail
      go_ret
      exact ⟨ret_int HRES.out, HB.out⟩
theorem turn_none {n : Int} {l : List Bool} (h : (goers l).length = 0) : turnC n l = -1 := if_pos h
theorem turn_some {n : Int} {l : List Bool} (h : 0 < (goers l).length) : turnC n l = (goAt l (turnAt n l) : Int) := if_neg (by omega)
set_option maxHeartbeats 1000000 in
theorem rturn_any (n : Int) (A : Option Addr) (cap : Nat) (l : List Bool) (w : World) (hs : Row w A (l.map bV)) (hl : l.length ≤ 100000) :
    Calls Try.prog 12 #[.int .i64 n, .slice A l.length cap] w fun e w' => e = .returned (.int .i64 (turnC n l)) ∧ Below w.heap.size w w' := by
  have hgl := goers_length l
  obtain ⟨G, hG⟩ : ∃ G, (goers l).length = G := ⟨_, rfl⟩
  have HC := Lib.hid (rgoers_s A cap l w hs hl)
  rw [hG] at HC hgl
  clear hs
  go_enter Try.func12, Try.ntmps12
  go_wp2_with fail
  refine HC.out.mono ?_
  rintro e w1 ⟨B, c, rfl, hr, hb⟩
  have HB := Lib.hid hb
  have HR := Lib.hid hr
  have HG := Lib.hid hG
  clear hr hb hG HC
  by_cases hz : G = 0
  · subst hz
    have HP := Lib.hid (turn_none (n := n) HG.out)
    go_wp2_with fail
    go_ret
    exact ⟨ret_int HP.out.symm, HB.out⟩
  · have hG1 : 0 < G := by omega
    have hG0 : (0 : Int) < (G : Int) := by omega
    have hgz : ((G : Int) == 0) = false := beq_eq_false_iff_ne.2 (by omega)
    obtain ⟨g, off, rfl, hc⟩ := HR.out.at_ (k := 0) (by rw [List.length_map, HG.out]; exact hG1)
    have HC := Lib.hid (fun k (h : k < G) => hc _ _ (go_at (l := l) (k := k) (by rw [HG.out]; exact h)))
    have HP := Lib.hid (turn_some (n := n) (by rw [HG.out]; exact hG1))
    have HF := Lib.hid (fun i (h : i < G) => turnAt_first (last := n) (l := l) (i := i) (by rw [HG.out]; exact h))
    have HN := Lib.hid (fun (h : ∀ j, j < G → isBehind n l j = false) => turnAt_none (last := n) (l := l) (fun j hj => h j (by rw [← HG.out]; exact hj)))
    have HI := Lib.hid (fun j => (show isBehind n l j = decide ((goAt l j : Int) > n ∨ n ≥ (l.length : Int)) from rfl))
    clear hc HR hz
    go_wp2_with fail
    go_loopw [6] (fun i wr => ∃ k : Nat, k ≤ G ∧ i = .int .i64 (k : Int) ∧ wr = w1 ∧ Hid (∀ j, j < k → isBehind n l j = false)) (fun i _ => G - (intOf i).toNat)
    case atStart => exact ⟨0, Nat.zero_le _, rfl, rfl, Lib.hid (fun j hj => by omega)⟩
    case round =>
      obtain ⟨k, hk, rfl, rfl, HJ⟩ := hrel
      by_cases hlt : k < G
      · have hlt' : (k : Int) < (G : Int) := by omega
        have hge : (0 : Int) ≤ (k : Int) := by omega
        have y := HC.out k hlt
        have HI1 := Lib.hid (HI.out k)
        obtain ⟨r, hr⟩ : ∃ r, (goAt l k : Int) = r := ⟨_, rfl⟩
        rw [hr] at y HI1
        by_cases hbe : r > n ∨ n ≥ (l.length : Int)
        · have HT := Lib.hid (HF.out k hlt (by rw [HI1.out]; exact decide_eq_true hbe) HJ.out)
          have HRS := Lib.hid (show r = turnC n l by rw [HP.out, HT.out, hr])
          clear hr
          rcases Int.lt_or_le n r with h1 | h1
          · clear hbe
            go_wp2_with fail
            go_ret
            exact ⟨ret_int HRS.out, HB.out⟩
          · have h2 : (l.length : Int) ≤ n := by omega
            clear hbe
            go_wp2_with fail
            go_ret
            exact ⟨ret_int HRS.out, HB.out⟩
        · have hno := Lib.hid (show isBehind n l k = false by rw [HI1.out]; exact decide_eq_false hbe)
          have h1 : r ≤ n := by omega
          have h2 : n < (l.length : Int) := by omega
          clear hbe hr
          go_wp2_with fail
          go_roundw
          case rel =>
            refine ⟨k + 1, by omega, by go_num, by trivial, Lib.hid (fun j hj => ?_)⟩
            rcases Nat.lt_or_ge j k with h | h
            · exact HJ.out j h
            · obtain rfl : j = k := by omega
              exact hno.out
          case measure => simp [intOf]; omega
      · have hge : (G : Int) ≤ (k : Int) := by omega
        have y := HC.out 0 hG1
        rw [Nat.add_zero] at y
        have HT := Lib.hid (HN.out (fun j hj => HJ.out j (by omega)))
        have HRS := Lib.hid (show (goAt l 0 : Int) = turnC n l by rw [HP.out, HT.out])
        generalize (goAt l 0 : Int) = r at *
        go_wp2_with fail
        go_ret
        exact ⟨ret_int HRS.out, HB.out⟩
end Go.Proofs.Ytmominipgkchjaa
