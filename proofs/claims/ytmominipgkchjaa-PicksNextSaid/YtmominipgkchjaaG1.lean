/-
  The program's iterator of layer 4: those that may go, one by one, whatever the loop's body; condition: the bools lie as it says, and the body leaves them alone.
-/
import Derived.Test.YtmominipgkchjaaE1
import Derived.RangeFuncNested
import Derived.RangeFuncBound
import Derived.RangeFuncCalls
import Derived.RangeFuncLeaves
import Derived.RangeFuncStops
import Derived.RangeFuncOwn
import Derived.RangeFuncBox
import Derived.Shelf.Abstract
import Derived.Shelf.RegionOpen
import Derived.OwnWalkIn
import Derived.TacticsInMore
import Derived.LoopNIn
import Derived.LoopIn
namespace Go.Proofs.Ytmominipgkchjaa
open Go.RowKit Go.Shelf

theorem Row.keep {w w' : World} {A : Option Addr} {vs : List Value} {n₀ : Nat} (h : Row w A vs) (hA : vs ≠ [] → ∀ a, A = some a → a.block < n₀) (hb : Below n₀ w w') : Row w' A vs := fun hl => by
  obtain ⟨g, off, rfl, hB⟩ := h hl
  exact ⟨g, off, rfl, fun i v hi => (hb.cell (p := ⟨g, off + i, Option.none⟩) (show g < n₀ from hA hl ⟨g, off, Option.none⟩ rfl)).trans (hB i v hi)⟩
theorem Row.lt {w : World} {A : Option Addr} {vs : List Value} (h : Row w A vs) : vs ≠ [] → ∀ a, A = some a → a.block < w.heap.size := fun hl a ha => by
  obtain ⟨g, off, he, hB⟩ := h hl
  rw [he] at ha
  cases ha
  have h0 : 0 < vs.length := List.length_pos_iff.2 hl
  exact World.block_lt_of_cell? w _ (hB 0 _ (List.getElem?_eq_getElem h0))
theorem goN_lt {l : List Bool} {k : Nat} (h : l.getD k false = true) (hk : k < l.length) : (goN l k).length < (goers l).length := (List.getElem?_eq_some_iff.1 (goers_at h hk)).1
theorem goN_pre (l : List Bool) (k : Nat) (hk : k ≤ l.length) : ∃ r, goN l k ++ r = goers l := by
  obtain ⟨r, hr⟩ := goN_prefix l k l.length hk
  exact ⟨r, hr.symm⟩

set_option maxRecDepth 100000 in
set_option maxHeartbeats 2000000 in
theorem those1_in (n n₀ y bx cap : Nat) (A : Option Addr) (l : List Bool) (hn : 1 ≤ n) (J Jx : List Nat → World → Prop)
    (hY : ∀ pre x W1, J pre W1 → pre.length < (goers l).length → YieldAt Fence.wide (n - 1) Try.prog y #[nV x] W1 fun e W' =>
      (e = .returned (.bool true) ∧ J (pre ++ [x]) W' ∧ Below n₀ W1 W') ∨ (e = .returned (.bool false) ∧ Jx (pre ++ [x]) W'))
    (W : World) (hbox : W.cell? ⟨bx, 0, none⟩ = some (.slice A l.length cap)) (hrow : Row W A (l.map bV)) (hA : l.map bV ≠ [] → ∀ a, A = some a → a.block < n₀) (hl : l.length ≤ 1000000) (h0 : J [] W) :
    CallsIn Fence.wide n Try.prog 22 #[.func (.yield y) #[] #[], .pointer (some ⟨bx, 0, none⟩)] W fun e W' => (∃ v, e = .returned v) ∧ ((∃ xs, xs = goers l ∧ J xs W') ∨ (∃ pre, (∃ r, pre ++ r = goers l) ∧ Jx pre W')) := by
  have HR := Lib.hid hrow
  have HA := Lib.hid hA
  have HY := Lib.hid hY
  have H0 := Lib.hid h0
  clear hrow hA hY h0
  refine callsIn_of_wp Try.func22 rfl trivial ?_ rfl
  simp only [Try.ntmps22, List.size_toArray, List.length_cons, List.length_nil, Nat.reduceAdd, Nat.reduceSub, Array.replicate_succ, Array.replicate_zero, List.push_toArray, List.append_toArray, List.nil_append, List.cons_append]
  gi_wp2
  gi_loopw [7] (fun i wr => ∃ k : Nat, k ≤ l.length ∧ i = .int .i64 (k : Int) ∧ Hid (J (goN l k) wr) ∧ Hid (Row wr A (l.map bV))) (fun i _ => l.length - (intOf i).toNat)
  case atStart => exact ⟨0, Nat.zero_le _, rfl, H0, HR⟩
  case round =>
    obtain ⟨k, hk, rfl, HJ, HW⟩ := hrel
    by_cases hlt : k < l.length
    · obtain ⟨g, off, hAe, hc⟩ := HW.out.at_ (k := k) (by rw [List.length_map]; exact hlt)
      have hc0 := hc k _ (bools_at hlt)
      have hlt' : (k : Int) < (l.length : Int) := by omega
      have hge : (0 : Int) ≤ (k : Int) := by omega
      subst hAe
      clear hc
      cases hb : l.getD k false with
      | false =>
        rw [hb] at hc0
        have HN := Lib.hid (goN_no hb)
        clear hb
        gi_wp2
        refine ⟨fun _ h => (by cases h), ?_⟩
        gi_wp2
        go_roundw
        case rel => exact ⟨k + 1, by omega, by go_num, by rw [HN.out]; exact HJ, HW⟩
        case measure => simp [intOf]; omega
      | true =>
        rw [hb] at hc0
        have HN := Lib.hid (goN_yes hb)
        obtain ⟨fn, tmps, assign, body, hy, hR⟩ := HY.out (goN l k) k wr HJ.out (goN_lt hb hlt)
        have HRR := Lib.hid hR
        simp only [nV] at hy
        clear hb hR
        gi_wp2
        refine HRR.out.mono ?_
        rintro e W3 (⟨rfl, hJ3, hk3⟩ | ⟨rfl, hJ3⟩)
        · have HJ3 := Lib.hid hJ3
          have HW3 := Lib.hid (HW.out.keep HA.out hk3)
          clear hJ3 hk3
          gi_wp2
          go_roundw
          case rel => exact ⟨k + 1, by omega, by go_num, by rw [HN.out]; exact HJ3, HW3⟩
          case measure => simp [intOf]; omega
        · have HJ3 := Lib.hid hJ3
          clear hJ3
          gi_wp2
          refine bodyPost_ret (results_none rfl _ _ _) rfl ?_
          exact ⟨⟨_, rfl⟩, .inr ⟨goN l k ++ [k], by rw [← HN.out]; exact goN_pre l (k + 1) hlt, HJ3.out⟩⟩
    · have hge : (l.length : Int) ≤ (k : Int) := by omega
      have hkl : k = l.length := by omega
      subst hkl
      gi_wp2
      go_end0
      exact ⟨⟨_, rfl⟩, .inl ⟨_, rfl, HJ.out⟩⟩
/-- The iterator's contract. -/
theorem those_stops (n n₀ bx cap : Nat) (A : Option Addr) (l : List Bool) (hn : 1 ≤ n) (w : World) (hbox : w.cell? ⟨bx, 0, none⟩ = some (.slice A l.length cap)) (hrow : Row w A (l.map bV)) (hA : l.map bV ≠ [] → ∀ a, A = some a → a.block < n₀) (hl : l.length ≤ 1000000) :
    SeqStopsK Fence.wide n Try.prog 22 #[.pointer (some ⟨bx, 0, none⟩)] (fun x : Nat => #[nV x]) (Below n₀) (fun xs => xs = goers l) (fun pre => ∃ r, pre ++ r = goers l) (goers l).length w := fun y J Jx W hW _ _ hY h0 => by
  refine those1_in n n₀ y bx cap A l hn J Jx hY W ((hW.cell (p := ⟨bx, 0, none⟩) (World.block_lt_of_cell? w _ hbox)).trans hbox) (hrow.below hW) hA hl h0
set_option maxHeartbeats 1000000 in
theorem those_any (A : Option Addr) (n cap : Nat) (w : World) : Calls Try.prog 19 #[.slice A n cap] w fun e w' => e = .returned (.func (.func 22) #[] #[.pointer (some ⟨w.heap.size, 0, none⟩)]) ∧ w.alloc (.cells #[.slice A n cap] 22) = w' := by
  go_enter Try.func19, Try.ntmps19
  go_wp2
  go_ret
  exact ⟨rfl, rfl⟩
end Go.Proofs.Ytmominipgkchjaa
