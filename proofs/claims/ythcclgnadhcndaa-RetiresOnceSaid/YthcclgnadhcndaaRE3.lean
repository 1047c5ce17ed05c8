/-
  The law's helper spoil: it changes nothing but the row that it is handed; condition: the row is the call's own.
-/
import Derived.Test.YthcclgnadhcndaaRP1
namespace Go.Proofs.Ythcclgnadhcndaa
open Go.RowKit

section
variable {w : World} {B : Nat} {xs : List EP}
theorem spoil_none : Calls Try.prog 12 #[.slice none 0 0] w fun e w' => e = .returned (.tuple #[]) ∧ w' = w := by
  go_enter Try.func12, Try.ntmps12
  go_wp2_with fail
  go_loopw [2] (fun j wr => j = .int .i64 0 ∧ wr = w) (fun _ _ => 0)
  case atStart => exact ⟨rfl, rfl⟩
  case round =>
    obtain ⟨rfl, rfl⟩ := hrel
    go_wp2_with fail
    ((try simp only [Exit.inBlock, Exit.then]); first | go_end0 | refine bodyPost_ret (results_none rfl _ _ _) rfl ?_)
    exact ⟨rfl, rfl⟩
set_option maxRecDepth 100000 in
set_option maxHeartbeats 4000000 in
theorem spoil_row {g n k : Nat} {cur : Array Value} (hg : w.heap[g]? = some (.cells cur 34 (0, 0))) (hs : cur.size = k * 6) (_hn : n ≤ k) (hk : k ≤ 9223372036854775807) : Calls Try.prog 12 #[.slice (some ⟨g, 0, none⟩) n k] w fun e w' => e = .returned (.tuple #[]) ∧ Kp [g] w w' := by
  have HG := Lib.hid (show Kp [g] w w ∧ ∃ cur : Array Value, w.heap[g]? = some (.cells cur 34 (0, 0)) ∧ cur.size = k * 6 from ⟨.refl _, cur, hg, hs⟩)
  have hk0 : (0 : Int) ≤ (k : Int) := by omega
  have hk1 : (k : Int) ≤ 9223372036854775807 := by omega
  clear hg hs
  go_enter Try.func12, Try.ntmps12
  go_wp2_with fail
  go_loopw [2] (fun j wr => ∃ i : Nat, i ≤ k ∧ j = .int .i64 (i : Int) ∧ Hid (Kp [g] w wr ∧ ∃ cur : Array Value, wr.heap[g]? = some (.cells cur 34 (0, 0)) ∧ cur.size = k * 6)) (fun j _ => k - (intOf j).toNat)
  case atStart => exact ⟨0, Nat.zero_le _, rfl, HG⟩
  case round =>
    clear HG
    obtain ⟨i, hi, rfl, hr⟩ := hrel
    obtain ⟨hb, cu, hg, hs⟩ := hr.out
    have hge : (0 : Int) ≤ (i : Int) := by omega
    by_cases hlt : i < k
    · have hlt' : (i : Int) < (k : Int) := by omega
      have hc : ∀ j, j < 6 → ∃ v, wr.cell? ⟨g, i * 6 + j, none⟩ = some v := fun j hj => ⟨cu[i * 6 + j]'(by omega), by rw [cell_of_row wr g (i * 6 + j) cu _ (0, 0) hg]; exact Array.getElem?_eq_getElem _⟩
      have hz : ∀ j, wr.frozen? ⟨g, j, none⟩ = false := fun j => by simp [World.frozen?, hg]
      obtain ⟨v0, x0⟩ := hc 0 (by decide)
      obtain ⟨v1, x1⟩ := hc 1 (by decide)
      obtain ⟨v2, x2⟩ := hc 2 (by decide)
      obtain ⟨v3, x3⟩ := hc 3 (by decide)
      obtain ⟨v4, x4⟩ := hc 4 (by decide)
      obtain ⟨v5, x5⟩ := hc 5 (by decide)
      rw [Nat.add_zero] at x0
      have z0 := hz (i * 6)
      have z1 := hz (i * 6 + 1)
      have z2 := hz (i * 6 + 2)
      have z3 := hz (i * 6 + 3)
      have z4 := hz (i * 6 + 4)
      have z5 := hz (i * 6 + 5)
      have hset : ∀ (X : World) (j : Nat) (v : Value), (Kp [g] w X ∧ ∃ cur : Array Value, X.heap[g]? = some (.cells cur 34 (0, 0)) ∧ cur.size = k * 6) → (Kp [g] w (X.setCell ⟨g, j, none⟩ v) ∧ ∃ cur : Array Value, (X.setCell ⟨g, j, none⟩ v).heap[g]? = some (.cells cur 34 (0, 0)) ∧ cur.size = k * 6) := fun X j v ⟨h1, cur, h2, h3⟩ => ⟨h1.trans (.setCell X (List.mem_singleton.2 rfl) j v), _, setCell_blk h2 j v, by simpa using h3⟩
      have HN := Lib.hid (hset _ (i * 6 + 5) (.int .u64 0) (hset _ (i * 6 + 4) (.int .u64 0) (hset _ (i * 6 + 3) (.int .u64 7777777) (hset _ (i * 6 + 2) (.bool false) (hset _ (i * 6 + 1) (.int .u32 0) (hset _ (i * 6) (.int .i64 0) hr.out))))))
      clear hc hz hset hr hb hg hs
      go_wp2_with fail
      go_roundw
      case rel => exact ⟨i + 1, by omega, by go_num, HN⟩
      case measure => simp [intOf]; omega
    · have hnl : ¬ (i : Int) < (k : Int) := by omega
      have HB := Lib.hid hb
      clear hr hb hg hs
      go_wp2_with fail
      ((try simp only [Exit.inBlock, Exit.then]); first | go_end0 | refine bodyPost_ret (results_none rfl _ _ _) rfl ?_)
      exact ⟨rfl, HB.out⟩
/-- It turns nothing but the row. -/
theorem spoil_one {v : Value} (h : OwnE w B v xs) : Calls Try.prog 12 #[v] w fun e w' => e = .returned (.tuple #[]) ∧ Below B w w' ∧ w.heap.size ≤ w'.heap.size ∧ ∀ z, z < w.heap.size → v.ownBlock ≠ some z → w'.heap[z]? = w.heap[z]? := by
  obtain ⟨_, h⟩ := h
  rcases h with ⟨rfl, h0⟩ | ⟨g, cap, cur, rfl, hb, hg, hc, hm, hs, ht⟩
  · refine spoil_none.mono ?_
    rintro e w' ⟨he, rfl⟩
    exact ⟨he, Below.refl _ _, Nat.le_refl _, fun _ _ _ => rfl⟩
  · have hlt : g < w.heap.size := (Array.getElem?_eq_some_iff.1 hg).1
    refine (spoil_row hg hs hc (by unfold maxLen at hm; exact hm)).mono ?_
    rintro e w' ⟨he, o⟩
    exact ⟨he, o.below (by simpa using hb) (by omega), o.size, fun z hz hne => by
      have hne : z ≠ g := fun e => hne (by rw [e]; rfl)
      exact o.block z hz (by simpa using hne)⟩
end
end Go.Proofs.Ythcclgnadhcndaa
