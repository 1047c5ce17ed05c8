/-
  The document's Next of layer 3: the command at a place; condition: the bytes lie as it says.
-/
import Derived.Test.YtlgfdemggkiojaaDoorR3
import Derived.Test.YtlgfdemggkiojaaDoorR4
import Derived.Test.YtlgfdemggkiojaaDoorR5
namespace Go.Proofs.YtlgfdemggkiojaaDoor
open Go.RowKit

theorem num_drop (t : List UInt8) (p i : Nat) : num (t.drop p) i = num t (p + i) := by
  unfold num
  rw [List.length_drop, byt_drop]
  by_cases h : i < t.length - p
  · rw [if_pos h, if_pos (by omega)]
  · rw [if_neg h, if_neg (by omega)]
theorem rnext_none (A : Option Addr) (cap : Nat) (l : List UInt8) (at_ : Int) (w : World) (hn : l.length ≤ cap) (hc : cap ≤ 9223372036854775807) (h : nextC l at_ = none) :
    Calls Tryd.prog 13 #[.slice A l.length cap, .int .i64 at_] w fun e w' => e = .returned noCmdR ∧ Below w.heap.size w w' := by
  refine rnext_out A l.length cap at_ w hn hc fun hp => ?_
  have hm := most_eq
  have e : nextC l at_ = some ((dec ((l.take most).drop at_.toNat)).shift at_) := if_pos (by rw [List.length_take]; omega)
  rw [e] at h
  cases h
theorem as_cmd {c d : Cm} {w w' : World} {e : Ending} (h : e = .returned (someCmdR c) ∧ Below w.heap.size w w') (hcd : c = d) : e = .returned (someCmdR d) ∧ Below w.heap.size w w' := by rw [← hcd]; exact h
theorem shift_eq (k u a t s o ky v : Int) (p : Nat) : (⟨k, 0, u, a, t, s, o, ky, v⟩ : Cm).shift p = ⟨k, p, p + u, a, t, s, o, ky, v⟩ := by simp [Cm.shift, Int.add_comm]
theorem none_shift (T p : Nat) : (noneC (T : Int)).shift p = ⟨0, p, ((p + T : Nat) : Int), 0, 0, 0, 0, 0, 0⟩ := by
  unfold noneC
  rw [shift_eq]
  simp
theorem min_two (m p L : Nat) (h : p < m) : (m ≤ p + L ∧ m = p + min (m - p) L) ∨ (p + L < m ∧ p + L = p + min (m - p) L) := by
  by_cases hl : m ≤ p + L
  · exact .inl ⟨hl, by omega⟩
  · exact .inr ⟨by omega, by omega⟩
theorem rnext_some (A : Option Addr) (cap : Nat) (l : List UInt8) (at_ : Int) (c : Cm) (w : World) (hs : Sl w A l) (hn : l.length ≤ cap) (hc : cap ≤ 9223372036854775807) (h : nextC l at_ = some c) :
    Calls Tryd.prog 13 #[.slice A l.length cap, .int .i64 at_] w fun e w' => e = .returned (someCmdR c) ∧ Below w.heap.size w w' := by
  obtain ⟨p, rfl, hp, rfl⟩ := nextC_some h
  clear h
  have hne : l ≠ [] := by rintro rfl; simp at hp
  obtain ⟨g, off, rfl, hB⟩ := hs hne
  have hme := most_eq
  have hT := hB.take most
  generalize ht : l.take most = t at *
  have hm : t.length = min l.length 65536 := by rw [← ht, List.length_take, Nat.min_comm, most_eq]
  generalize hmm : t.length = m at *
  have hmc : (l.length ≤ 65536 ∧ m = l.length) ∨ (65536 < l.length ∧ m = 65536) := by omega
  have hpm : p < m := by omega
  have c0 := hT p (by omega)
  have hlen : (t.drop p).length = m - p := by rw [List.length_drop, hmm]
  have hbne : t.drop p ≠ [] := by
    intro e
    rw [e] at hlen
    simp at hlen
    omega
  have e0 : byt (t.drop p) 0 = byt t p := by rw [byt_drop, Nat.add_zero]
  have d : ∀ i : Nat, ∀ W, Below w.heap.size w W → Calls Tryd.prog 27 #[.slice (some ⟨g, off, none⟩) m cap, .int .i64 (p + i)] W fun e W' => e = .returned (.int .i64 (num t (p + i))) ∧ W = W' := fun i W hW => by
    have := number_any g off cap t ((p : Int) + i) (p + i) (by simp) W (hT.below hW)
    rwa [hmm] at this
  have d1 := d 1
  have d2 := d 2
  have d3 := d 3
  have d4 := d 4
  have n1 := num_drop t p 1
  have n2 := num_drop t p 2
  have n3 := num_drop t p 3
  have n4 := num_drop t p 4
  have q1 := num_bd t (p + 1)
  have q2 := num_bd t (p + 2)
  have q3 := num_bd t (p + 3)
  have q4 := num_bd t (p + 4)
  have hbd := byt_bd t p
  have m2 := min_two m p 2 hpm
  have m5 := min_two m p 5 hpm
  by_cases hlo : byt t p ≤ 127
  · refine (rnext_pick g off l.length cap m p _ w hn hc hmc hpm c0 hbd.1 hlo).mono fun e w' h => as_cmd h ?_
    rw [dec_pick hbne (by rw [e0]; exact hlo), e0, shift_eq]
  by_cases hhi : 135 < byt t p
  · refine (rnext_high g off l.length cap m p _ w hn hc hmc hpm c0 (by omega) hbd.2).mono fun e w' h => as_cmd h ?_
    rw [dec_high hbne (by rw [e0]; exact hhi), noneC, shift_eq]
  rcases (show byt t p = 128 ∨ byt t p = 129 ∨ byt t p = 130 ∨ byt t p = 131 ∨ byt t p = 132 ∨ byt t p = 133 ∨ byt t p = 134 ∨ byt t p = 135 by omega) with hb | hb | hb | hb | hb | hb | hb | hb <;> rw [hb] at c0 e0
  · refine (rnext_2_yes g off l.length cap m p _ w hn hc hmc hpm c0 d1 (by omega)).mono fun e w' h => as_cmd h ?_
    rw [dec_one (k := 2) hbne e0 (by omega), shift_eq]
  · by_cases hx : num t (p + 1) ≤ 15
    · have hl := num_in (b := t) (i := p + 1) (by omega)
      refine (rnext_3_yes g off l.length cap m p _ w hn hc hmc hpm c0 d1 hx (by omega)).mono fun e w' h => as_cmd h ?_
      rw [dec_leave e0 (by rw [n1]; exact hx), n1, shift_eq]
    · refine (rnext_3_no g off l.length cap m p _ _ w hn hc hmc hpm c0 d1 (by omega) m2).mono fun e w' h => as_cmd h ?_
      rw [dec_leave_no e0 (by rw [n1]; omega), hlen, none_shift]
  · by_cases hx : num t (p + 1) = 1 ∨ num t (p + 1) = 2 ∨ num t (p + 1) = 4
    · have hd := dec_switch e0 (by rw [n1]; exact hx)
      rw [n1] at hd
      rcases hx with hx | hx | hx <;> rw [hx] at d1 hd
      · refine (rnext_4_yes1 g off l.length cap m p w hn hc hmc hpm c0 d1 (by omega)).mono fun e w' h => as_cmd h ?_
        rw [hd, shift_eq]
      · refine (rnext_4_yes2 g off l.length cap m p w hn hc hmc hpm c0 d1 (by omega)).mono fun e w' h => as_cmd h ?_
        rw [hd, shift_eq]
      · refine (rnext_4_yes4 g off l.length cap m p w hn hc hmc hpm c0 d1 (by omega)).mono fun e w' h => as_cmd h ?_
        rw [hd, shift_eq]
    · refine (rnext_4_no g off l.length cap m p _ _ w hn hc hmc hpm c0 d1 (by simp; omega) (by simp; omega) (by simp; omega) m2).mono fun e w' h => as_cmd h ?_
      rw [dec_switch_no e0 (by rw [n1]; exact hx), hlen, none_shift]
  · by_cases hx : num t (p + 1) ≤ 31
    · refine (rnext_5_yes g off l.length cap m p _ w hn hc hmc hpm c0 d1 hx (by omega)).mono fun e w' h => as_cmd h ?_
      rw [dec_seg (k := 5) e0 (by omega) (by rw [n1]; exact hx), n1, shift_eq]
    · refine (rnext_5_no g off l.length cap m p _ _ w hn hc hmc hpm c0 d1 (by omega) m2).mono fun e w' h => as_cmd h ?_
      rw [dec_seg_no (k := 5) e0 (by omega) (by rw [n1]; omega), hlen, none_shift]
  · by_cases hx : num t (p + 1) ≤ 31
    · refine (rnext_6_yes g off l.length cap m p _ w hn hc hmc hpm c0 d1 hx (by omega)).mono fun e w' h => as_cmd h ?_
      rw [dec_seg (k := 6) e0 (by omega) (by rw [n1]; exact hx), n1, shift_eq]
    · refine (rnext_6_no g off l.length cap m p _ _ w hn hc hmc hpm c0 d1 (by omega) m2).mono fun e w' h => as_cmd h ?_
      rw [dec_seg_no (k := 6) e0 (by omega) (by rw [n1]; omega), hlen, none_shift]
  · refine (rnext_7_yes g off l.length cap m p _ w hn hc hmc hpm c0 d1 (by omega)).mono fun e w' h => as_cmd h ?_
    rw [dec_one (k := 7) hbne e0 (by omega), shift_eq]
  · refine (rnext_8_yes g off l.length cap m p _ w hn hc hmc hpm c0 d1 (by omega)).mono fun e w' h => as_cmd h ?_
    rw [dec_one (k := 8) hbne e0 (by omega), shift_eq]
  · by_cases hx : num t (p + 1) ≤ 15 ∧ num t (p + 2) ≤ 7 ∧ num t (p + 4) ≤ 255
    · obtain ⟨x1, x2, x4⟩ := hx
      have hl := num_in (b := t) (i := p + 4) x4
      have b3 : num t (p + 3) ≤ 255 := by
        rw [num_at (show p + 3 < t.length by omega)]
        exact (byt_bd _ _).2
      refine (rnext_9_yes g off l.length cap m p _ _ _ _ w hn hc hmc hpm c0 d1 d2 d3 d4 x1 x2 q3.1 b3 q4.1 x4 (by omega)).mono fun e w' h => as_cmd h ?_
      rw [dec_call e0 (by rw [n1]; exact x1) (by rw [n2]; exact x2) (by rw [n4]; exact x4), n1, n2, n3, n4, shift_eq]
    · have hd := dec_call_no e0 (by rw [n1, n2, n4]; exact hx)
      rw [hlen] at hd
      by_cases x1 : num t (p + 1) ≤ 15
      · by_cases x2 : num t (p + 2) ≤ 7
        · refine (rnext_9_no3 g off l.length cap m p _ _ _ _ w hn hc hmc hpm c0 d1 d2 d4 x1 x2 (by omega) m5).mono fun e w' h => as_cmd h ?_
          rw [hd, none_shift]
        · refine (rnext_9_no2 g off l.length cap m p _ _ _ w hn hc hmc hpm c0 d1 d2 x1 (by omega) m5).mono fun e w' h => as_cmd h ?_
          rw [hd, none_shift]
      · refine (rnext_9_no1 g off l.length cap m p _ _ _ w hn hc hmc hpm c0 d1 d2 (by omega) m5).mono fun e w' h => as_cmd h ?_
        rw [hd, none_shift]
end Go.Proofs.YtlgfdemggkiojaaDoor
