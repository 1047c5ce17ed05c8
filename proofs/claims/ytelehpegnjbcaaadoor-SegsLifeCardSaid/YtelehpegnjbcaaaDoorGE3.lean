/-
  The law SegsCount walked: it answers true, and changes nothing that was there; conditions: the program's eight calls do as the plain side says, where what the program lays lies as laid.
-/
import Derived.Test.YtelehpegnjbcaaaDoorGE2
import Derived.Deep.RegionHeld3
namespace Go.Proofs.YtelehpegnjbcaaaDoor
open Go.RowKit

/-- Three counts in blocks of their own. -/
def S15 (w0 : World) (b0 b6 b7 : Nat) (c0 c1 c2 c3 c4 n0 n1 n2 n3 n4 : Int) (w : World) : Prop :=
  (w.cell? ⟨b0, 0, none⟩ = some (.int .i64 c0) ∧ w.cell? ⟨b0, 1, none⟩ = some (.int .i64 c1) ∧ w.cell? ⟨b0, 2, none⟩ = some (.int .i64 c2) ∧ w.cell? ⟨b0, 3, none⟩ = some (.int .i64 c3) ∧ w.cell? ⟨b0, 4, none⟩ = some (.int .i64 c4) ∧ w.cell? ⟨b6, 0, none⟩ = some (.int .i64 n0) ∧ w.cell? ⟨b6, 1, none⟩ = some (.int .i64 n1) ∧ w.cell? ⟨b6, 2, none⟩ = some (.int .i64 n2) ∧ w.cell? ⟨b6, 3, none⟩ = some (.int .i64 n3) ∧ w.cell? ⟨b6, 4, none⟩ = some (.int .i64 n4) ∧ w.cell? ⟨b7, 0, none⟩ = some (.int .i64 n0) ∧ w.cell? ⟨b7, 1, none⟩ = some (.int .i64 n1) ∧ w.cell? ⟨b7, 2, none⟩ = some (.int .i64 n2) ∧ w.cell? ⟨b7, 3, none⟩ = some (.int .i64 n3) ∧ w.cell? ⟨b7, 4, none⟩ = some (.int .i64 n4)) ∧ Hid (Below w0.heap.size w0 w)
section
variable {w0 w1 w2 : World} {b0 b6 b7 : Nat} {c0 c1 c2 c3 c4 n0 n1 n2 n3 n4 : Int}
theorem S15.step (h : S15 w0 b0 b6 b7 c0 c1 c2 c3 c4 n0 n1 n2 n3 n4 w1) (hb : Below w1.heap.size w1 w2) : S15 w0 b0 b6 b7 c0 c1 c2 c3 c4 n0 n1 n2 n3 n4 w2 := by
  have k : ∀ (g i : Nat) (v : Value), w1.cell? ⟨g, i, none⟩ = some v → w2.cell? ⟨g, i, none⟩ = some v := fun g i v hc => (hb.cell (p := ⟨g, i, none⟩) (World.block_lt_of_cell? w1 _ hc)).trans hc
  obtain ⟨⟨h0, h1, h2, h3, h4, h5, h6, h7, h8, h9, h10, h11, h12, h13, h14⟩, hh⟩ := h
  exact ⟨⟨k _ _ _ h0, k _ _ _ h1, k _ _ _ h2, k _ _ _ h3, k _ _ _ h4, k _ _ _ h5, k _ _ _ h6, k _ _ _ h7, k _ _ _ h8, k _ _ _ h9, k _ _ _ h10, k _ _ _ h11, k _ _ _ h12, k _ _ _ h13, k _ _ _ h14⟩, Lib.hid (hh.out.trans (hb.mono hh.out.size))⟩
theorem S15.drew (h : S15 w0 b0 b6 b7 c0 c1 c2 c3 c4 n0 n1 n2 n3 n4 w1) : S15 w0 b0 b6 b7 c0 c1 c2 c3 c4 n0 n1 n2 n3 n4 w1.drew := h.step (Below.refl _ _).drew
theorem S15.start (h0 : w1.heap[b0]? = some (.cells #[.int .i64 c0, .int .i64 c1, .int .i64 c2, .int .i64 c3, .int .i64 c4] 36 (0, 0))) (h6 : w1.heap[b6]? = some (.cells #[.int .i64 n0, .int .i64 n1, .int .i64 n2, .int .i64 n3, .int .i64 n4] 36 (0, 0))) (h7 : w1.heap[b7]? = some (.cells #[.int .i64 n0, .int .i64 n1, .int .i64 n2, .int .i64 n3, .int .i64 n4] 36 (0, 0))) (hb : Below w0.heap.size w0 w1) : S15 w0 b0 b6 b7 c0 c1 c2 c3 c4 n0 n1 n2 n3 n4 w1 :=
  ⟨⟨(cell_of_row _ _ _ _ _ _ h0).trans rfl, (cell_of_row _ _ _ _ _ _ h0).trans rfl, (cell_of_row _ _ _ _ _ _ h0).trans rfl, (cell_of_row _ _ _ _ _ _ h0).trans rfl, (cell_of_row _ _ _ _ _ _ h0).trans rfl, (cell_of_row _ _ _ _ _ _ h6).trans rfl, (cell_of_row _ _ _ _ _ _ h6).trans rfl, (cell_of_row _ _ _ _ _ _ h6).trans rfl, (cell_of_row _ _ _ _ _ _ h6).trans rfl, (cell_of_row _ _ _ _ _ _ h6).trans rfl, (cell_of_row _ _ _ _ _ _ h7).trans rfl, (cell_of_row _ _ _ _ _ _ h7).trans rfl, (cell_of_row _ _ _ _ _ _ h7).trans rfl, (cell_of_row _ _ _ _ _ _ h7).trans rfl, (cell_of_row _ _ _ _ _ _ h7).trans rfl⟩, Lib.hid hb⟩
theorem S15.low (h : S15 w0 b0 b6 b7 c0 c1 c2 c3 c4 n0 n1 n2 n3 n4 w1) : Below w0.heap.size w0 w1 := h.2.out
end
set_option maxRecDepth 100000 in
set_option maxHeartbeats 16000000 in
theorem lawCount {L : World → Prop} (H : SPrg L) (A : Option Addr) (cap : Nat) (l : List Int) (c0 c1 c2 c3 c4 : Int) (w : World) (hL : L w) (hs : Row w A (l.map uV)) (hu : ∀ x ∈ l, U64 x) (hcap : A = Option.none → cap = 0) (hl : l.length ≤ 300) (h3 : 0 ≤ c3 ∧ c3 ≤ 1099511627776) (h4 : 0 ≤ c4 ∧ c4 ≤ 1099511627776) :
    Calls Tryd.prog 5 #[.slice A l.length cap, .agg #[.int .i64 c0, .int .i64 c1, .int .i64 c2, .int .i64 c3, .int .i64 c4]] w fun e w' => e = .returned (.bool true) ∧ Below w.heap.size w w' := by
  obtain ⟨i0, hi, hz0, hz1, hz2⟩ := info_parts Tryd_infoU
  obtain ⟨p0, p1⟩ := h3
  obtain ⟨g0, g1⟩ := h4
  have hli : ¬ (300 : Int) < (l.length : Int) := by omega
  have e1 : IntKind.i64.wrap (c3 + c4) = c3 + c4 := by rw [IntKind.wrap_i64]; omega
  have HL := Lib.hid (fun W (h : Below w.heap.size w W) => H.low w W hL h)
  have HS := Lib.hid hs
  have HU := Lib.hid hu
  have HCAP := Lib.hid hcap
  have HB0 := Lib.hid ((Below.refl w.heap.size w).alloc (Nat.le_refl _) (.cells #[.int .i64 c0, .int .i64 c1, .int .i64 c2, .int .i64 c3, .int .i64 c4] 36))
  have HQ0 := Lib.hid (heap_alloc_new w (.cells #[.int .i64 c0, .int .i64 c1, .int .i64 c2, .int .i64 c3, .int .i64 c4] 36))
  clear hL hs hu hcap
  go_enter Tryd.func5, Tryd.ntmps5
  go_wp2_with (at_builtin; refine append_row rfl (.const (.slice Option.none 0 0)) (.tmp 33) 34 31 rfl Tryd.underlying34 i0 _ 8 hi hz0 hz1 hz2 rfl (by decide) (w.heap.size + 1) _ [] rfl (World.ownsRow_nil _ _ _ _) A l.length cap (l.map uV) (by rw [List.length_map]) rfl (HS.out.below (HB0.out.mono (Nat.le_refl _))) (uV_one l) HCAP.out (by simp; omega) (by simp) ?_; intro v1 w1 ho1 hb1; rw [List.nil_append, List.length_map] at ho1; obtain ⟨B, cb, rfl, q1, q2, _⟩ := own_slice ho1; have HR1 := Lib.hid (row_of_own ho1); have HG1 := Lib.hid (show Below (w.alloc (.cells #[.int .i64 c0, .int .i64 c1, .int .i64 c2, .int .i64 c3, .int .i64 c4] 36)).heap.size (w.alloc (.cells #[.int .i64 c0, .int .i64 c1, .int .i64 c2, .int .i64 c3, .int .i64 c4] 36)) w1 by simpa using hb1); clear ho1 hb1)
  have HB1 := Lib.hid (HB0.out.trans (HG1.out.mono HB0.out.size))
  have HQ1 := Lib.hid ((HG1.out.block _ (Array.getElem?_eq_some_iff.1 HQ0.out).1).trans HQ0.out)
  clear HG1 HQ0
  refine (H.count B cb l w1 (HL.out _ HB1.out) HR1.out HU.out q1 q2 (by omega)).mono ?_
  rintro e w2 ⟨rfl, hb⟩
  have HB2 := Lib.hid (HB1.out.trans (hb.mono HB1.out.size))
  have HR2 := Lib.hid (HR1.out.below hb)
  have HQ2 := Lib.hid ((hb.block _ (Array.getElem?_eq_some_iff.1 HQ1.out).1).trans HQ1.out)
  have HC := Lib.hid (fun k W (h : Below w.heap.size w W) => rcount_any A cap l k W (HS.out.below (h.mono (Nat.le_refl _))) HU.out (by omega))
  clear hb HB1 HR1 HQ1
  simp only [cntV]
  obtain ⟨n0, e0⟩ : ∃ n, (countN l 0 : Int) = n := ⟨_, rfl⟩
  obtain ⟨n1, e2⟩ : ∃ n, (countN l 1 : Int) = n := ⟨_, rfl⟩
  obtain ⟨n2, e3⟩ : ∃ n, (countN l 2 : Int) = n := ⟨_, rfl⟩
  obtain ⟨n3, e4⟩ : ∃ n, (countN l 3 : Int) = n := ⟨_, rfl⟩
  obtain ⟨n4, e5⟩ : ∃ n, (countN l 4 : Int) = n := ⟨_, rfl⟩
  have C0 := Lib.hid (fun W h => HC.out 0 W h)
  have C1 := Lib.hid (fun W h => HC.out 1 W h)
  have C2 := Lib.hid (fun W h => HC.out 2 W h)
  have C3 := Lib.hid (fun W h => HC.out 3 W h)
  have C4 := Lib.hid (fun W h => HC.out 4 W h)
  rw [e0] at C0 ⊢
  rw [e2] at C1 ⊢
  rw [e3] at C2 ⊢
  rw [e4] at C3 ⊢
  rw [e5] at C4 ⊢
  clear HC e0 e2 e3 e4 e5
  have HX := Lib.hid (show Below w2.heap.size w2 (w2.alloc (.cells #[.int .i64 n0, .int .i64 n1, .int .i64 n2, .int .i64 n3, .int .i64 n4] 36)) from (Below.refl _ _).alloc (Nat.le_refl _) _)
  have HBX := Lib.hid (HB2.out.trans (HX.out.mono HB2.out.size))
  have HQX := Lib.hid (heap_alloc_new w2 (.cells #[.int .i64 n0, .int .i64 n1, .int .i64 n2, .int .i64 n3, .int .i64 n4] 36))
  have HQ3 := Lib.hid ((HX.out.block _ (Array.getElem?_eq_some_iff.1 HQ2.out).1).trans HQ2.out)
  have HR3 := Lib.hid (HR2.out.below HX.out)
  clear HX HR2 HQ2
  go_wp2_with (first
    | (go_at_call_of 21 (Value.int IntKind.u8 0); refine (C0.out _ HBX.out).mono ?_; rintro e w3 ⟨rfl, rfl⟩)
    | (go_at_call_of 21 (Value.int IntKind.u8 1); refine (C1.out _ HBX.out).mono ?_; rintro e w3 ⟨rfl, rfl⟩)
    | (go_at_call_of 21 (Value.int IntKind.u8 2); refine (C2.out _ HBX.out).mono ?_; rintro e w3 ⟨rfl, rfl⟩)
    | (go_at_call_of 21 (Value.int IntKind.u8 3); refine (C3.out _ HBX.out).mono ?_; rintro e w3 ⟨rfl, rfl⟩)
    | (go_at_call_of 21 (Value.int IntKind.u8 4); refine (C4.out _ HBX.out).mono ?_; rintro e w3 ⟨rfl, rfl⟩))
  have HB4 := Lib.hid (HBX.out.alloc HBX.out.size (.cells #[.int .i64 n0, .int .i64 n1, .int .i64 n2, .int .i64 n3, .int .i64 n4] 36))
  have HY := Lib.hid (show Below (w2.alloc (.cells #[.int .i64 n0, .int .i64 n1, .int .i64 n2, .int .i64 n3, .int .i64 n4] 36)).heap.size (w2.alloc (.cells #[.int .i64 n0, .int .i64 n1, .int .i64 n2, .int .i64 n3, .int .i64 n4] 36)) ((w2.alloc (.cells #[.int .i64 n0, .int .i64 n1, .int .i64 n2, .int .i64 n3, .int .i64 n4] 36)).alloc (.cells #[.int .i64 n0, .int .i64 n1, .int .i64 n2, .int .i64 n3, .int .i64 n4] 36)) from (Below.refl _ _).alloc (Nat.le_refl _) _)
  have HQ7 := Lib.hid (show ((w2.alloc (.cells #[.int .i64 n0, .int .i64 n1, .int .i64 n2, .int .i64 n3, .int .i64 n4] 36)).alloc (.cells #[.int .i64 n0, .int .i64 n1, .int .i64 n2, .int .i64 n3, .int .i64 n4] 36)).heap[w2.heap.size + 1]? = some (.cells #[.int .i64 n0, .int .i64 n1, .int .i64 n2, .int .i64 n3, .int .i64 n4] 36 (0, 0)) by
    have := heap_alloc_new (w2.alloc (.cells #[.int .i64 n0, .int .i64 n1, .int .i64 n2, .int .i64 n3, .int .i64 n4] 36)) (.cells #[.int .i64 n0, .int .i64 n1, .int .i64 n2, .int .i64 n3, .int .i64 n4] 36)
    rwa [World.size_alloc] at this)
  have HQ6 := Lib.hid ((HY.out.block _ (Array.getElem?_eq_some_iff.1 HQX.out).1).trans HQX.out)
  have HQ5 := Lib.hid ((HY.out.block _ (Array.getElem?_eq_some_iff.1 HQ3.out).1).trans HQ3.out)
  have HR4 := Lib.hid (HR3.out.below HY.out)
  have HSS := Lib.hid (S15.start HQ5.out HQ6.out HQ7.out HB4.out)
  clear HBX HQX HQ3 HR3 HY HQ7 HQ6 HQ5 C0 C1 C2 C3 C4 HB2
  revert HB4 HR4 HSS
  generalize (w2.alloc (.cells #[.int .i64 n0, .int .i64 n1, .int .i64 n2, .int .i64 n3, .int .i64 n4] 36)).alloc (.cells #[.int .i64 n0, .int .i64 n1, .int .i64 n2, .int .i64 n3, .int .i64 n4] 36) = w4
  generalize w2.heap.size = b6
  intro HB4 HR4 HSS
  go_loopw [8] (fun i wr => ∃ k : Nat, k ≤ l.length ∧ i = .int .i64 (k : Int) ∧ Below w4.heap.size w4 wr) (fun i _ => l.length - (intOf i).toNat)
  case atStart => exact ⟨0, Nat.zero_le _, rfl, Below.refl _ _⟩
  case round =>
    obtain ⟨k, hk, rfl, hr⟩ := hrel
    have HR := Lib.hid hr
    clear hr
    by_cases hlt : k < l.length
    · obtain ⟨g, off, rfl, hc⟩ := (HR4.out.below HR.out).at_ (k := k) (by rw [List.length_map]; exact hlt)
      obtain ⟨g2, off2, rfl, hc2⟩ := (HS.out.below ((HB4.out.trans (HR.out.mono HB4.out.size)).mono (Nat.le_refl _))).at_ (k := k) (by rw [List.length_map]; exact hlt)
      have y1 := hc k _ (words_at hlt)
      have y2 := hc2 k _ (words_at hlt)
      generalize l.getD k 0 = b at y1 y2
      have hlt' : (k : Int) < (l.length : Int) := by omega
      have hge : (0 : Int) ≤ (k : Int) := by omega
      clear hc hc2
      go_wp2_with fail
      go_quiet (fail)
      go_wp2_with fail
      go_roundw
      case rel => exact ⟨k + 1, by omega, by go_num, below_drewN' HR.out _⟩
      case measure => simp [intOf]; omega
    · have hge : (l.length : Int) ≤ (k : Int) := by omega
      have HS2 := Lib.hid (HSS.out.step HR.out)
      have eqN : ∀ W : World, (binOp .eql 36 (.agg #[.int .i64 n0, .int .i64 n1, .int .i64 n2, .int .i64 n3, .int .i64 n4]) (.agg #[.int .i64 n0, .int .i64 n1, .int .i64 n2, .int .i64 n3, .int .i64 n4])).run Tryd.prog W = .ok (.bool true) W := fun W => (eql36 n0 n1 n2 n3 n4 n0 n1 n2 n3 n4 W).trans (by rw [decide_eq_true (show n0 = n0 ∧ n1 = n1 ∧ n2 = n2 ∧ n3 = n3 ∧ n4 = n4 from ⟨rfl, rfl, rfl, rfl, rfl⟩)])
      have eqc : (c3 + c4 == c3 + c4) = true := beq_self_eq_true _
      go_wp2_with fail
      go_region_held3 (fun w8 => (w8.cell? ⟨w.heap.size, 0, none⟩ = some (.int .i64 c0) ∧ w8.cell? ⟨w.heap.size, 1, none⟩ = some (.int .i64 c1) ∧ w8.cell? ⟨w.heap.size, 2, none⟩ = some (.int .i64 c2) ∧ w8.cell? ⟨w.heap.size, 3, none⟩ = some (.int .i64 c3) ∧ w8.cell? ⟨w.heap.size, 4, none⟩ = some (.int .i64 c4) ∧ w8.cell? ⟨b6, 0, none⟩ = some (.int .i64 n0) ∧ w8.cell? ⟨b6, 1, none⟩ = some (.int .i64 n1) ∧ w8.cell? ⟨b6, 2, none⟩ = some (.int .i64 n2) ∧ w8.cell? ⟨b6, 3, none⟩ = some (.int .i64 n3) ∧ w8.cell? ⟨b6, 4, none⟩ = some (.int .i64 n4) ∧ w8.cell? ⟨(b6 + 1), 0, none⟩ = some (.int .i64 n0) ∧ w8.cell? ⟨(b6 + 1), 1, none⟩ = some (.int .i64 n1) ∧ w8.cell? ⟨(b6 + 1), 2, none⟩ = some (.int .i64 n2) ∧ w8.cell? ⟨(b6 + 1), 3, none⟩ = some (.int .i64 n3) ∧ w8.cell? ⟨(b6 + 1), 4, none⟩ = some (.int .i64 n4)) ∧ Hid (Below w.heap.size w w8))
        (first | exact S15.drew HS2.out | (refine S15.step ?_ hb; assumption))
        (first
          | (go_at_call 22; refine (H.aside c0 c1 c2 c3 c4 _ (HL.out _ ?_) p0 p1 g0 g1).mono ?_; (refine S15.low (b0 := w.heap.size) (b6 := b6) (b7 := b6 + 1) (c0 := c0) (c1 := c1) (c2 := c2) (c3 := c3) (c4 := c4) (n0 := n0) (n1 := n1) (n2 := n2) (n3 := n3) (n4 := n4) ?_; assumption); rintro e w9 ⟨rfl, hb⟩)
          | (go_at_call 15; refine (lives_any H _ (HL.out _ ?_)).mono ?_; (refine S15.low (b0 := w.heap.size) (b6 := b6) (b7 := b6 + 1) (c0 := c0) (c1 := c1) (c2 := c2) (c3 := c3) (c4 := c4) (n0 := n0) (n1 := n1) (n2 := n2) (n3 := n3) (n4 := n4) ?_; assumption); rintro e w9 ⟨rfl, hb⟩))
      all_goals
        have HE := Lib.hid (show Below w.heap.size w w9 from by
          refine S15.low (b0 := w.heap.size) (b6 := b6) (b7 := b6 + 1) (c0 := c0) (c1 := c1) (c2 := c2) (c3 := c3) (c4 := c4) (n0 := n0) (n1 := n1) (n2 := n2) (n3 := n3) (n4 := n4) ?_
          assumption)
        go_wp2_with fail
        go_ret
        exact ⟨rfl, HE.out⟩
set_option maxRecDepth 100000 in
set_option maxHeartbeats 4000000 in
theorem lawCount_out {L : World → Prop} (H : SPrg L) (A : Option Addr) (m cap : Nat) (c0 c1 c2 c3 c4 : Int) (w : World) (hL : L w) (h : ¬ (m ≤ 300 ∧ (0 ≤ c3 ∧ c3 ≤ 1099511627776) ∧ (0 ≤ c4 ∧ c4 ≤ 1099511627776))) :
    Calls Tryd.prog 5 #[.slice A m cap, .agg #[.int .i64 c0, .int .i64 c1, .int .i64 c2, .int .i64 c3, .int .i64 c4]] w fun e w' => e = .returned (.bool true) ∧ Below w.heap.size w w' := by
  have HB0 := Lib.hid ((Below.refl w.heap.size w).alloc (Nat.le_refl _) (.cells #[.int .i64 c0, .int .i64 c1, .int .i64 c2, .int .i64 c3, .int .i64 c4] 36))
  have HC := Lib.hid (lives_any H _ (H.low w _ hL HB0.out))
  clear hL
  by_cases k0 : 300 < m
  · have kk : (300 : Int) < (m : Int) := by omega
    clear h
    go_enter Tryd.func5, Tryd.ntmps5
    go_wp2_with fail
    refine HC.out.mono ?_
    rintro e w1 ⟨rfl, hb1⟩
    have HB1 := Lib.hid (HB0.out.trans (hb1.mono HB0.out.size))
    clear hb1
    go_wp2_with fail
    go_ret
    exact ⟨rfl, HB1.out⟩
  · have kk0 : ¬ (300 : Int) < (m : Int) := by omega
    replace h : ¬ ((0 ≤ c3 ∧ c3 ≤ 1099511627776) ∧ (0 ≤ c4 ∧ c4 ≤ 1099511627776)) := fun h2 => h ⟨by omega, h2⟩
    clear k0
    by_cases k1 : c3 < 0
    · clear h
      go_enter Tryd.func5, Tryd.ntmps5
      go_wp2_with fail
      refine HC.out.mono ?_
      rintro e w1 ⟨rfl, hb1⟩
      have HB1 := Lib.hid (HB0.out.trans (hb1.mono HB0.out.size))
      clear hb1
      go_wp2_with fail
      go_ret
      exact ⟨rfl, HB1.out⟩
    · have kk1 : ¬ c3 < 0 := k1
      clear k1
      by_cases k2 : c4 < 0
      · clear h
        go_enter Tryd.func5, Tryd.ntmps5
        go_wp2_with fail
        refine HC.out.mono ?_
        rintro e w1 ⟨rfl, hb1⟩
        have HB1 := Lib.hid (HB0.out.trans (hb1.mono HB0.out.size))
        clear hb1
        go_wp2_with fail
        go_ret
        exact ⟨rfl, HB1.out⟩
      · have kk2 : ¬ c4 < 0 := k2
        clear k2
        by_cases k3 : 1099511627776 < c3
        · clear h
          go_enter Tryd.func5, Tryd.ntmps5
          go_wp2_with fail
          refine HC.out.mono ?_
          rintro e w1 ⟨rfl, hb1⟩
          have HB1 := Lib.hid (HB0.out.trans (hb1.mono HB0.out.size))
          clear hb1
          go_wp2_with fail
          go_ret
          exact ⟨rfl, HB1.out⟩
        · have kk3 : ¬ 1099511627776 < c3 := k3
          clear k3
          by_cases k4 : 1099511627776 < c4
          · clear h
            go_enter Tryd.func5, Tryd.ntmps5
            go_wp2_with fail
            refine HC.out.mono ?_
            rintro e w1 ⟨rfl, hb1⟩
            have HB1 := Lib.hid (HB0.out.trans (hb1.mono HB0.out.size))
            clear hb1
            go_wp2_with fail
            go_ret
            exact ⟨rfl, HB1.out⟩
          · exact absurd (by omega) h
end Go.Proofs.YtelehpegnjbcaaaDoor
