/-
  The laws HeadersOf and HeadersPast walked: they answer true, and change nothing that was there; conditions: the program's five calls do as the plain side says, where what the program lays lies as laid.
-/
import Derived.Test.YtfholfmlkehfnaaDoorHE2
import Derived.Deep.RegionHeld3
import Derived.IntWalk
namespace Go.Proofs.YtfholfmlkehfnaaDoor
open Go.RowKit

theorem of_bd (x to most : Int) : 0 ≤ ofH x to most ∧ ofH x to most ≤ 7 := by
  unfold ofH
  cases h : (([1, 2, 3, 4, 5, 6, 7] : List Int).find? fun c => decide (doneH x c most = some to)) with
  | none => exact ⟨by decide, by decide⟩
  | some c =>
    have := List.mem_of_find?_eq_some h
    simp only [List.mem_cons, List.not_mem_nil, or_false] at this
    simp only [Option.getD_some]
    omega
/-- The changes below k that may be done. -/
def doC (x most : Int) (k : Nat) : List Nat := (List.range k).filter fun i => (doneH x (i : Int) most).isSome
theorem doC_succ (x most : Int) (k : Nat) : doC x most (k + 1) = doC x most k ++ if (doneH x (k : Int) most).isSome = true then [k] else [] := by
  unfold doC
  rw [List.range_succ, List.filter_append, List.filter_cons, List.filter_nil]
theorem doC_prefix (x most : Int) (i : Nat) : ∀ k, i ≤ k → ∃ r, doC x most k = doC x most i ++ r := by
  intro k
  induction k with
  | zero => exact fun h => ⟨[], by obtain rfl : i = 0 := by omega
                                   rw [List.append_nil]⟩
  | succ k ih =>
    intro h
    rcases Nat.lt_or_ge k i with hk | hk
    · obtain rfl : i = k + 1 := by omega
      exact ⟨[], by rw [List.append_nil]⟩
    · obtain ⟨r, hr⟩ := ih hk
      rw [doC_succ, hr]
      exact ⟨_, List.append_assoc ..⟩
theorem doC_length (x most : Int) (k : Nat) : (doC x most k).length ≤ k := by
  have h := List.length_filter_le (fun i : Nat => (doneH x (i : Int) most).isSome) (List.range k)
  rw [List.length_range] at h
  exact h
theorem doneS_out {s g c most : Int} (h : c < 1 ∨ 7 < c) : doneS s g c most = none := by
  unfold doneS
  repeat rw [if_neg (by omega)]
theorem doneH_out {x c most : Int} (h : c < 1 ∨ 7 < c) : doneH x c most = none := by
  unfold doneH
  rw [doneS_out h]
  split <;> rfl
theorem allH_doC (x most : Int) : allH x most = (doC x most 12).map fun i : Nat => (i : Int) := by
  have e : ((List.range 12).map fun i : Nat => (i : Int)) = [0, 1, 2, 3, 4, 5, 6, 7, 8, 9, 10, 11] := by decide
  have hm : (doC x most 12).map (fun i : Nat => (i : Int)) = (((List.range 12).map fun i : Nat => (i : Int)).filter fun c => (doneH x c most).isSome) := by
    unfold doC
    rw [List.filter_map]
    rfl
  rw [hm, e]
  unfold allH
  have h0 : (doneH x 0 most).isSome = false := by rw [doneH_out (by omega)]; rfl
  have h8 : (doneH x 8 most).isSome = false := by rw [doneH_out (by omega)]; rfl
  have h9 : (doneH x 9 most).isSome = false := by rw [doneH_out (by omega)]; rfl
  have h10 : (doneH x 10 most).isSome = false := by rw [doneH_out (by omega)]; rfl
  have h11 : (doneH x 11 most).isSome = false := by rw [doneH_out (by omega)]; rfl
  simp [List.filter_cons, h0, h8, h9, h10, h11]
theorem allH_length (x most : Int) : (allH x most).length = (doC x most 12).length := by rw [allH_doC, List.length_map]
theorem allH_at {x most : Int} {k : Nat} (hk : k < 12) (h : (doneH x (k : Int) most).isSome = true) : ((allH x most).map cV)[(doC x most k).length]? = some (.int .u8 (k : Int)) ∧ (doC x most k).length < (allH x most).length := by
  obtain ⟨r, hr⟩ := doC_prefix x most (k + 1) 12 (by omega)
  have hs := doC_succ x most k
  rw [if_pos h] at hs
  rw [hs] at hr
  have e : (doC x most 12)[(doC x most k).length]? = some k := by
    rw [hr, List.append_assoc, List.getElem?_append_right (Nat.le_refl _), Nat.sub_self]
    rfl
  refine ⟨?_, ?_⟩
  · rw [allH_doC, List.getElem?_map, List.getElem?_map, e]
    rfl
  · rw [allH_length]
    exact (List.getElem?_eq_some_iff.1 e).1
/-- The two words' cells, while the world goes on. -/
def ZBox (w0 : World) (q : Nat) (z0 z1 : Int) (w : World) : Prop := (w.cell? ⟨q, 0, Option.none⟩ = some (.int .u64 z0) ∧ w.cell? ⟨q, 1, Option.none⟩ = some (.int .u64 z1)) ∧ Hid (Below w0.heap.size w0 w)
theorem ZBox.step {w0 w1 w2 : World} {q : Nat} {z0 z1 : Int} (hq : q < w0.heap.size) (h : ZBox w0 q z0 z1 w1) (hb : Below w1.heap.size w1 w2) : ZBox w0 q z0 z1 w2 := by
  obtain ⟨⟨h0, h1⟩, hB⟩ := h
  have hq1 : q < w1.heap.size := Nat.lt_of_lt_of_le hq hB.out.size
  exact ⟨⟨(hb.cell (p := ⟨q, 0, Option.none⟩) hq1).trans h0, (hb.cell (p := ⟨q, 1, Option.none⟩) hq1).trans h1⟩, Lib.hid (hB.out.trans (hb.mono hB.out.size))⟩
theorem ZBox.drew {w0 w1 : World} {q : Nat} {z0 z1 : Int} (h : ZBox w0 q z0 z1 w1) : ZBox w0 q z0 z1 w1.drew := ⟨h.1, Lib.hid h.2.out.drew⟩
theorem ZBox.low {w0 w1 : World} {q : Nat} {z0 z1 : Int} (h : ZBox w0 q z0 z1 w1) : Below w0.heap.size w0 w1 := h.2.out
set_option maxRecDepth 100000 in
set_option maxHeartbeats 8000000 in
theorem lawOf {L : World → Prop} (H : HPrg L) (z0 z1 c most : Int) (w : World) (hL : L w) (h0 : U64 z0) (h1 : U64 z1) (hc : U8 c) (hm : U32 most) :
    Calls Tryd.prog 3 #[.agg #[.int .u64 z0, .int .u64 z1], .int .u8 c, .int .u32 most] w fun e w' => e = .returned (.bool true) ∧ Below w.heap.size w w' := by
  have HL := Lib.hid hL
  have H0 := Lib.hid h0
  have H1 := Lib.hid h1
  have HC := Lib.hid hc
  have HM := Lib.hid hm
  have hc' := hc
  unfold U8 at hc'
  obtain ⟨c0, c1⟩ := hc'
  clear hL h0 h1 hc hm
  go_enter Tryd.func3, Tryd.ntmps3
  go_wp2_with fail
  have hb1 : Below w.heap.size w (w.alloc (.cells #[.int .u64 z0, .int .u64 z1] 23)) := (Below.refl _ _).alloc (Nat.le_refl _) _
  have hbx := heap_alloc_new w (.cells #[.int .u64 z0, .int .u64 z1] 23)
  have HB1 := Lib.hid hb1
  have HL1 := Lib.hid (H.low _ _ HL.out hb1)
  have d0 : (w.alloc (.cells #[.int .u64 z0, .int .u64 z1] 23)).cell? ⟨w.heap.size, 0, Option.none⟩ = some (.int .u64 z0) := by rw [cell_of_row _ _ _ _ _ _ hbx]; rfl
  have d1 : (w.alloc (.cells #[.int .u64 z0, .int .u64 z1] 23)).cell? ⟨w.heap.size, 1, Option.none⟩ = some (.int .u64 z1) := by rw [cell_of_row _ _ _ _ _ _ hbx]; rfl
  have hq : w.heap.size < (w.alloc (.cells #[.int .u64 z0, .int .u64 z1] 23)).heap.size := by simp
  clear hb1 hbx
  revert HB1 HL1 d0 d1 hq
  generalize w.alloc (.cells #[.int .u64 z0, .int .u64 z1] 23) = w1
  obtain ⟨q, hqe⟩ : ∃ q, w.heap.size = q := ⟨_, rfl⟩
  rw [hqe]
  intro HB1 HL1 d0 d1 hq
  have HQE := Lib.hid hqe
  have hbox : ZBox w1 q z0 z1 w1 := ⟨⟨d0, d1⟩, Lib.hid (Below.refl _ _)⟩
  obtain ⟨b, hb⟩ : ∃ b, mayH z0 most = b := ⟨_, rfl⟩
  obtain ⟨o, ho⟩ : ∃ o, ofH z0 z1 most = o := ⟨_, rfl⟩
  obtain ⟨o0, o1⟩ := of_bd z0 z1 most
  rw [ho] at o0 o1
  have hbb : (b != b) = false := bne_self_eq_false b
  have C1 : Hid (∀ W, Below w1.heap.size w1 W → Calls Tryd.prog 7 #[.int .u64 z0, .int .u32 most] W fun e w' => e = .returned (.bool b) ∧ Below W.heap.size W w') := Lib.hid (fun W h => by rw [← hb]; exact H.may z0 most W (H.low _ _ HL1.out h) H0.out HM.out)
  have C2 : Hid (∀ W, Calls Tryd.prog 8 #[.int .u64 z0, .int .u32 most] W fun e w' => e = .returned (.bool b) ∧ Below W.heap.size W w') := Lib.hid (fun W => by rw [← hb]; exact (rmay_any z0 most W H0.out HM.out).mono fun e w' h => ⟨h.1, by rw [h.2]; exact Below.refl _ _⟩)
  have C3 : Hid (∀ W, Below w1.heap.size w1 W → Calls Tryd.prog 9 #[.int .u64 z0, .int .u64 z1, .int .u32 most] W fun e w' => e = .returned (.int .u8 o) ∧ Below W.heap.size W w') := Lib.hid (fun W h => by rw [← ho]; exact H.of z0 z1 most W (H.low _ _ HL1.out h) H0.out H1.out HM.out)
  have C4 : Hid (∀ W, Calls Tryd.prog 10 #[.int .u64 z0, .int .u64 z1, .int .u32 most] W fun e w' => e = .returned (.int .i64 o) ∧ Below W.heap.size W w') := Lib.hid (fun W => by rw [← ho]; exact (rof_any z0 z1 most W H0.out HM.out).mono fun e w' h => ⟨h.1, by rw [h.2]; exact Below.refl _ _⟩)
  have howr : IntKind.i64.wrap o = o := IntWalk.i64_in _ (by omega)
  have hoo : (o != o) = false := bne_self_eq_false o
  clear hb ho hqe d0 d1
  go_region_held3 (fun w2 => (w2.cell? ⟨q, 0, Option.none⟩ = some (.int .u64 z0) ∧ w2.cell? ⟨q, 1, Option.none⟩ = some (.int .u64 z1)) ∧ Hid (Below w1.heap.size w1 w2))
    (first | exact ZBox.drew hbox | (refine ZBox.step hq ?_ hb; assumption))
    (first
      | (go_at_call 7; refine (C1.out _ (ZBox.low (w0 := w1) (q := q) (z0 := z0) (z1 := z1) (by assumption))).mono ?_; rintro e w' ⟨rfl, hb⟩)
      | (go_at_call 8; refine (C2.out _).mono ?_; rintro e w' ⟨rfl, hb⟩)
      | (go_at_call 9; refine (C3.out _ (ZBox.low (w0 := w1) (q := q) (z0 := z0) (z1 := z1) (by assumption))).mono ?_; rintro e w' ⟨rfl, hb⟩)
      | (go_at_call 10; refine (C4.out _).mono ?_; rintro e w' ⟨rfl, hb⟩))
  obtain ⟨⟨d0, d1⟩, hB⟩ : ZBox w1 q z0 z1 _ := by assumption
  obtain ⟨v, ok, hv⟩ : ∃ v ok, toldW (doneH z0 c most) = .tuple #[.int .u64 v, .bool ok] := ⟨_, _, rfl⟩
  have D1 : Hid (∀ W, Below w1.heap.size w1 W → Calls Tryd.prog 11 #[.int .u64 z0, .int .u8 c, .int .u32 most] W fun e w' => e = .returned (.tuple #[.int .u64 v, .bool ok]) ∧ Below W.heap.size W w') := Lib.hid (fun W h => by rw [← hv]; exact H.done z0 c most W (H.low _ _ HL1.out h) H0.out HC.out HM.out)
  have D2 : Hid (∀ W, Calls Tryd.prog 12 #[.int .u64 z0, .int .i64 c, .int .u32 most] W fun e w' => e = .returned (.tuple #[.int .u64 v, .bool ok]) ∧ w' = W) := Lib.hid (fun W => by rw [← hv]; exact rdone_any z0 c most W H0.out HM.out)
  have hvv : (v != v) = false := bne_self_eq_false v
  have hkk : (ok != ok) = false := bne_self_eq_false ok
  have hcw : IntKind.i64.wrap c = c := IntWalk.i64_in _ (by omega)
  clear hv C1 C2 C3 C4 hbox howr hoo hbb
  go_wp2_with fail
  refine (D1.out _ hB.out).mono ?_
  rintro e w3 ⟨rfl, hb3⟩
  obtain ⟨⟨d0, d1⟩, hB3⟩ := ZBox.step hq ⟨⟨d0, d1⟩, hB⟩ hb3
  go_wp2_with fail
  refine (D2.out _).mono ?_
  rintro e w4 ⟨rfl, rfl⟩
  go_wp2_with fail
  refine (H.all z0 most _ (H.low _ _ HL1.out hB3.out) H0.out HM.out).mono ?_
  rintro e w5 ⟨A, cap, rfl, hcap, hrow, hb5⟩
  obtain ⟨⟨e0, e1⟩, hB5⟩ := ZBox.step hq ⟨⟨d0, d1⟩, hB3⟩ hb5
  have HROW := Lib.hid hrow
  have HAT := Lib.hid (fun k hk h => allH_at (x := z0) (most := most) (k := k) hk h)
  have HLEN := Lib.hid (allH_length z0 most)
  have hn12 := doC_length z0 most 12
  rw [← HLEN.out] at hn12
  have HZ5 := Lib.hid (show ZBox w5 q z0 z1 w5 from ⟨⟨e0, e1⟩, Lib.hid (Below.refl _ _)⟩)
  have HB5 := Lib.hid (show Below w.heap.size w w5 from by
    have h1 := HB1.out
    rw [← HQE.out] at h1
    exact h1.trans (hB5.out.mono h1.size))
  have HL5 := Lib.hid (H.low _ _ HL1.out hB5.out)
  have hq5 : q < w5.heap.size := Nat.lt_of_lt_of_le hq hB5.out.size
  have DK := Lib.hid (fun k W => rdone_any z0 k most W H0.out HM.out)
  have HM0 := Lib.hid (show (doC z0 most 0).length = 0 from rfl)
  obtain ⟨n, hn⟩ : ∃ n, (allH z0 most).length = n := ⟨_, rfl⟩
  rw [hn] at hcap hn12 HLEN HAT ⊢
  clear hrow hb3 hb5 D1 D2 hvv hkk hcw d0 d1 hB hB3 hB5 e0 e1 hn
  go_wp2_with fail
  go_loopw [12, 13] (fun at_ i wr => ∃ k m : Nat, k ≤ 12 ∧ i = .int .i64 (k : Int) ∧ at_ = .int .i64 (m : Int) ∧ Hid ((doC z0 most k).length = m) ∧ ZBox w5 q z0 z1 wr) (fun _ i _ => 12 - (intOf i).toNat)
  case atStart => exact ⟨0, 0, by omega, rfl, rfl, HM0, HZ5.out⟩
  case round =>
    obtain ⟨k, m, hk, rfl, rfl, HMK, hz⟩ := hrel
    have HZ := Lib.hid hz
    obtain ⟨⟨d0, _⟩, _⟩ := hz
    have hk0 : (0 : Int) ≤ (k : Int) := by omega
    have hk12 : (k : Int) ≤ 12 := by omega
    have hm12 : m ≤ 12 := by
      have h1 := doC_length z0 most k
      have h2 := HMK.out
      omega
    by_cases hlt : k < 12
    · have hlt' : (k : Int) < 12 := by omega
      have DK1 := Lib.hid (DK.out (k : Int) wr)
      have HS := Lib.hid (doC_succ z0 most k)
      have HA1 := Lib.hid (HAT.out k hlt)
      cases hd : doneH z0 (k : Int) most with
      | none =>
        rw [hd, told_none] at DK1
        have HN := Lib.hid (show (doC z0 most (k + 1)).length = m by rw [HS.out, hd, if_neg (by simp), List.append_nil]; exact HMK.out)
        clear hd
        go_wp2_with fail
        refine DK1.out.mono ?_
        rintro e w' ⟨rfl, rfl⟩
        go_wp2_with fail
        go_roundw
        case rel => exact ⟨k + 1, m, by omega, by go_num, rfl, HN, HZ.out⟩
        case measure => simp [intOf]; omega
      | some x =>
        rw [hd, told_some] at DK1
        obtain ⟨ha, hml⟩ := HA1.out (by rw [hd]; rfl)
        have HN := Lib.hid (show (doC z0 most (k + 1)).length = m + 1 by rw [HS.out, hd, if_pos (show (some x).isSome = true from rfl), List.length_append, HMK.out]; rfl)
        rw [HMK.out] at ha hml
        obtain ⟨g, off, rfl, hc⟩ := (HROW.out.below HZ.out.low).at_ (k := m) (by have := (List.getElem?_eq_some_iff.1 ha).1; exact this)
        have y := hc m _ ha
        have hml' : (m : Int) < (n : Int) := by omega
        have hm0 : (0 : Int) ≤ (m : Int) := by omega
        have hkw : IntKind.i64.wrap (k : Int) = (k : Int) := IntWalk.i64_in _ (by omega)
        clear hd ha hc
        go_wp2_with fail
        refine DK1.out.mono ?_
        rintro e w' ⟨rfl, rfl⟩
        go_wp2_with fail
        go_roundw
        case rel => exact ⟨k + 1, m + 1, by omega, by go_num, by go_num, HN, HZ.out⟩
        case measure => simp [intOf]; omega
    · have hge : (12 : Int) ≤ (k : Int) := by omega
      obtain rfl : k = 12 := by omega
      obtain rfl : n = m := HLEN.out.trans HMK.out
      have HL9 := Lib.hid (H.low _ _ HL5.out HZ.out.low)
      have HB9 := Lib.hid (HB5.out.trans (HZ.out.low.mono HB5.out.size))
      go_wp2_with (go_at_call 14; refine (lives_any H _ HL9.out).mono ?_; rintro e w4 ⟨rfl, hb4⟩; have HL4 := Lib.hid (HB9.out.trans (hb4.mono HB9.out.size)); clear hb4)
      go_ret
      exact ⟨rfl, HL4.out⟩
set_option maxHeartbeats 4000000 in
theorem lawPast {L : World → Prop} (H : HPrg L) (A : Option Addr) (cap : Nat) (l : List Int) (most : Int) (w : World) (hL : L w) (hs : Row w A (l.map uV)) (hu : ∀ x ∈ l, U64 x) (hm : U32 most) (hcap : A = Option.none → cap = 0) (hl : l.length ≤ 300) :
    Calls Tryd.prog 4 #[.slice A l.length cap, .int .u32 most] w fun e w' => e = .returned (.bool true) ∧ Below w.heap.size w w' := by
  obtain ⟨i0, hi, hz0, hz1, hz2⟩ := info_parts Tryd_infoU
  have HL := Lib.hid hL
  have HS := Lib.hid hs
  have HU := Lib.hid hu
  have HM := Lib.hid hm
  have HCAP := Lib.hid hcap
  clear hL hs hu hm hcap
  go_enter Tryd.func4, Tryd.ntmps4
  go_wp2_with (at_builtin; refine append_row rfl (.const (.slice Option.none 0 0)) (.tmp 11) 36 22 rfl Tryd.underlying36 i0 _ 8 hi hz0 hz1 hz2 rfl (by decide) w.heap.size _ [] rfl (World.ownsRow_nil _ _ _ _) A l.length cap (l.map uV) (by rw [List.length_map]) rfl HS.out (uV_one l) HCAP.out (by simp; omega) (Nat.le_refl _) ?_; intro v1 w1 ho1 hb1; rw [List.nil_append, List.length_map] at ho1; obtain ⟨B, c1, rfl, q1, q2, _⟩ := own_slice ho1; have HR1 := Lib.hid (row_of_own ho1); have HB1 := Lib.hid hb1; have HL1 := Lib.hid (H.low _ _ HL.out hb1); clear ho1 hb1)
  refine (H.past B c1 l most w1 HL1.out HR1.out HU.out HM.out q1 q2 (by omega)).mono ?_
  rintro e w2 ⟨rfl, hb⟩
  have HB2 := Lib.hid (HB1.out.trans (hb.mono HB1.out.size))
  have HL2 := Lib.hid (H.low _ _ HL1.out hb)
  have HR2 := Lib.hid (HR1.out.below hb)
  clear hb HB1 HR1 HL1
  go_wp2_with fail
  refine (rpast_any A cap l most w2 (HS.out.below (HB2.out.mono (Nat.le_refl _))) HU.out HM.out (by omega)).mono ?_
  rintro e w3 ⟨rfl, hb⟩
  have HB3 := Lib.hid (HB2.out.trans (hb.mono HB2.out.size))
  have HL3 := Lib.hid (H.low _ _ HL2.out hb)
  have HR3 := Lib.hid (HR2.out.below hb)
  clear hb HB2 HR2 HL2
  generalize (pastH l most : Int) = x
  go_wp2_with fail
  go_loopw [6] (fun i wr => ∃ k : Nat, k ≤ l.length ∧ i = .int .i64 (k : Int) ∧ Below w3.heap.size w3 wr) (fun i _ => l.length - (intOf i).toNat)
  case atStart => exact ⟨0, Nat.zero_le _, rfl, Below.refl _ _⟩
  case round =>
    obtain ⟨k, hk, rfl, hr⟩ := hrel
    have HR := Lib.hid hr
    clear hr
    by_cases hlt : k < l.length
    · obtain ⟨g, off, rfl, hc⟩ := (HR3.out.below HR.out).at_ (k := k) (by rw [List.length_map]; exact hlt)
      obtain ⟨g2, off2, rfl, hc2⟩ := (HS.out.below ((HB3.out.trans (HR.out.mono HB3.out.size)).mono (Nat.le_refl _))).at_ (k := k) (by rw [List.length_map]; exact hlt)
      have y1 := hc k _ (words_at hlt)
      have y2 := hc2 k _ (words_at hlt)
      generalize l.getD k 0 = b at y1 y2
      have hlt' : (k : Int) < (l.length : Int) := by omega
      have hge : (0 : Int) ≤ (k : Int) := by omega
      clear hc hc2
      go_wp2_with fail
      go_quiet (fail)
      go_wp2_with fail
      go_roundw
      case rel => exact ⟨k + 1, by omega, by go_num, below_drewN' HR.out _⟩
      case measure => simp [intOf]; omega
    · have hge : (l.length : Int) ≤ (k : Int) := by omega
      have HL4 := Lib.hid (HB3.out.trans (HR.out.mono HB3.out.size))
      have HLL := Lib.hid (H.low _ _ HL3.out HR.out)
      go_wp2_with (go_at_call 14; refine (lives_any H _ HLL.out).mono ?_; rintro e w4 ⟨rfl, hb4⟩; have HL5 := Lib.hid (HL4.out.trans (hb4.mono HL4.out.size)); clear hb4)
      go_ret
      exact ⟨rfl, HL5.out⟩
set_option maxHeartbeats 1000000 in
theorem lawPast_long {L : World → Prop} (H : HPrg L) (most : Int) (A : Option Addr) (m cap : Nat) (w : World) (hL : L w) (hm : 300 < m) :
    Calls Tryd.prog 4 #[.slice A m cap, .int .u32 most] w fun e w' => e = .returned (.bool true) ∧ Below w.heap.size w w' := by
  have HL := Lib.hid hL
  clear hL
  go_enter Tryd.func4, Tryd.ntmps4
  go_wp2_with (go_at_call 14; refine (lives_any H _ HL.out).mono ?_; rintro e w4 ⟨rfl, hb4⟩; have HL4 := Lib.hid hb4; clear hb4)
  go_ret
  exact ⟨rfl, HL4.out⟩
end Go.Proofs.YtfholfmlkehfnaaDoor
