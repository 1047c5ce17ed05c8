/-
  The law GrowsWhole, walked: it returns true and only makes memory of its own; condition: the tables as laid, the list of numbers lies as it says.
-/
import Derived.Test.YtmjcbjcnmgleaaaGreatDoorAF2
import Derived.Test.YtmjcbjcnmgleaaaGreatDoorFRow
namespace Go.Proofs.YtmjcbjcnmgleaaaGreatDoor
open Go.RowKit Go.Maps

theorem whole_parts {x : Int} (h : 0 ≤ x ∧ x < 65536) : ∃ k d6 d d30 e d60 f d180 g : Nat, k < 6 ∧ d < 5 ∧ e < 2 ∧ f < 3 ∧ g < 3 ∧ (d6 < 65536 ∧ d30 < 65536 ∧ d60 < 65536 ∧ d180 < 65536) ∧
    Int.tmod x 6 = (k : Int) ∧ Int.tdiv x 6 = (d6 : Int) ∧ Int.tmod (d6 : Int) 5 = (d : Int) ∧ Int.tdiv x 30 = (d30 : Int) ∧ Int.tmod (d30 : Int) 2 = (e : Int) ∧ Int.tdiv x 60 = (d60 : Int) ∧ Int.tmod (d60 : Int) 3 = (f : Int) ∧ Int.tdiv x 180 = (d180 : Int) ∧ Int.tmod (d180 : Int) 3 = (g : Int) := by
  obtain ⟨a, b⟩ := h
  refine ⟨(x % 6).toNat, (x / 6).toNat, (x / 6).toNat % 5, (x / 30).toNat, (x / 30).toNat % 2, (x / 60).toNat, (x / 60).toNat % 3, (x / 180).toNat, (x / 180).toNat % 3, by omega, by omega, by omega, by omega, by omega, ⟨by omega, by omega, by omega, by omega⟩, ?_, ?_, ?_, ?_, ?_, ?_, ?_, ?_, ?_⟩
  · rw [Int.tmod_eq_emod_of_nonneg a]; omega
  · rw [Int.tdiv_eq_ediv_of_nonneg a]; omega
  · rw [Int.tmod_eq_emod_of_nonneg (by omega)]; omega
  · rw [Int.tdiv_eq_ediv_of_nonneg a]; omega
  · rw [Int.tmod_eq_emod_of_nonneg (by omega)]; omega
  · rw [Int.tdiv_eq_ediv_of_nonneg a]; omega
  · rw [Int.tmod_eq_emod_of_nonneg (by omega)]; omega
  · rw [Int.tdiv_eq_ediv_of_nonneg a]; omega
  · rw [Int.tmod_eq_emod_of_nonneg (by omega)]; omega
theorem whole_nums {z1 z2 : Int} (h1 : U8 z1) (h2 : U8 z2) : ∃ up mr mo : Nat, up + mr = 3 ∧ mo < 4 ∧ Int.tmod z1 4 = (up : Int) ∧ Int.tmod z2 4 = (mo : Int) := by
  obtain ⟨a, b⟩ := h1
  obtain ⟨c, d⟩ := h2
  refine ⟨(z1 % 4).toNat, 3 - (z1 % 4).toNat, (z2 % 4).toNat, by omega, by omega, ?_, ?_⟩
  · rw [Int.tmod_eq_emod_of_nonneg a]; omega
  · rw [Int.tmod_eq_emod_of_nonneg c]; omega
theorem iw {n : Nat} (h : n < 1000000) : IntKind.i64.wrap (n : Int) = (n : Int) := by simp [IntKind.wrap, IntKind.bits, IntKind.signed]; omega
theorem low_cell9 {W w : World} (h : Below W.heap.size W w) {a : Addr} {v : Value} (hc : W.cell? a = some v) : w.cell? a = some v := by
  have hlt : a.block < W.heap.size := by
    refine Decidable.byContradiction fun hn => ?_
    simp [World.cell?, Array.getElem?_eq_none (Nat.le_of_not_lt hn)] at hc
  have hb := h.block a.block hlt
  unfold World.cell? at hc ⊢
  rw [hb]
  exact hc
set_option maxRecDepth 100000 in
set_option maxHeartbeats 16000000 in
theorem whole_any (z1 z2 : Int) (A : Option Addr) (cap : Nat) (l : List Int) (W : World) (hL : Lay W) (hM : LayM W) (hz1 : U8 z1) (hz2 : U8 z2) (hs : Row W A (l.map fun z => .int .u16 z)) (hu : ∀ z ∈ l, 0 ≤ z ∧ z < 65536) :
    Calls Tryz.prog 5 #[.slice A l.length cap, .int .u8 z1, .int .u8 z2] W fun e W' => e = .returned (.bool true) ∧ Below W.heap.size W W' := by
  obtain ⟨up, mr, mo, hum, hmo4, e1, e2⟩ := whole_nums hz1 hz2
  have hup3 : up ≤ 3 := by omega
  have hw1 : IntKind.i64.wrap z1 = z1 := by simp [IntKind.wrap, IntKind.bits]; obtain ⟨a, b⟩ := hz1; omega
  have hw2 : IntKind.u32.wrap z2 = z2 := by simp [IntKind.wrap, IntKind.bits, IntKind.signed]; obtain ⟨a, b⟩ := hz2; omega
  have hw3 : IntKind.i64.wrap (up : Int) = (up : Int) := iw (by omega)
  have hw4 : IntKind.u32.wrap (mo : Int) = (mo : Int) := by simp [IntKind.wrap, IntKind.bits, IntKind.signed]; omega
  have hw5 : IntKind.i64.wrap (3 - (up : Int)) = (mr : Int) := by simp [IntKind.wrap, IntKind.bits, IntKind.signed]; omega
  have hmo : 0 ≤ (mo : Int) ∧ (mo : Int) < 4294967296 := by omega
  have h1W : 1 < W.heap.size := by have := hM.1; have := hL.1; omega
  have hbeg := begin9_any up mr (by omega) W hL hM
  have HU := Lib.hid hu
  have HS := Lib.hid hs
  have HLM := Lib.hid (⟨hL, hM⟩ : _ ∧ _)
  have HMO := Lib.hid hmo
  clear hL hM hu hs hz1 hz2 hmo
  go_enter Tryz.func5, Tryz.ntmps5
  by_cases hlen : 400 < l.length
  · have hlen' : (400 : Int) < (l.length : Int) := by omega
    clear hbeg
    go_wp2_with fail
    ((with_reducible refine (lives9_any W HLM.out.1 HLM.out.2).mono ?_); rintro e w4 ⟨rfl, hb⟩)
    go_wp2_with fail
    go_ret
    exact ⟨rfl, hb⟩
  have hlen' : (l.length : Int) ≤ 400 := by omega
  go_wp2_with fail
  ((with_reducible refine hbeg.mono ?_); rintro e w1 ⟨p, b, M, rfl, hB, F, low1, hp, hb⟩)
  rw [hum] at hB
  have HB := Lib.hid (⟨hB, F, low1, hp, hb⟩ : _ ∧ _ ∧ _ ∧ _ ∧ _)
  have hmk := mkA4
  clear hB F low1 hp hb hbeg hw1 hw2 hw3 hw4 hw5 e1 e2 hum HLM
  go_upto_region 9 with (fail)
  obtain ⟨w2, hw2⟩ : ∃ w2, w2 = w1.alloc (.cells act4 79) := ⟨_, rfl⟩
  rw [← hw2]
  have HW2 := Lib.hid hw2
  clear hw2 hmk
  go_upto_region 10 with (fail)
  have HX := Lib.hid (show WH W p b w1.heap.size w2.heap.size (mo : Int) 200 (fun _ _ _ _ => True) (w2.alloc (.cells #[.pointer none, .pointer none] 72)) from by
    rw [HW2.out, World.size_alloc]
    obtain ⟨hB, F, low1, hp, hb⟩ := HB.out
    exact wh_begin hup3 low1 F hp hb hB HMO.out.1)
  clear HB HW2
  revert HX
  generalize w2.alloc (.cells #[.pointer none, .pointer none] 72) = w3
  generalize w2.heap.size = K
  generalize w1.heap.size = G
  intro HX
  clear M
  go_wp2_with fail
  go_loopw [13] (fun j wr => ∃ i : Nat, i ≤ l.length ∧ j = .int .i64 (i : Int) ∧ Hid (WH W p b G K (mo : Int) (200 + 405 * i) (fun _ _ _ _ => True) wr)) (fun j _ => l.length - (intOf j).toNat)
  case atStart => exact ⟨0, Nat.zero_le _, rfl, HX⟩
  case round =>
    clear HX
    obtain ⟨i, hi, rfl, HX⟩ := hrel
    rename World => w4
    have hge : (0 : Int) ≤ (i : Int) := by omega
    by_cases hlt : i < l.length
    · obtain ⟨g, off, rfl, hc⟩ := HS.out.at_ (k := i) (by rw [List.length_map]; exact hlt)
      have hy : w4.cell? ⟨g, off + i, none⟩ = some (.int .u16 (l.getD i 0)) := low_cell9 HX.out.low (hc i _ (by simp [List.getD_eq_getElem?_getD, List.getElem?_eq_getElem hlt]))
      have hx := HU.out (l.getD i 0) (by rw [List.getD_eq_getElem?_getD, List.getElem?_eq_getElem hlt]; simp)
      clear hc
      generalize l.getD i 0 = x at hy hx
      obtain ⟨k, d6, d, d30, e, d60, f, d180, g9, hk, hd, he, hf, hg, ⟨b1, b2, b3, b4⟩, q1, q2, q3, q4, q5, q6, q7, q8, q9⟩ := whole_parts hx
      have hxw : IntKind.i64.wrap x = x := by simp [IntKind.wrap, IntKind.bits, IntKind.signed]; omega
      have f1 := iw (n := k) (by omega)
      have f2 := iw (n := d6) (by omega)
      have f3 := iw (n := d) (by omega)
      have f4 := iw (n := d30) (by omega)
      have f5 := iw (n := e) (by omega)
      have f6 := iw (n := d60) (by omega)
      have f7 := iw (n := f) (by omega)
      have f8 := iw (n := d180) (by omega)
      have f9 := iw (n := g9) (by omega)
      have hlt' : (i : Int) < (l.length : Int) := by omega
      have hi400 : i < 400 := by omega
      have hk0 : (0 : Int) ≤ (k : Int) := by omega
      generalize l.length = ll at *
      clear hx b1 b2 b3 b4
      go_wp2_with fail
      clear hy
      go_loopw [16] (fun j wr => ∃ n : Nat, n ≤ d + 1 ∧ j = .int .i64 (n : Int) ∧ Hid (WH W p b G K (mo : Int) (200 + 405 * i + n) (fun _ _ _ _ => True) wr)) (fun j _ => d + 1 - (intOf j).toNat)
      case atStart => exact ⟨0, Nat.zero_le _, rfl, HX⟩
      case round =>
        clear HX
        obtain ⟨n, hn, rfl, HX⟩ := hrel
        rename World => w5
        have hng : (0 : Int) ≤ (n : Int) := by omega
        by_cases hnd : n ≤ d
        · have hnd' : (n : Int) ≤ (d : Int) := by omega
          by_cases hk4 : k < 4
          · have hk4' : (k : Int) < 4 := by omega
            go_wp2_with fail
            ((with_reducible refine (HX.out.act (Q' := fun _ _ _ _ => True) _ h1W HMO.out hk4 (k * 3) (Nat.mul_comm _ _) (by omega) (fun _ _ _ _ _ _ _ => trivial)).mono ?_); rintro e' w6 ⟨rfl, r6⟩)
            have HX6 := Lib.hid (show WH W p b G K (mo : Int) (200 + 405 * i + (n + 1)) (fun _ _ _ _ => True) w6 from r6)
            clear r6 HX
            go_wp2_with fail
            go_roundw
            case rel => exact ⟨n + 1, by omega, by go_num, HX6⟩
            case measure => simp [intOf]; omega
          · have hk4' : (4 : Int) ≤ (k : Int) := by omega
            go_wp2_with fail
            ((with_reducible refine (HX.out.keeper (Q' := fun _ _ _ _ => True) _ h1W HMO.out.2 (sg := (f : Int)) (lk := (g9 : Int)) ⟨by omega, by omega⟩ ⟨by omega, by omega⟩ (by omega) (fun _ _ _ _ _ _ _ _ _ => trivial)).mono ?_); rintro e' w6 ⟨rfl, r6⟩)
            have HX6 := Lib.hid (show WH W p b G K (mo : Int) (200 + 405 * i + (n + 1)) (fun _ _ _ _ => True) w6 from r6)
            clear r6 HX
            go_wp2_with fail
            go_roundw
            case rel => exact ⟨n + 1, by omega, by go_num, HX6⟩
            case measure => simp [intOf]; omega
        · have hnd' : (d : Int) < (n : Int) := by omega
          go_wp2_with fail
          ((with_reducible refine (HX.out.sound HMO.out.2 (by omega)).mono ?_); rintro e' w6 ⟨rfl, r6⟩)
          have HX6 := Lib.hid (show WH W p b G K (mo : Int) (200 + 405 * (i + 1)) (fun _ _ _ _ => True) w6 from r6.mono (by omega) (fun _ _ _ _ h => h))
          clear r6 HX
          go_wp2_with fail
          go_roundw
          case rel => exact ⟨i + 1, by omega, by go_num, HX6⟩
          case measure => simp [intOf]; omega
    · have hge2 : (l.length : Int) ≤ (i : Int) := by omega
      have HX2 := Lib.hid (show WH W p b G K (mo : Int) (163000 + 9500 * 0) (QR 0) w4 from HX.out.mono (by omega) (fun _ _ _ _ _ h => absurd rfl h))
      clear HX HU HS
      generalize l.length = ll at *
      go_wp2_with fail
      clear hge hge2 hlt hi hlen hlen'
      go_loopw [17] (fun j wr => ∃ r : Nat, r ≤ 3 ∧ j = .int .i64 (r : Int) ∧ Hid (WH W p b G K (mo : Int) (163000 + 9500 * r) (QR r) wr)) (fun j _ => 3 - (intOf j).toNat)
      case atStart => exact ⟨0, Nat.zero_le _, rfl, HX2⟩
      case round =>
        clear HX2
        obtain ⟨r, hr3, rfl, HX⟩ := hrel
        rename World => w5
        have hrg : (0 : Int) ≤ (r : Int) := by omega
        by_cases hrl : r < 3
        · have hrl' : (r : Int) < 3 := by omega
          have HX3 := Lib.hid (show WH W p b G K (mo : Int) (163000 + 9500 * r + 1000 * 0) (QI 0) w5 from HX.out.mono (by omega) (fun _ _ _ _ _ j hj => absurd hj (by omega)))
          clear HX
          go_wp2_with fail
          go_loopw [18] (fun j wr => ∃ i : Nat, i ≤ 4 ∧ j = .int .i64 (i : Int) ∧ Hid (WH W p b G K (mo : Int) (163000 + 9500 * r + 1000 * i) (QI i) wr)) (fun j _ => 4 - (intOf j).toNat)
          case atStart => exact ⟨0, Nat.zero_le _, rfl, HX3⟩
          case round =>
            clear HX3
            obtain ⟨i, hi4, rfl, HX⟩ := hrel
            rename World => w6
            have hig : (0 : Int) ≤ (i : Int) := by omega
            by_cases hil : i < 4
            · have hil' : (i : Int) < 4 := by omega
              have HX4 := Lib.hid (show WH W p b G K (mo : Int) (163000 + 9500 * r + 1000 * i + 0) (QN i 0) w6 from HX.out.qn)
              clear HX
              go_wp2_with fail
              go_loopw [19] (fun j wr => ∃ n : Nat, n ≤ 1000 ∧ j = .int .i64 (n : Int) ∧ Hid (WH W p b G K (mo : Int) (163000 + 9500 * r + 1000 * i + n) (QN i n) wr)) (fun j _ => 1000 - (intOf j).toNat)
              case atStart => exact ⟨0, Nat.zero_le _, rfl, HX4⟩
              case round =>
                clear HX4
                obtain ⟨n, hn, rfl, HX⟩ := hrel
                rename World => w7
                have hng : (0 : Int) ≤ (n : Int) := by omega
                obtain ⟨va, vf, c1, c2, hc⟩ := HX.out.ptr hil
                clear HX
                rcases hc with ⟨hn1, rfl, rfl⟩ | ⟨hn1, hc⟩
                · have HN := Lib.hid (show WH W p b G K (mo : Int) (163000 + 9500 * r + 1000 * (i + 1)) (QI (i + 1)) w7 from hn1.mono (by omega) (fun th _ _ _ q j hj => by
                    by_cases hji : j = i
                    · rw [hji]; exact q.2
                    · exact q.1.1 j (by omega)))
                  clear hn1
                  by_cases hnl : n < 1000
                  · have hnl' : (n : Int) < 1000 := by omega
                    go_wp2_with fail
                    go_roundw
                    case rel => exact ⟨i + 1, by omega, by go_num, HN⟩
                    case measure => simp [intOf]; omega
                  · have hnl' : (1000 : Int) ≤ (n : Int) := by omega
                    go_wp2_with fail
                    go_roundw
                    case rel => exact ⟨i + 1, by omega, by go_num, HN⟩
                    case measure => simp [intOf]; omega
                · have hn530 : n ≤ 530 := hn1.room fun th K S A q => qn_room q
                  have hnl' : (n : Int) < 1000 := by omega
                  have HN := Lib.hid hn1
                  clear hn1
                  rcases hc with ⟨q, rfl, rfl⟩ | ⟨q, rfl, rfl⟩
                  · go_wp2_with fail
                    ((with_reducible refine (HN.out.act (Q' := QN i (n + 1)) false h1W HMO.out hil (i * 3) (Nat.mul_comm _ _) (by omega) (fun _ _ _ _ _ h h2 => qn_step h h2)).mono ?_); rintro e' w8 ⟨rfl, r8⟩)
                    have HX8 := Lib.hid (show WH W p b G K (mo : Int) (163000 + 9500 * r + 1000 * i + (n + 1)) (QN i (n + 1)) w8 from r8)
                    clear r8 HN c1 c2
                    go_wp2_with fail
                    go_roundw
                    case rel => exact ⟨n + 1, by omega, by go_num, HX8⟩
                    case measure => simp [intOf]; omega
                  · go_wp2_with fail
                    ((with_reducible refine (HN.out.act (Q' := QN i (n + 1)) false h1W HMO.out hil (i * 3) (Nat.mul_comm _ _) (by omega) (fun _ _ _ _ _ h h2 => qn_step h h2)).mono ?_); rintro e' w8 ⟨rfl, r8⟩)
                    have HX8 := Lib.hid (show WH W p b G K (mo : Int) (163000 + 9500 * r + 1000 * i + (n + 1)) (QN i (n + 1)) w8 from r8)
                    clear r8 HN c1 c2
                    go_wp2_with fail
                    go_roundw
                    case rel => exact ⟨n + 1, by omega, by go_num, HX8⟩
                    case measure => simp [intOf]; omega
            · have hil' : (4 : Int) ≤ (i : Int) := by omega
              have HX4 := Lib.hid (show WH W p b G K (mo : Int) (163000 + 9500 * r + 4000 + 0) (QK 0) w6 from (HX.out.mono (c' := 163000 + 9500 * r + 4000) (Q' := QI 4) (by omega) (fun _ _ _ _ q j hj => q j (by omega))).qk)
              clear HX
              go_wp2_with fail
              go_loopw [20] (fun j wr => ∃ n : Nat, n ≤ 5000 ∧ j = .int .i64 (n : Int) ∧ Hid (WH W p b G K (mo : Int) (163000 + 9500 * r + 4000 + n) (QK n) wr)) (fun j _ => 5000 - (intOf j).toNat)
              case atStart => exact ⟨0, Nat.zero_le _, rfl, HX4⟩
              case round =>
                clear HX4
                obtain ⟨n, hn, rfl, HX⟩ := hrel
                rename World => w7
                have hng : (0 : Int) ≤ (n : Int) := by omega
                obtain ⟨va, vf, c1, c2, hc⟩ := HX.out.kptr
                clear HX
                rcases hc with ⟨hn1, rfl, rfl⟩ | ⟨hn1, hc⟩
                · have HN := Lib.hid (show WH W p b G K (mo : Int) (163000 + 9500 * (r + 1)) (QR (r + 1)) w7 from hn1.mono (by omega) (fun th _ _ _ q _ => ⟨q.1.1, q.2⟩))
                  clear hn1
                  by_cases hnl : n < 5000
                  · have hnl' : (n : Int) < 5000 := by omega
                    go_wp2_with fail
                    go_roundw
                    case rel => exact ⟨r + 1, by omega, by go_num, HN⟩
                    case measure => simp [intOf]; omega
                  · have hnl' : (5000 : Int) ≤ (n : Int) := by omega
                    go_wp2_with fail
                    go_roundw
                    case rel => exact ⟨r + 1, by omega, by go_num, HN⟩
                    case measure => simp [intOf]; omega
                · have hn1500 : n ≤ 1500 := hn1.room fun th K S A q => by
                    have := q.1.2.resolve_left q.2
                    omega
                  have hnl' : (n : Int) < 5000 := by omega
                  have HN := Lib.hid hn1
                  clear hn1
                  have hst : ∀ (th : Nat → TA) (o : KX) (S : List Int) (A : MA) (K' : KO) (S' : List Int) (A' : MA), QK n th o.k S A ∧ o.k.ln ≠ 0 → K'.ln = 0 ∨ remK A' S'.length K' + 1 ≤ remK A S.length (begK o true 0 0).k → QK (n + 1) th K' S' A' := fun th o S A K' S' A' q h => by
                    rw [show begK o true 0 0 = o by unfold begK; rw [if_neg q.2]] at h
                    have h5 := q.1.2.resolve_left q.2
                    exact ⟨q.1.1, h.imp id fun h => by omega⟩
                  have HST := Lib.hid hst
                  clear hst
                  rcases hc with ⟨q, rfl, rfl⟩ | ⟨q, rfl, rfl⟩
                  · go_wp2_with fail
                    ((with_reducible refine (HN.out.keeper (Q' := QK (n + 1)) true (sg := 0) (lk := 0) h1W HMO.out.2 ⟨by decide, by decide⟩ ⟨by decide, by decide⟩ (by omega) HST.out).mono ?_); rintro e' w8 ⟨rfl, r8⟩)
                    have HX8 := Lib.hid (show WH W p b G K (mo : Int) (163000 + 9500 * r + 4000 + (n + 1)) (QK (n + 1)) w8 from r8)
                    clear r8 HN c1 c2
                    go_wp2_with fail
                    go_roundw
                    case rel => exact ⟨n + 1, by omega, by go_num, HX8⟩
                    case measure => simp [intOf]; omega
                  · go_wp2_with fail
                    ((with_reducible refine (HN.out.keeper (Q' := QK (n + 1)) true (sg := 0) (lk := 0) h1W HMO.out.2 ⟨by decide, by decide⟩ ⟨by decide, by decide⟩ (by omega) HST.out).mono ?_); rintro e' w8 ⟨rfl, r8⟩)
                    have HX8 := Lib.hid (show WH W p b G K (mo : Int) (163000 + 9500 * r + 4000 + (n + 1)) (QK (n + 1)) w8 from r8)
                    clear r8 HN c1 c2
                    go_wp2_with fail
                    go_roundw
                    case rel => exact ⟨n + 1, by omega, by go_num, HX8⟩
                    case measure => simp [intOf]; omega
        · have hrl' : (3 : Int) ≤ (r : Int) := by omega
          have HX3 := Lib.hid (show WH W p b G K (mo : Int) 191500 QE w5 from HX.out.mono (by omega) (fun _ _ _ _ q => q (by omega)))
          clear HX
          go_wp2_with fail
          go_loopw [21] (fun j wr => ∃ i : Nat, i ≤ 4 ∧ j = .int .i64 (i : Int) ∧ Hid (WH W p b G K (mo : Int) 191500 QE wr)) (fun j _ => 4 - (intOf j).toNat)
          case atStart => exact ⟨0, Nat.zero_le _, rfl, HX3⟩
          case round =>
            clear HX3
            obtain ⟨i, hi4, rfl, HX⟩ := hrel
            rename World => w6
            have hig : (0 : Int) ≤ (i : Int) := by omega
            by_cases hil : i < 4
            · have hil' : (i : Int) < 4 := by omega
              obtain ⟨va, vf, c1, c2, hc⟩ := HX.out.ptr hil
              rcases hc with ⟨_, rfl, rfl⟩ | ⟨hn1, _⟩
              · go_wp2_with fail
                go_roundw
                case rel => exact ⟨i + 1, by omega, by go_num, HX⟩
                case measure => simp [intOf]; omega
              · exact (hn1.room fun th K S A q => q.2 (q.1.1 i hil)).elim
            · have hil' : (4 : Int) ≤ (i : Int) := by omega
              obtain ⟨va, vf, c1, c2, hc⟩ := HX.out.kptr
              rcases hc with ⟨_, rfl, rfl⟩ | ⟨hn1, _⟩
              · go_wp2_with fail
                ((with_reducible refine (HX.out.settled h1W HMO.out.2 (by decide)).mono ?_); rintro e' w7 ⟨rfl, r7⟩)
                have HX7 := Lib.hid r7
                clear r7 HX c1 c2
                go_wp2_with fail
                ((with_reducible refine HX7.out.lives.mono ?_); rintro e' w8 ⟨rfl, hb8⟩)
                go_wp2_with fail
                go_ret
                exact ⟨rfl, hb8⟩
              · exact (hn1.room fun th K S A q => q.2 q.1.2).elim
end Go.Proofs.YtmjcbjcnmgleaaaGreatDoor
