/-
  The law TablesFull, walked: it returns true and only makes memory of its own; condition: the tables as laid, numbers of their kinds, the row lies as it says.
-/
import Derived.Test.YtodfjnpnfalioaaDoorTC6
import Derived.Test.YtodfjnpnfalioaaDoorFRow
namespace Go.Proofs.YtodfjnpnfalioaaDoor
open Go.RowKit Go.Maps

theorem wrapi9 {x : Int} (h0 : 0 ≤ x) (h1 : x < 1000) : IntKind.i64.wrap x = x := by simp [IntKind.wrap, IntKind.bits, IntKind.signed]; omega
set_option maxRecDepth 100000 in
set_option maxHeartbeats 16000000 in
theorem full_shut (a b was : Int) (r n n1 n4 sh : Nat) (A : Option Addr) (cap : Nat) (l : List Int) (W : World) (hL : Lay W) (hM : LayM W) (ha : U8 a) (hb : U8 b) (hs : Row W A (l.map fun z => .int .u8 z)) (hu : ∀ z ∈ l, U8 z) (hwas : U64 was) (hl : l.length ≤ 20)
    (hr : r < 4) (hn : n = r + 1) (hn1 : n1 = n + 1) (hn4 : n4 = n * 4) (_hsh : sh ≤ n) (e0 : Int.tmod a 4 = (r : Int)) (e1 : Int.tmod b (n1 : Int) = (sh : Int)) (hsn : sh < n) :
    Calls Tryd.prog 4 #[.agg #[.int .u8 a, .int .u8 b], .slice A l.length cap, .int .u64 was] W fun e W' => e = .returned (.bool true) ∧ Below W.heap.size W W' := by
  obtain ⟨rm, hrm⟩ : ∃ rm : Nat, rm = n4 - 4 := ⟨_, rfl⟩
  have w0 : IntKind.i64.wrap a = a := by simp [IntKind.wrap, IntKind.bits]; obtain ⟨x, y⟩ := ha; omega
  have w1' : IntKind.i64.wrap b = b := by simp [IntKind.wrap, IntKind.bits]; obtain ⟨x, y⟩ := hb; omega
  have w2' : IntKind.i64.wrap (r : Int) = (r : Int) := wrapi9 (by omega) (by omega)
  have w3 : IntKind.i64.wrap ((r : Int) + 1) = (n : Int) := by simp [IntKind.wrap, IntKind.bits, IntKind.signed]; omega
  have w4 : IntKind.i64.wrap ((n : Int) + 1) = (n1 : Int) := by simp [IntKind.wrap, IntKind.bits, IntKind.signed]; omega
  have w5 : IntKind.i64.wrap ((n : Int) * 4) = (n4 : Int) := by simp [IntKind.wrap, IntKind.bits, IntKind.signed]; omega
  have w7 : IntKind.i64.wrap (sh : Int) = (sh : Int) := wrapi9 (by omega) (by omega)
  have hn10 : ¬ (n1 : Int) = 0 := by omega
  have hn40 : ¬ (n4 : Int) = 0 := by omega
  have h4 : ¬ (4 : Int) = 0 := by decide
  have hll : ¬ (20 : Int) < (l.length : Int) := by omega
  have hll2 : (l.length : Int) ≤ 20 := by omega
  have hsl : (sh : Int) < (n : Int) := by omega
  have w6 : IntKind.i64.wrap ((n4 : Int) - 4) = (rm : Int) := by simp [IntKind.wrap, IntKind.bits, IntKind.signed]; omega
  have HRM := Lib.hid hrm
  have HN := Lib.hid (And.intro hn (And.intro hn1 hn4))
  have HL := Lib.hid hL
  have HM := Lib.hid hM
  have HS := Lib.hid hs
  have HU := Lib.hid hu
  have HSN := Lib.hid hsn
  have hrmn : rm ≤ 16 := by omega
  have hn416 : n4 ≤ 16 := by omega
  have hnn : 1 ≤ n ∧ n ≤ 4 := by omega
  have hn4e : (n4 : Int) = 4 * (n : Int) := by omega
  have HN4 := Lib.hid hn4e
  have hmk := mk16
  have HW1 := Lib.hid (W1_of hL hM)
  have hRM : rooms (n : Int) (sh : Int) = (rm : Int) := by unfold rooms; rw [if_pos (show (sh : Int) < (n : Int) by omega)]; omega
  have HROOM := Lib.hid hRM
  clear hL hM hs hu hn hn1 hn4 hrm hsn ha hb hRM hn4e
  go_enter Tryd.func4, Tryd.ntmps4
  go_wp2_with fail
  ((with_reducible refine (table_me (n : Int) (by omega) (by omega) (HL.out.below ((Below.refl _ _).alloc (Nat.le_refl _) _)) (HM.out.below ((Below.refl _ _).alloc (Nat.le_refl _) _))).mono ?_); rintro e w1 ⟨p, b', rfl, h1⟩)
  have hM1 : Me W p b' (V0t (n : Int)) 1 w1 := ⟨h1.mem, ((Below.refl _ W).alloc (Nat.le_refl _) _).trans (h1.low.mono (by simp)), Nat.le_trans (by simp) h1.b0, Nat.le_trans (by simp) h1.p0⟩
  have HM1 := Lib.hid hM1
  have HBX := Lib.hid (h1.low)
  have c1 : w1.cell? ⟨W.heap.size, 1, none⟩ = some (.int .u8 b) := ((Bq.new W [.int .u8 a, .int .u8 b] 49).below h1.low).cell 1
  clear h1 hM1 HBX
  go_wp2_with fail
  have HJ0 := show U64 0 from ⟨by decide, by decide⟩
  ((with_reducible refine (block_any 0 true _ HM1.out.lay.1 HJ0).mono ?_); rintro e wz ⟨rfl, z, rfl⟩)
  have HM2 := Lib.hid (HM1.out.below (below_drewN' (Below.refl _ w1) z))
  clear HM1
  go_wp2_with fail
  ((with_reducible refine (HM2.out.store (by decide) (adK_at (i := (sh : Int)) ⟨by omega, by omega⟩) (blockW_u64 0 true)).mono ?_); rintro e w2 ⟨rfl, h2⟩)
  have HM3 := Lib.hid (h2.mono (k' := 500) (by decide))
  clear h2 HM2 HJ0
  go_wp2_with fail
  obtain ⟨T0, t0⟩ := Tab.shut (n := (n : Int)) (sh := (sh : Int)) ⟨by omega, by omega⟩ ⟨by omega, by omega⟩
  have HT0 := Lib.hid (And.intro T0 t0)
  have HFS := Lib.hid (HM3.out.row HW1.out)
  clear T0 t0 HM3 c1
  go_wp2_with fail
  revert HFS
  generalize w2.alloc (.cells z16 4) = wf
  generalize w2.heap.size = g
  intro HFS
  go_loopw [12] (fun j wr => ∃ i : Nat, i ≤ rm ∧ j = .int .i64 (i : Int) ∧ Hid (∃ V S, Tab (n : Int) (sh : Int) V ∧ tot (n : Int) (sh : Int) V = (i : Int) ∧ (∀ t : Nat, t < 16 → (S t = true ↔ occ V t = 1)) ∧ Fs W p b' g V S (1000 + 1000 * i) wr)) (fun j _ => rm + 1 - (intOf j).toNat)
  case atStart => exact ⟨0, Nat.zero_le _, rfl, Lib.hid ⟨_, _, HT0.out.1, HT0.out.2, fun t ht => ⟨(fun h => by cases h), fun h => absurd h (by rw [occ_0.2 (by have := V0t_T (n := (n : Int)) (t := (t : Int)) (f := 0) ⟨by omega, by omega⟩ (by decide); rw [setV_other (Ne.symm (neKT (i := (sh : Int)) ⟨by omega, by have := HSN.out; omega⟩ ⟨by omega, by omega⟩ (by decide)))]; exact this)]; decide)⟩, HFS.out.mono (by simp)⟩⟩
  case round =>
    clear HFS HT0
    obtain ⟨i, hi, rfl, hrr⟩ := hrel
    obtain ⟨V, S, T, ht, hS, F⟩ := hrr.out
    have hge : (0 : Int) ≤ (i : Int) := by omega
    have HT := Lib.hid T
    have HTT := Lib.hid ht
    have HSE := Lib.hid hS
    have HF := Lib.hid F
    clear hrr T ht hS F
    by_cases hlt : i < rm
    · have hlt' : (i : Int) < (rm : Int) := by omega
      have hfree := tot_free HT.out.n14 HT.out.s (by rw [HTT.out, HROOM.out]; exact hlt')
      have hiw : (Lit.int .i64 (i : Int)).wf = true := small64 (by omega) (by omega)
      have hcall := HF.out.over (by omega) HT.out hfree hiw hge hwas
      clear hfree hiw
      go_wp2_with fail
      ((with_reducible refine hcall.mono ?_); rintro e w3 ⟨t, nk, V', rfl, x1, x2, x3, T', x4, x5, x6, x7, F'⟩)
      have ht16 : t < 16 := by omega
      have hd : Int.tdiv (t : Int) 4 = ((t / 4 : Nat) : Int) := by rw [Int.tdiv_eq_ediv_of_nonneg (by omega)]; omega
      obtain ⟨d, hd'⟩ : ∃ d : Nat, d = t / 4 := ⟨_, rfl⟩
      rw [← hd'] at hd
      have hdb : ((d : Int) == (sh : Int)) = false := beq_eq_false_iff_ne.2 (by have := x2; omega)
      have hdw : IntKind.i64.wrap (d : Int) = (d : Int) := wrapi9 (by omega) (by omega)
      have htl : ¬ ((t : Int) < 0) := by omega
      have htd : decide ((t : Int) < 0) = false := decide_eq_false htl
      have htn : (t : Int) < (n4 : Int) := by rw [HN4.out]; exact x1
      have htn2 : ¬ (n4 : Int) ≤ (t : Int) := by omega
      have htd2 : decide ((n4 : Int) ≤ (t : Int)) = false := decide_eq_false htn2
      have htd3 : decide (n4 ≤ t) = false := decide_eq_false (by omega)
      have hsf : S t = false := by
        have := HSE.out t ht16
        cases h : S t
        · rfl
        · exact absurd (this.1 h) (by rw [x3]; decide)
      obtain ⟨s1, s2⟩ := F'.seen t ht16
      rw [hsf] at s1
      have ht17 : (t : Int) < 16 := by omega
      have hge2 : (0 : Int) ≤ (t : Int) := by omega
      have HF' := Lib.hid F'
      have HT' := Lib.hid T'
      have HX7 := Lib.hid x7
      have hS' : ∀ u : Nat, u < 16 → ((if u = t then true else S u) = true ↔ occ V' u = 1) := fun u hu => by
        by_cases e : u = t
        · rw [if_pos e, e]; exact ⟨fun _ => x4, fun _ => rfl⟩
        · rw [if_neg e, x5 u (by omega) (by omega) (by omega)]; exact HSE.out u hu
      have HS' := Lib.hid hS'
      have HX6 := Lib.hid (show tot (n : Int) (sh : Int) V' = ((i + 1 : Nat) : Int) by rw [x6, HTT.out]; push_cast; rfl)
      clear hcall F' T' x1 x2 x3 x4 x5 x6 x7 hS' hsf hd' HSE HT HTT HF
      go_wp2_with fail
      have HF2 := Lib.hid (HF'.out.mark t ht16)
      clear s1 s2 HF'
      revert HF2
      generalize w3.setCell ⟨g, t, none⟩ (.bool true) = w4
      intro HF2
      go_loopw [16] (fun j wr => ∃ f : Nat, 1 ≤ f ∧ f ≤ 10 ∧ j = .int .i64 (f : Int) ∧ Hid (Fs W p b' g V' (fun j => if j = t then true else S j) (1000 + 1000 * i + 300 + f) wr)) (fun j _ => 11 - (intOf j).toNat)
      case atStart => exact ⟨1, by decide, by decide, rfl, Lib.hid (HF2.out.mono (by omega))⟩
      case round =>
        clear HF2
        obtain ⟨f, hf1, hf10, rfl, hr2⟩ := hrel
        have hgf : (0 : Int) ≤ (f : Int) := by omega
        by_cases hlf : f < 10
        · have hlf' : (f : Int) < 10 := by omega
          have hz := HX7.out (f : Int) (by omega) hlf'
          go_wp2_with fail
          ((with_reducible refine (ofT _ _ _).mono ?_); rintro e w5 ⟨rfl, hb5⟩)
          have H5 := Lib.hid (hr2.out.below hb5)
          clear hb5 hr2
          go_wp2_with fail
          ((with_reducible refine (H5.out.load (by omega) (adT_at (t := (t : Int)) (f := (f : Int)) ⟨by omega, by omega⟩ ⟨by omega, hlf'⟩) hz).mono ?_); rintro e w6 ⟨rfl, h6⟩)
          have H6 := Lib.hid h6
          clear h6 H5 hz
          go_wp2_with fail
          go_roundw
          case rel => exact ⟨f + 1, by omega, by omega, by go_num, Lib.hid (H6.out.mono (by push_cast; omega))⟩
          case measure => simp [intOf]; omega
        · have hlf' : (10 : Int) ≤ (f : Int) := by omega
          have HF3 := Lib.hid (show ∃ V S, Tab (n : Int) (sh : Int) V ∧ tot (n : Int) (sh : Int) V = ((i + 1 : Nat) : Int) ∧ (∀ t : Nat, t < 16 → (S t = true ↔ occ V t = 1)) ∧ Fs W p b' g V S (1000 + 1000 * ((i + 1 : Nat) : Int)) _ from ⟨_, _, HT'.out, HX6.out, HS'.out, hr2.out.mono (by push_cast; omega)⟩)
          clear hr2
          go_wp2_with fail
          go_roundw
          case rel => exact ⟨i + 1, by omega, by go_num, HF3⟩
          case measure => simp [intOf]; omega
    · have hlt' : (rm : Int) ≤ (i : Int) := by omega
      have hfull := full_of HT.out (by rw [HTT.out, HROOM.out]; exact hlt')
      have hcall := HF.out.full (ow := 99) (by omega) (by decide) (by decide) HT.out.n14 HT.out.N (hfull.none HT.out)
      have HFU := Lib.hid hfull
      clear hfull HTT hlt
      go_wp2_with fail
      ((with_reducible refine hcall.mono ?_); rintro e w3 ⟨rfl, F'⟩)
      have hSo : ∀ t : Nat, t < 16 → (S t = true ↔ (t : Int) < 4 * (n : Int) ∧ (t : Int) / 4 ≠ (sh : Int)) := fun t ht => (HSE.out t ht).trans (HFU.out.occ HT.out ⟨by omega, by omega⟩)
      have HSO := Lib.hid hSo
      have HF' := Lib.hid (F'.mono (k' := 30000) (by omega))
      clear F' hcall HF HSE hSo
      go_wp2_with fail
      go_loopw [20] (fun j wr => ∃ i : Nat, i ≤ l.length ∧ j = .int .i64 (i : Int) ∧ Hid (∃ V, Tab (n : Int) (sh : Int) V ∧ Full (n : Int) (sh : Int) V ∧ Fs W p b' g V S (30000 + 1000 * i) wr)) (fun j _ => l.length + 1 - (intOf j).toNat)
      case atStart => exact ⟨0, Nat.zero_le _, rfl, Lib.hid ⟨V, HT.out, HFU.out, HF'.out.mono (by simp)⟩⟩
      case round =>
        clear HF' HFU HT
        obtain ⟨y, hy, rfl, hrr⟩ := hrel
        obtain ⟨V1, T1, U1, F1⟩ := hrr.out
        have hgy : (0 : Int) ≤ (y : Int) := by omega
        have HT1 := Lib.hid T1
        have HU1 := Lib.hid U1
        have HF1 := Lib.hid F1
        clear hrr T1 U1 F1
        by_cases hly : y < l.length
        · have hly' : (y : Int) < (l.length : Int) := by omega
          obtain ⟨gl, off, rfl, hc⟩ := (HS.out.below HF1.out.low).at_ (k := y) (by rw [List.length_map]; exact hly)
          have hyc := hc y (.int .u8 (l.getD y 0)) (by simp [List.getD_eq_getElem?_getD, List.getElem?_eq_getElem hly])
          have hx := HU.out (l.getD y 0) (by rw [List.getD_eq_getElem?_getD, List.getElem?_eq_getElem hly]; simp)
          clear hc
          generalize l.getD y 0 = x at hyc hx
          obtain ⟨hx0, hx1⟩ := hx
          have hxw : IntKind.i64.wrap x = x := by simp [IntKind.wrap, IntKind.bits]; omega
          obtain ⟨q, hq, hqx⟩ : ∃ q : Nat, q < n4 ∧ Int.tmod x (n4 : Int) = (q : Int) := by
            have k1 := Int.emod_nonneg x (b := (n4 : Int)) (by omega)
            have k2 := Int.emod_lt_of_pos x (b := (n4 : Int)) (by omega)
            refine ⟨(x % (n4 : Int)).toNat, by omega, ?_⟩
            rw [Int.tmod_eq_emod_of_nonneg hx0]
            omega
          have hqw : IntKind.i64.wrap (q : Int) = (q : Int) := wrapi9 (by omega) (by omega)
          have hq16 : q < 16 := by omega
          have hq17 : (q : Int) < 16 := by omega
          have hgq : (0 : Int) ≤ (q : Int) := by omega
          have hq4 : (q : Int) < 4 * (n : Int) := by rw [← HN4.out]; omega
          have HQ4 := Lib.hid hq4
          by_cases hin : (q : Int) / 4 = (sh : Int)
          · have hsf : S q = false := by
              have := HSO.out q hq16
              cases h : S q
              · rfl
              · exact absurd hin (this.1 h).2
            have hcall := HF1.out.nobody (t := (q : Int)) (by omega) ⟨by omega, by omega⟩ (HT1.out.out _ (by omega) (by omega) (.inr hin))
            clear hin hq4
            go_wp2_with fail
            ((with_reducible refine hcall.mono ?_); rintro e w4 ⟨rfl, F2⟩)
            obtain ⟨s1, s2⟩ := F2.seen q hq16
            rw [hsf] at s1
            have HF2 := Lib.hid F2
            clear F2 hcall hsf HF1 hyc
            go_wp2_with fail
            go_roundw
            case rel => exact ⟨y + 1, by omega, by go_num, Lib.hid ⟨V1, HT1.out, HU1.out, HF2.out.mono (by push_cast; omega)⟩⟩
            case measure => simp [intOf]; omega
          · have hsf : S q = true := (HSO.out q hq16).2 ⟨hq4, hin⟩
            obtain ⟨a1, a2, a3, a4, a5, a6, a7, a8⟩ := again (ow := 6) HT1.out HU1.out ⟨by omega, hq4⟩ hin
            have hcall := HF1.out.gone (t := (q : Int)) (by omega) ⟨by omega, by omega⟩ a1 a2
            have HA := Lib.hid (And.intro a3 (And.intro a4 (And.intro a5 (And.intro a6 a7))))
            have HA8 := Lib.hid a8
            have HIN := Lib.hid hin
            clear a1 a2 a3 a4 a5 a6 a7 a8 hq4 hin
            go_wp2_with fail
            ((with_reducible refine hcall.mono ?_); rintro e w4 ⟨rfl, F2⟩)
            obtain ⟨s1, s2⟩ := F2.seen q hq16
            rw [hsf] at s1
            have HF2 := Lib.hid F2
            obtain ⟨a3, a4, a5, a6, a7⟩ := HA.out
            have htk := F2.took (ow := 5) (i0 := (q : Int) / 4) (k0 := (q : Int) % 4) (by omega) (by decide) (by decide) a3.n14 a3.N ⟨by omega, by have := HQ4.out; omega⟩ ⟨by omega, by omega⟩ a4 a5 a6 a7
            rw [show 4 * ((q : Int) / 4) + (q : Int) % 4 = (q : Int) by omega] at htk
            generalize 13 + (q : Int) / 4 + (q : Int) % 4 = nk at htk
            have HTK := Lib.hid htk
            clear F2 hcall hsf HF1 hyc a3 a4 a5 a6 a7 htk HA
            go_wp2_with fail
            ((with_reducible refine HTK.out.mono ?_); rintro e w5 ⟨rfl, V3, K3, F3⟩)
            obtain ⟨T3, U3⟩ := HA8.out V3 (by decide) K3
            have HT3 := Lib.hid T3
            have HU3 := Lib.hid U3
            have hfc := F3.full (ow := 5) (by omega) (by decide) (by decide) T3.n14 T3.N (U3.none T3)
            have HFC := Lib.hid hfc
            clear T3 U3 hfc K3 F3 s1 s2 HTK HA8 HF2
            go_wp2_with fail
            ((with_reducible refine HFC.out.mono ?_); rintro e w6 ⟨rfl, F4⟩)
            have HF4 := Lib.hid F4
            clear F4 HFC
            go_wp2_with fail
            go_roundw
            case rel => exact ⟨y + 1, by omega, by go_num, Lib.hid ⟨V3, HT3.out, HU3.out, HF4.out.mono (by push_cast; omega)⟩⟩
            case measure => simp [intOf]; omega
        · have hly' : (l.length : Int) ≤ (y : Int) := by omega
          go_wp2_with fail
          ((with_reducible refine (lives10_any HF1.out.lay.1 HF1.out.lay.2).mono ?_); rintro e w4 ⟨rfl, hb4⟩)
          go_wp2_with fail
          go_ret
          exact ⟨rfl, HF1.out.low.trans (hb4.mono HF1.out.low.size)⟩
set_option maxRecDepth 100000 in
set_option maxHeartbeats 16000000 in
theorem full_open (a b was : Int) (r n n1 n4 : Nat) (A : Option Addr) (cap : Nat) (l : List Int) (W : World) (hL : Lay W) (hM : LayM W) (ha : U8 a) (hb : U8 b) (hs : Row W A (l.map fun z => .int .u8 z)) (hu : ∀ z ∈ l, U8 z) (hwas : U64 was) (hl : l.length ≤ 20)
    (hr : r < 4) (hn : n = r + 1) (hn1 : n1 = n + 1) (hn4 : n4 = n * 4) (e0 : Int.tmod a 4 = (r : Int)) (e1 : Int.tmod b (n1 : Int) = (n : Int)) :
    Calls Tryd.prog 4 #[.agg #[.int .u8 a, .int .u8 b], .slice A l.length cap, .int .u64 was] W fun e W' => e = .returned (.bool true) ∧ Below W.heap.size W W' := by
  have w0 : IntKind.i64.wrap a = a := by simp [IntKind.wrap, IntKind.bits]; obtain ⟨x, y⟩ := ha; omega
  have w1' : IntKind.i64.wrap b = b := by simp [IntKind.wrap, IntKind.bits]; obtain ⟨x, y⟩ := hb; omega
  have w2' : IntKind.i64.wrap (r : Int) = (r : Int) := wrapi9 (by omega) (by omega)
  have w3 : IntKind.i64.wrap ((r : Int) + 1) = (n : Int) := by simp [IntKind.wrap, IntKind.bits, IntKind.signed]; omega
  have w4 : IntKind.i64.wrap ((n : Int) + 1) = (n1 : Int) := by simp [IntKind.wrap, IntKind.bits, IntKind.signed]; omega
  have w5 : IntKind.i64.wrap ((n : Int) * 4) = (n4 : Int) := by simp [IntKind.wrap, IntKind.bits, IntKind.signed]; omega
  have w7 : IntKind.i64.wrap (n : Int) = (n : Int) := wrapi9 (by omega) (by omega)
  have hn10 : ¬ (n1 : Int) = 0 := by omega
  have hn40 : ¬ (n4 : Int) = 0 := by omega
  have h4 : ¬ (4 : Int) = 0 := by decide
  have hll : ¬ (20 : Int) < (l.length : Int) := by omega
  have hll2 : (l.length : Int) ≤ 20 := by omega
  have hsl : ¬ (n : Int) < (n : Int) := by omega
  have hsl2 : (n : Int) ≤ (n : Int) := by omega
  have HN := Lib.hid (And.intro hn (And.intro hn1 hn4))
  have HL := Lib.hid hL
  have HM := Lib.hid hM
  have HS := Lib.hid hs
  have HU := Lib.hid hu
  have hn416 : n4 ≤ 16 := by omega
  have hnn : 1 ≤ n ∧ n ≤ 4 := by omega
  have hn4e : (n4 : Int) = 4 * (n : Int) := by omega
  have HN4 := Lib.hid hn4e
  have hmk := mk16
  have HW1 := Lib.hid (W1_of hL hM)
  have hRM : rooms (n : Int) (n : Int) = (n4 : Int) := by unfold rooms; rw [if_neg (show ¬ (n : Int) < (n : Int) by omega)]; omega
  have HROOM := Lib.hid hRM
  clear hL hM hs hu hn hn1 hn4 ha hb hRM hn4e
  go_enter Tryd.func4, Tryd.ntmps4
  go_wp2_with fail
  ((with_reducible refine (table_me (n : Int) (by omega) (by omega) (HL.out.below ((Below.refl _ _).alloc (Nat.le_refl _) _)) (HM.out.below ((Below.refl _ _).alloc (Nat.le_refl _) _))).mono ?_); rintro e w1 ⟨p, b', rfl, h1⟩)
  have hM1 : Me W p b' (V0t (n : Int)) 1 w1 := ⟨h1.mem, ((Below.refl _ W).alloc (Nat.le_refl _) _).trans (h1.low.mono (by simp)), Nat.le_trans (by simp) h1.b0, Nat.le_trans (by simp) h1.p0⟩
  have HM1 := Lib.hid hM1
  have HBX := Lib.hid (h1.low)
  have c1 : w1.cell? ⟨W.heap.size, 1, none⟩ = some (.int .u8 b) := ((Bq.new W [.int .u8 a, .int .u8 b] 49).below h1.low).cell 1
  clear h1 hM1 HBX
  go_wp2_with fail
  have HM3 := Lib.hid (HM1.out.mono (k' := 500) (by decide))
  clear HM1
  obtain ⟨T0, t0⟩ := Tab.new (n := (n : Int)) ⟨by omega, by omega⟩
  have HT0 := Lib.hid (And.intro T0 t0)
  have HFS := Lib.hid (HM3.out.row HW1.out)
  clear T0 t0 HM3 c1
  go_wp2_with fail
  revert HFS
  generalize w1.alloc (.cells z16 4) = wf
  generalize w1.heap.size = g
  intro HFS
  go_loopw [12] (fun j wr => ∃ i : Nat, i ≤ n4 ∧ j = .int .i64 (i : Int) ∧ Hid (∃ V S, Tab (n : Int) (n : Int) V ∧ tot (n : Int) (n : Int) V = (i : Int) ∧ (∀ t : Nat, t < 16 → (S t = true ↔ occ V t = 1)) ∧ Fs W p b' g V S (1000 + 1000 * i) wr)) (fun j _ => n4 + 1 - (intOf j).toNat)
  case atStart => exact ⟨0, Nat.zero_le _, rfl, Lib.hid ⟨_, _, HT0.out.1, HT0.out.2, fun t ht => ⟨(fun h => by cases h), fun h => absurd h (by rw [occ_0.2 (V0t_T ⟨by omega, by omega⟩ (by decide))]; decide)⟩, HFS.out.mono (by simp)⟩⟩
  case round =>
    clear HFS HT0
    obtain ⟨i, hi, rfl, hrr⟩ := hrel
    obtain ⟨V, S, T, ht, hS, F⟩ := hrr.out
    have hge : (0 : Int) ≤ (i : Int) := by omega
    have HT := Lib.hid T
    have HTT := Lib.hid ht
    have HSE := Lib.hid hS
    have HF := Lib.hid F
    clear hrr T ht hS F
    by_cases hlt : i < n4
    · have hlt' : (i : Int) < (n4 : Int) := by omega
      have hfree := tot_free HT.out.n14 HT.out.s (by rw [HTT.out, HROOM.out]; exact hlt')
      have hiw : (Lit.int .i64 (i : Int)).wf = true := small64 (by omega) (by omega)
      have hcall := HF.out.over (by omega) HT.out hfree hiw hge hwas
      clear hfree hiw
      go_wp2_with fail
      ((with_reducible refine hcall.mono ?_); rintro e w3 ⟨t, nk, V', rfl, x1, x2, x3, T', x4, x5, x6, x7, F'⟩)
      have ht16 : t < 16 := by omega
      have hd : Int.tdiv (t : Int) 4 = ((t / 4 : Nat) : Int) := by rw [Int.tdiv_eq_ediv_of_nonneg (by omega)]; omega
      obtain ⟨d, hd'⟩ : ∃ d : Nat, d = t / 4 := ⟨_, rfl⟩
      rw [← hd'] at hd
      have hdb : ((d : Int) == (n : Int)) = false := beq_eq_false_iff_ne.2 (by omega)
      have hdw : IntKind.i64.wrap (d : Int) = (d : Int) := wrapi9 (by omega) (by omega)
      have htl : ¬ ((t : Int) < 0) := by omega
      have htd : decide ((t : Int) < 0) = false := decide_eq_false htl
      have htn : (t : Int) < (n4 : Int) := by rw [HN4.out]; exact x1
      have htn2 : ¬ (n4 : Int) ≤ (t : Int) := by omega
      have htd2 : decide ((n4 : Int) ≤ (t : Int)) = false := decide_eq_false htn2
      have htd3 : decide (n4 ≤ t) = false := decide_eq_false (by omega)
      have hsf : S t = false := by
        have := HSE.out t ht16
        cases h : S t
        · rfl
        · exact absurd (this.1 h) (by rw [x3]; decide)
      obtain ⟨s1, s2⟩ := F'.seen t ht16
      rw [hsf] at s1
      have ht17 : (t : Int) < 16 := by omega
      have hge2 : (0 : Int) ≤ (t : Int) := by omega
      have HF' := Lib.hid F'
      have HT' := Lib.hid T'
      have HX7 := Lib.hid x7
      have hS' : ∀ u : Nat, u < 16 → ((if u = t then true else S u) = true ↔ occ V' u = 1) := fun u hu => by
        by_cases e : u = t
        · rw [if_pos e, e]; exact ⟨fun _ => x4, fun _ => rfl⟩
        · rw [if_neg e, x5 u (by omega) (by omega) (by omega)]; exact HSE.out u hu
      have HS' := Lib.hid hS'
      have HX6 := Lib.hid (show tot (n : Int) (n : Int) V' = ((i + 1 : Nat) : Int) by rw [x6, HTT.out]; push_cast; rfl)
      clear hcall F' T' x1 x2 x3 x4 x5 x6 x7 hS' hsf hd' HSE HT HTT HF
      go_wp2_with fail
      have HF2 := Lib.hid (HF'.out.mark t ht16)
      clear s1 s2 HF'
      revert HF2
      generalize w3.setCell ⟨g, t, none⟩ (.bool true) = w4
      intro HF2
      go_loopw [16] (fun j wr => ∃ f : Nat, 1 ≤ f ∧ f ≤ 10 ∧ j = .int .i64 (f : Int) ∧ Hid (Fs W p b' g V' (fun j => if j = t then true else S j) (1000 + 1000 * i + 300 + f) wr)) (fun j _ => 11 - (intOf j).toNat)
      case atStart => exact ⟨1, by decide, by decide, rfl, Lib.hid (HF2.out.mono (by omega))⟩
      case round =>
        clear HF2
        obtain ⟨f, hf1, hf10, rfl, hr2⟩ := hrel
        have hgf : (0 : Int) ≤ (f : Int) := by omega
        by_cases hlf : f < 10
        · have hlf' : (f : Int) < 10 := by omega
          have hz := HX7.out (f : Int) (by omega) hlf'
          go_wp2_with fail
          ((with_reducible refine (ofT _ _ _).mono ?_); rintro e w5 ⟨rfl, hb5⟩)
          have H5 := Lib.hid (hr2.out.below hb5)
          clear hb5 hr2
          go_wp2_with fail
          ((with_reducible refine (H5.out.load (by omega) (adT_at (t := (t : Int)) (f := (f : Int)) ⟨by omega, by omega⟩ ⟨by omega, hlf'⟩) hz).mono ?_); rintro e w6 ⟨rfl, h6⟩)
          have H6 := Lib.hid h6
          clear h6 H5 hz
          go_wp2_with fail
          go_roundw
          case rel => exact ⟨f + 1, by omega, by omega, by go_num, Lib.hid (H6.out.mono (by push_cast; omega))⟩
          case measure => simp [intOf]; omega
        · have hlf' : (10 : Int) ≤ (f : Int) := by omega
          have HF3 := Lib.hid (show ∃ V S, Tab (n : Int) (n : Int) V ∧ tot (n : Int) (n : Int) V = ((i + 1 : Nat) : Int) ∧ (∀ t : Nat, t < 16 → (S t = true ↔ occ V t = 1)) ∧ Fs W p b' g V S (1000 + 1000 * ((i + 1 : Nat) : Int)) _ from ⟨_, _, HT'.out, HX6.out, HS'.out, hr2.out.mono (by push_cast; omega)⟩)
          clear hr2
          go_wp2_with fail
          go_roundw
          case rel => exact ⟨i + 1, by omega, by go_num, HF3⟩
          case measure => simp [intOf]; omega
    · have hlt' : (n4 : Int) ≤ (i : Int) := by omega
      have hfull := full_of HT.out (by rw [HTT.out, HROOM.out]; exact hlt')
      have hcall := HF.out.full (ow := 99) (by omega) (by decide) (by decide) HT.out.n14 HT.out.N (hfull.none HT.out)
      have HFU := Lib.hid hfull
      clear hfull HTT hlt
      go_wp2_with fail
      ((with_reducible refine hcall.mono ?_); rintro e w3 ⟨rfl, F'⟩)
      have hSo : ∀ t : Nat, t < 16 → (S t = true ↔ (t : Int) < 4 * (n : Int) ∧ (t : Int) / 4 ≠ (n : Int)) := fun t ht => (HSE.out t ht).trans (HFU.out.occ HT.out ⟨by omega, by omega⟩)
      have HSO := Lib.hid hSo
      have HF' := Lib.hid (F'.mono (k' := 30000) (by omega))
      clear F' hcall HF HSE hSo
      go_wp2_with fail
      go_loopw [20] (fun j wr => ∃ i : Nat, i ≤ l.length ∧ j = .int .i64 (i : Int) ∧ Hid (∃ V, Tab (n : Int) (n : Int) V ∧ Full (n : Int) (n : Int) V ∧ Fs W p b' g V S (30000 + 1000 * i) wr)) (fun j _ => l.length + 1 - (intOf j).toNat)
      case atStart => exact ⟨0, Nat.zero_le _, rfl, Lib.hid ⟨V, HT.out, HFU.out, HF'.out.mono (by simp)⟩⟩
      case round =>
        clear HF' HFU HT
        obtain ⟨y, hy, rfl, hrr⟩ := hrel
        obtain ⟨V1, T1, U1, F1⟩ := hrr.out
        have hgy : (0 : Int) ≤ (y : Int) := by omega
        have HT1 := Lib.hid T1
        have HU1 := Lib.hid U1
        have HF1 := Lib.hid F1
        clear hrr T1 U1 F1
        by_cases hly : y < l.length
        · have hly' : (y : Int) < (l.length : Int) := by omega
          obtain ⟨gl, off, rfl, hc⟩ := (HS.out.below HF1.out.low).at_ (k := y) (by rw [List.length_map]; exact hly)
          have hyc := hc y (.int .u8 (l.getD y 0)) (by simp [List.getD_eq_getElem?_getD, List.getElem?_eq_getElem hly])
          have hx := HU.out (l.getD y 0) (by rw [List.getD_eq_getElem?_getD, List.getElem?_eq_getElem hly]; simp)
          clear hc
          generalize l.getD y 0 = x at hyc hx
          obtain ⟨hx0, hx1⟩ := hx
          have hxw : IntKind.i64.wrap x = x := by simp [IntKind.wrap, IntKind.bits]; omega
          obtain ⟨q, hq, hqx⟩ : ∃ q : Nat, q < n4 ∧ Int.tmod x (n4 : Int) = (q : Int) := by
            have k1 := Int.emod_nonneg x (b := (n4 : Int)) (by omega)
            have k2 := Int.emod_lt_of_pos x (b := (n4 : Int)) (by omega)
            refine ⟨(x % (n4 : Int)).toNat, by omega, ?_⟩
            rw [Int.tmod_eq_emod_of_nonneg hx0]
            omega
          have hqw : IntKind.i64.wrap (q : Int) = (q : Int) := wrapi9 (by omega) (by omega)
          have hq16 : q < 16 := by omega
          have hq17 : (q : Int) < 16 := by omega
          have hgq : (0 : Int) ≤ (q : Int) := by omega
          have hq4 : (q : Int) < 4 * (n : Int) := by rw [← HN4.out]; omega
          have HQ4 := Lib.hid hq4
          by_cases hin : (q : Int) / 4 = (n : Int)
          · have hsf : S q = false := by
              have := HSO.out q hq16
              cases h : S q
              · rfl
              · exact absurd hin (this.1 h).2
            have hcall := HF1.out.nobody (t := (q : Int)) (by omega) ⟨by omega, by omega⟩ (HT1.out.out _ (by omega) (by omega) (.inr hin))
            clear hin hq4
            go_wp2_with fail
            ((with_reducible refine hcall.mono ?_); rintro e w4 ⟨rfl, F2⟩)
            obtain ⟨s1, s2⟩ := F2.seen q hq16
            rw [hsf] at s1
            have HF2 := Lib.hid F2
            clear F2 hcall hsf HF1 hyc
            go_wp2_with fail
            go_roundw
            case rel => exact ⟨y + 1, by omega, by go_num, Lib.hid ⟨V1, HT1.out, HU1.out, HF2.out.mono (by push_cast; omega)⟩⟩
            case measure => simp [intOf]; omega
          · have hsf : S q = true := (HSO.out q hq16).2 ⟨hq4, hin⟩
            obtain ⟨a1, a2, a3, a4, a5, a6, a7, a8⟩ := again (ow := 6) HT1.out HU1.out ⟨by omega, hq4⟩ hin
            have hcall := HF1.out.gone (t := (q : Int)) (by omega) ⟨by omega, by omega⟩ a1 a2
            have HA := Lib.hid (And.intro a3 (And.intro a4 (And.intro a5 (And.intro a6 a7))))
            have HA8 := Lib.hid a8
            have HIN := Lib.hid hin
            clear a1 a2 a3 a4 a5 a6 a7 a8 hq4 hin
            go_wp2_with fail
            ((with_reducible refine hcall.mono ?_); rintro e w4 ⟨rfl, F2⟩)
            obtain ⟨s1, s2⟩ := F2.seen q hq16
            rw [hsf] at s1
            have HF2 := Lib.hid F2
            obtain ⟨a3, a4, a5, a6, a7⟩ := HA.out
            have htk := F2.took (ow := 5) (i0 := (q : Int) / 4) (k0 := (q : Int) % 4) (by omega) (by decide) (by decide) a3.n14 a3.N ⟨by omega, by have := HQ4.out; omega⟩ ⟨by omega, by omega⟩ a4 a5 a6 a7
            rw [show 4 * ((q : Int) / 4) + (q : Int) % 4 = (q : Int) by omega] at htk
            generalize 13 + (q : Int) / 4 + (q : Int) % 4 = nk at htk
            have HTK := Lib.hid htk
            clear F2 hcall hsf HF1 hyc a3 a4 a5 a6 a7 htk HA
            go_wp2_with fail
            ((with_reducible refine HTK.out.mono ?_); rintro e w5 ⟨rfl, V3, K3, F3⟩)
            obtain ⟨T3, U3⟩ := HA8.out V3 (by decide) K3
            have HT3 := Lib.hid T3
            have HU3 := Lib.hid U3
            have hfc := F3.full (ow := 5) (by omega) (by decide) (by decide) T3.n14 T3.N (U3.none T3)
            have HFC := Lib.hid hfc
            clear T3 U3 hfc K3 F3 s1 s2 HTK HA8 HF2
            go_wp2_with fail
            ((with_reducible refine HFC.out.mono ?_); rintro e w6 ⟨rfl, F4⟩)
            have HF4 := Lib.hid F4
            clear F4 HFC
            go_wp2_with fail
            go_roundw
            case rel => exact ⟨y + 1, by omega, by go_num, Lib.hid ⟨V3, HT3.out, HU3.out, HF4.out.mono (by push_cast; omega)⟩⟩
            case measure => simp [intOf]; omega
        · have hly' : (l.length : Int) ≤ (y : Int) := by omega
          go_wp2_with fail
          ((with_reducible refine (lives10_any HF1.out.lay.1 HF1.out.lay.2).mono ?_); rintro e w4 ⟨rfl, hb4⟩)
          go_wp2_with fail
          go_ret
          exact ⟨rfl, HF1.out.low.trans (hb4.mono HF1.out.low.size)⟩
set_option maxRecDepth 100000 in
set_option maxHeartbeats 4000000 in
theorem full_long (a b was : Int) (A : Option Addr) (cap m : Nat) (W : World) (hL : Lay W) (hM : LayM W) (ha : U8 a) (hl : 20 < m) :
    Calls Tryd.prog 4 #[.agg #[.int .u8 a, .int .u8 b], .slice A m cap, .int .u64 was] W fun e W' => e = .returned (.bool true) ∧ Below W.heap.size W W' := by
  have HL := Lib.hid hL
  have HM := Lib.hid hM
  have hll : (20 : Int) < (m : Int) := by omega
  have w0 : IntKind.i64.wrap a = a := by simp [IntKind.wrap, IntKind.bits]; obtain ⟨x, y⟩ := ha; omega
  clear hL hM ha
  go_enter Tryd.func4, Tryd.ntmps4
  go_wp2_with fail
  ((with_reducible refine (lives10_any (HL.out.below ((Below.refl _ _).alloc (Nat.le_refl _) _)) (HM.out.below ((Below.refl _ _).alloc (Nat.le_refl _) _))).mono ?_); rintro e w4 ⟨rfl, hb4⟩)
  go_wp2_with fail
  go_ret
  exact ⟨rfl, ((Below.refl _ W).alloc (Nat.le_refl _) _).trans (hb4.mono (by simp))⟩
theorem full_all (a b : Int) (A : Option Addr) (cap : Nat) (l : List Int) (was : Int) (W : World) (hL : Lay W) (hM : LayM W) (ha : U8 a) (hb : U8 b) (hs : Row W A (l.map fun z => .int .u8 z)) (hu : ∀ z ∈ l, U8 z) (hwas : U64 was) :
    Calls Tryd.prog 4 #[.agg #[.int .u8 a, .int .u8 b], .slice A l.length cap, .int .u64 was] W fun e W' => e = .returned (.bool true) ∧ Below W.heap.size W W' := by
  by_cases hl : l.length ≤ 20
  · obtain ⟨r, n, n1, n4, sh, hr, hn, hn1, hn4, hsh, e0, e1⟩ := full_nums ha hb
    by_cases hsn : sh < n
    · exact full_shut a b was r n n1 n4 sh A cap l W hL hM ha hb hs hu hwas hl hr hn hn1 hn4 hsh e0 e1 hsn
    · have hx : sh = n := by omega
      rw [hx] at e1
      exact full_open a b was r n n1 n4 A cap l W hL hM ha hb hs hu hwas hl hr hn hn1 hn4 e0 e1
  · exact full_long a b was A cap l.length W hL hM ha (by omega)
end Go.Proofs.YtodfjnpnfalioaaDoor
