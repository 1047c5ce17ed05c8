/-
  The law RetiresOnce, walked: it returns true and only makes memory of its own; condition: what the package does.
-/
import Derived.Test.YthcclgnadhcndaaRS2
namespace Go.Proofs.Ythcclgnadhcndaa
open Go.RowKit Go.Maps

section
variable {w w' W : World} {q : Nat} {fp : List Nat} {l : List EP} {v : Value}
/-- The list and what it told stand. -/
structure OnS (W : World) (q : Nat) (fp : List Nat) (v : Value) (l : List EP) (w : World) : Prop where
  s : SR W q fp l w
  r : RowR W fp v l w
theorem OnS.below (h : OnS W q fp v l w) (hb : Below w.heap.size w w') : OnS W q fp v l w' := ⟨h.s.below hb, h.r.below hb⟩
theorem InvR.at_ (I : InvR l) {i : Nat} (hi : i < l.length) : okE (l.getD i EP.zero) := I.ok _ (by
  rw [List.getD_eq_getElem?_getD, List.getElem?_eq_getElem hi]
  exact List.getElem_mem hi)
theorem InvR.ne (I : InvR l) {i k : Nat} (hk : k < i) (hi : i < l.length) : (l.getD k EP.zero).ref ≠ (l.getD i EP.zero).ref := fun e => by
  have h := List.pairwise_iff_getElem.1 I.nd k i (by rw [List.length_map]; omega) (by rw [List.length_map]; omega) hk
  rw [List.getElem_map, List.getElem_map] at h
  simp only [List.getD_eq_getElem?_getD, List.getElem?_eq_getElem hi, List.getElem?_eq_getElem (show k < l.length by omega), Option.getD_some] at e
  exact h e
theorem SR.born1 (h : SR W q fp l w) (hl : l.length < 1000) {b N : Int} (hN : ((bornE l b l.length : Nat) : Int) = N) : Calls Try.prog 17 #[.pointer (some ⟨q, 0, none⟩), .int .u64 b] w fun e w' => e = .returned (.int .i64 N) ∧ SR W q fp l w' ∧ Below w.heap.size w w' := by
  subst hN
  exact h.born hl b
theorem born_top (b : Int) (n : Nat) (hk : (l.getD n EP.zero).b = b) : bornE l 18446744073709551615 (n + 1) = bornE l 18446744073709551615 n + (if b < 18446744073709551615 then 1 else 0) := by
  subst hk; rfl
end
theorem once_long (A : Option Addr) (n c : Nat) (a b : Int) (W : World) (hn : ¬ n ≤ 100) : Calls Try.prog 6 #[.slice A n c, .int .u64 a, .int .u64 b] W fun e W' => e = .returned (.bool true) ∧ Below W.heap.size W W' := by
  have h1 : (100 : Int) < (n : Int) := by omega
  clear hn
  go_enter Try.func6, Try.ntmps6
  go_wp2_with fail
  ((with_reducible refine (lives_any W).mono ?_); rintro e w4 ⟨rfl, hb⟩)
  go_wp2_with fail
  go_ret
  exact ⟨rfl, hb⟩
set_option maxRecDepth 100000 in
set_option maxHeartbeats 16000000 in
theorem once_good (A : Option Addr) (n c : Nat) (a b : Int) (es : List EP) (W : World) (hn : n ≤ 100) (hS : SeeE W (.slice A n c) es) (hok : ∀ e ∈ es, EP.ok e) : Calls Try.prog 6 #[.slice A n c, .int .u64 a, .int .u64 b] W fun e W' => e = .returned (.bool true) ∧ Below W.heap.size W W' := by
  have h1 : ¬ (100 : Int) < (n : Int) := by omega
  have HN := Lib.hid hS.len
  have HS := Lib.hid hS
  have HOK := Lib.hid hok
  clear hS hok
  go_enter Try.func6, Try.ntmps6
  go_wp2_with fail
  ((with_reducible refine (SR.new (Below.refl W.heap.size W)).mono ?_); rintro e w1 ⟨q, fp1, rfl, h1s, _⟩)
  have HS1 := Lib.hid h1s
  clear h1s
  go_wp2_with fail
  go_loopw [8, 9] (fun x j wr => ∃ i m : Nat, i ≤ n ∧ j = .int .i64 (i : Int) ∧ x = .int .i64 (m : Int) ∧ m ≤ i ∧ Hid (∃ fp l, SR W q fp l wr ∧ l.length = m ∧ ∀ e ∈ l, EP.ok e)) (fun _ j _ => n - (intOf j).toNat)
  case atStart => exact ⟨0, 0, Nat.zero_le _, rfl, rfl, Nat.le_refl _, Lib.hid ⟨_, _, HS1.out, rfl, by simp⟩⟩
  case round =>
    clear HS1
    obtain ⟨i, m, hi, rfl, rfl, hmi, HR⟩ := hrel
    rename World => wr
    obtain ⟨fp, l, hs, hlm, hlo⟩ := HR.out
    have HSR := Lib.hid hs
    have HLM := Lib.hid hlm
    have HLO := Lib.hid hlo
    clear HR hs hlm hlo
    have hge : (0 : Int) ≤ (i : Int) := by omega
    have hgm : (0 : Int) ≤ (m : Int) := by omega
    by_cases hlt : i < n
    · have hlt' : (i : Int) < (n : Int) := by omega
      have hig : i < es.length := by have := HN.out; omega
      obtain ⟨hc0, hc1, g1, o1, rfl⟩ := HS.out.addr (by omega)
      have hsx := HSR.out.low
      have hsee : SeeE wr (.slice (some ⟨g1, o1, none⟩) n c) es := HS.out.below hsx
      obtain ⟨y0, y1, y2, y3, y4, y5⟩ := hsee.six hig
      have hme : es.getD i EP.zero ∈ es := by
        rw [List.getD_eq_getElem?_getD, List.getElem?_eq_getElem hig]
        exact List.getElem_mem _
      have hoe := HOK.out _ hme
      generalize es.getD i EP.zero = ev at *
      obtain ⟨zs, zg, zk, zb, zc, zd⟩ := ev
      have HOE := Lib.hid hoe
      dsimp only at y0 y1 y2 y3 y4 y5
      clear hsx hsee hme hoe
      go_wp2_with fail
      ((with_reducible refine (HSR.out.add (by have := HLM.out; omega) zs zg zb zc zd zk (ok_rp HOE.out)).mono ?_); rintro e w2 ⟨rfl, fp2, h2, _, _⟩)
      have HS2 := Lib.hid h2
      have HAL := Lib.hid (add_len l ⟨zs, zg, zk, zb, zc, zd⟩)
      have HLO2 := Lib.hid (show ∀ e ∈ addE l ⟨zs, zg, zk, zb, zc, zd⟩, EP.ok e from fun e he => by
        unfold addE at he
        split at he
        · rcases List.mem_append.1 he with h | h
          · exact HLO.out e h
          · rw [List.mem_singleton.1 h]; exact HOE.out
        · exact HLO.out e he)
      clear y0 y1 y2 y3 y4 y5 h2
      generalize addN l ⟨zs, zg, zk, zb, zc, zd⟩ = N at *
      by_cases hN : N = 0
      · have hL := HAL.out
        rw [if_pos hN, HLM.out] at hL
        have HL := Lib.hid hL
        subst hN
        clear HAL hL HSR HLO HOE
        go_wp2_with fail
        go_roundw
        case rel => exact ⟨i + 1, m + 1, by omega, by go_num, by go_num, by omega, Lib.hid ⟨_, _, HS2.out, HL.out, HLO2.out⟩⟩
        case measure => simp [intOf]; omega
      · have hL := HAL.out
        rw [if_neg hN, HLM.out] at hL
        have HL := Lib.hid hL
        have hN0 : (N == 0) = false := beq_eq_false_iff_ne.2 hN
        clear HAL hL HSR HLO HOE
        go_wp2_with fail
        go_roundw
        case rel => exact ⟨i + 1, m, by omega, by go_num, rfl, by omega, Lib.hid ⟨_, _, HS2.out, HL.out, HLO2.out⟩⟩
        case measure => simp [intOf]; omega
    · have hnl : ¬ (i : Int) < (n : Int) := by omega
      have hm9 : m ≤ 100 := by omega
      clear hmi hlt hi
      go_wp2_with fail
      ((with_reducible refine (HSR.out.all (by have := HLM.out; omega)).mono ?_); rintro e w2 ⟨A2, c2, rfl, hr2, hs2, _, _⟩)
      have hO2 := Lib.hid (OnS.mk hs2 hr2)
      rw [HLM.out] at hO2
      have HO2 := Lib.hid hO2.out
      have HI := Lib.hid hs2.p.inv
      clear hr2 hs2 hO2 HSR hge hnl
      rw [HLM.out]
      go_wp2_with fail
      go_loopw [11] (fun j wr => ∃ i : Nat, i ≤ m ∧ j = .int .i64 (i : Int) ∧ Hid (OnS W q fp (.slice A2 m c2) l wr)) (fun j _ => m - (intOf j).toNat)
      case atStart => exact ⟨0, Nat.zero_le _, rfl, HO2⟩
      case round =>
        clear HO2
        obtain ⟨i, hi, rfl, HR⟩ := hrel
        rename World => wr
        have hge : (0 : Int) ≤ (i : Int) := by omega
        by_cases hlt : i < m
        · have hlt' : (i : Int) < (m : Int) := by omega
          have hil : i < l.length := by have := HLM.out; omega
          have hsee := HR.out.r.own.see
          obtain ⟨hc0, hc1, g1, o1, rfl⟩ := hsee.addr (by omega)
          obtain ⟨y0, y1, y2, _, _, _⟩ := hsee.six hil
          obtain ⟨k0, k1, k2⟩ := HI.out.at_ hil
          have HNE := Lib.hid (fun k (hk : k < i) => HI.out.ne hk hil)
          generalize l.getD i EP.zero = ev at *
          obtain ⟨zs, zg, zk, zb, zc, zd⟩ := ev
          dsimp only at y0 y1 y2 k0 k1 k2
          subst k2
          clear hsee
          have hA : Below wr.heap.size wr (wr.alloc (.cells #[.int .i64 zs, .int .u32 zg, .bool false] 31)) := (Below.refl _ _).alloc (Nat.le_refl _) _
          have HX := Lib.hid (HR.out.below hA)
          have HQ := Lib.hid (Bq.new wr [.int .i64 zs, .int .u32 zg, .bool false] 31)
          clear hA
          go_upto_region 17 with (fail)
          clear y0 y1 y2 k0 k1 HR
          revert HX HQ
          generalize (wr.alloc (.cells #[.int .i64 zs, .int .u32 zg, .bool false] 31)) = X
          generalize wr.heap.size = gr
          intro HX HQ
          have HQ := Lib.hid (show Bq gr 31 [.int .i64 zs, .int .u32 zg, .bool false] X from HQ.out)
          go_wp2_with fail
          go_loopw [13] (fun j w2 => ∃ k : Nat, k ≤ i ∧ j = .int .i64 (k : Int) ∧ Hid (Below X.heap.size X w2)) (fun j _ => i - (intOf j).toNat)
          case atStart => exact ⟨0, Nat.zero_le _, rfl, Lib.hid (.refl _ _)⟩
          case round =>
            obtain ⟨k, hk, rfl, HB⟩ := hrel
            rename World => w2
            have hgk : (0 : Int) ≤ (k : Int) := by omega
            by_cases hlk : k < i
            · have hlk' : (k : Int) < (i : Int) := by omega
              have hkm : (k : Int) < (m : Int) := by omega
              have hkl : k < l.length := by omega
              obtain ⟨x0, x1, x2, _, _, _⟩ := (HX.out.below HB.out).r.own.see.six hkl
              have hq := HQ.out.below HB.out
              have y0 := hq.cell 0
              have y1 := hq.cell 1
              have y2 := hq.cell 2
              simp only [List.getElem?_cons_zero, List.getElem?_cons_succ] at y0 y1 y2
              have hne := HNE.out k hlk
              generalize l.getD k EP.zero = ek at *
              obtain ⟨xs, xg, xk, xb, xc, xd⟩ := ek
              dsimp only at x0 x1 x2
              have hqq := eql_ref xs xg zs zg xk false
              have hne' : (⟨xs, xg, xk⟩ : RP) ≠ ⟨zs, zg, false⟩ := hne
              rw [decide_eq_false hne'] at hqq
              clear hq hne hne'
              go_wp2_with fail
              go_quiet (fail)
              have hbn := Lib.hid (HB.out.trans ((below_drewN' (Below.refl _ w2) nq).mono HB.out.size))
              clear hqq x0 x1 x2 y0 y1 y2
              go_wp2_with fail
              go_roundw
              case rel => exact ⟨k + 1, by omega, by go_num, hbn⟩
              case measure => simp [intOf]; omega
            · have hnk : ¬ (k : Int) < (i : Int) := by omega
              have HN2 := Lib.hid (HX.out.below HB.out)
              clear HB HX
              go_wp2_with fail
              go_roundw
              case rel => exact ⟨i + 1, by omega, by go_num, HN2⟩
              case measure => simp [intOf]; omega
        · have hnl2 : ¬ (i : Int) < (m : Int) := by omega
          clear hlt hi hge
          by_cases hab : b < a
          · go_wp2_with fail
            go_loopw [14, 15] (fun x j w3 => ∃ i M : Nat, i ≤ m ∧ j = .int .i64 (i : Int) ∧ x = .int .i64 (M : Int) ∧ M ≤ i ∧ Hid (bornE l 18446744073709551615 i = M ∧ OnS W q fp (.slice A2 m c2) l w3)) (fun _ j _ => m - (intOf j).toNat)
            case atStart => exact ⟨0, 0, Nat.zero_le _, rfl, rfl, Nat.le_refl _, Lib.hid ⟨rfl, HR.out⟩⟩
            case round =>
              clear HR
              obtain ⟨k, M, hk, rfl, rfl, hMk, HR⟩ := hrel
              rename World => w3
              have hgk : (0 : Int) ≤ (k : Int) := by omega
              have hgM : (0 : Int) ≤ (M : Int) := by omega
              have hM9 : M ≤ 100 := by omega
              by_cases hlk : k < m
              · have hlk' : (k : Int) < (m : Int) := by omega
                have hkl : k < l.length := by have := HLM.out; omega
                have hsee := HR.out.2.r.own.see
                obtain ⟨hc0, hc1, g1, o1, rfl⟩ := hsee.addr (by omega)
                obtain ⟨_, _, _, y3, _, _⟩ := hsee.six hkl
                have hu : U64 (l.getD k EP.zero).b := (HLO.out _ (by
                  rw [List.getD_eq_getElem?_getD, List.getElem?_eq_getElem hkl]
                  exact List.getElem_mem _)).2.2.1
                have hT := born_top (l := l) _ k rfl
                rw [HR.out.1] at hT
                generalize (l.getD k EP.zero).b = eb at *
                have hu1 := hu.2
                clear hsee hu
                by_cases hb : eb = 18446744073709551615
                · subst hb
                  rw [if_neg (by decide)] at hT
                  have HT := Lib.hid hT
                  clear hT
                  go_wp2_with fail
                  go_roundw
                  case rel => exact ⟨k + 1, M, by omega, by go_num, rfl, by omega, Lib.hid ⟨HT.out, HR.out.2⟩⟩
                  case measure => simp [intOf]; omega
                · rw [if_pos (by omega)] at hT
                  have HT := Lib.hid hT
                  clear hT
                  go_wp2_with fail
                  go_roundw
                  case rel => exact ⟨k + 1, M + 1, by omega, by go_num, by go_num, by omega, Lib.hid ⟨HT.out, HR.out.2⟩⟩
                  case measure => simp [intOf]; omega
              · have hnk : ¬ (k : Int) < (m : Int) := by omega
                have hkm : k = l.length := by have := HLM.out; omega
                have HBM := Lib.hid (show ((bornE l 18446744073709551615 l.length : Nat) : Int) = (M : Int) by rw [← hkm, HR.out.1])
                have HS3 := Lib.hid HR.out.2.s
                have hlo : b ≤ a := by omega
                have hbb := born_mono l hlo l.length
                have HB0 := Lib.hid (show ((bornE l 0 l.length : Nat) : Int) = 0 by rw [born_zero (fun e he => (HLO.out e he).2.2.1.1) _ (Nat.le_refl _)]; rfl)
                have HL9 := Lib.hid (show l.length < 1000 by have := HLM.out; omega)
                clear hlk hMk hk hkm HR hlo
                obtain ⟨X1, hX1⟩ : ∃ X1, ((bornE l b l.length : Nat) : Int) = X1 := ⟨_, rfl⟩
                obtain ⟨X2, hX2⟩ : ∃ X2, ((bornE l a l.length : Nat) : Int) = X2 := ⟨_, rfl⟩
                have hXX : X1 ≤ X2 := by rw [← hX1, ← hX2]; omega
                have HX1 := Lib.hid hX1
                have HX2 := Lib.hid hX2
                clear hX1 hX2 hbb
                go_wp2_with fail
                ((with_reducible refine (HS3.out.born1 HL9.out HX1.out).mono ?_); rintro e w4 ⟨rfl, h4, _⟩)
                have HS4 := Lib.hid h4
                clear h4 HS3
                go_wp2_with fail
                ((with_reducible refine (HS4.out.born1 HL9.out HX2.out).mono ?_); rintro e w5 ⟨rfl, h5, _⟩)
                have HS5 := Lib.hid h5
                clear h5 HS4
                go_wp2_with fail
                ((with_reducible refine (HS5.out.born1 HL9.out HB0.out).mono ?_); rintro e w6 ⟨rfl, h6, _⟩)
                have HS6 := Lib.hid h6
                clear h6 HS5
                go_wp2_with fail
                ((with_reducible refine (HS6.out.born1 HL9.out HBM.out).mono ?_); rintro e w7 ⟨rfl, h7, _⟩)
                have HL7 := Lib.hid h7.low
                clear h7 HS6
                go_wp2_with fail
                ((with_reducible refine (lives_any w7).mono ?_); rintro e w8 ⟨rfl, hb8⟩)
                have HL8 := Lib.hid (HL7.out.trans (hb8.mono HL7.out.size))
                clear hb8
                go_wp2_with fail
                go_ret
                exact ⟨rfl, HL8.out⟩
          · go_wp2_with fail
            go_loopw [14, 15] (fun x j w3 => ∃ i M : Nat, i ≤ m ∧ j = .int .i64 (i : Int) ∧ x = .int .i64 (M : Int) ∧ M ≤ i ∧ Hid (bornE l 18446744073709551615 i = M ∧ OnS W q fp (.slice A2 m c2) l w3)) (fun _ j _ => m - (intOf j).toNat)
            case atStart => exact ⟨0, 0, Nat.zero_le _, rfl, rfl, Nat.le_refl _, Lib.hid ⟨rfl, HR.out⟩⟩
            case round =>
              clear HR
              obtain ⟨k, M, hk, rfl, rfl, hMk, HR⟩ := hrel
              rename World => w3
              have hgk : (0 : Int) ≤ (k : Int) := by omega
              have hgM : (0 : Int) ≤ (M : Int) := by omega
              have hM9 : M ≤ 100 := by omega
              by_cases hlk : k < m
              · have hlk' : (k : Int) < (m : Int) := by omega
                have hkl : k < l.length := by have := HLM.out; omega
                have hsee := HR.out.2.r.own.see
                obtain ⟨hc0, hc1, g1, o1, rfl⟩ := hsee.addr (by omega)
                obtain ⟨_, _, _, y3, _, _⟩ := hsee.six hkl
                have hu : U64 (l.getD k EP.zero).b := (HLO.out _ (by
                  rw [List.getD_eq_getElem?_getD, List.getElem?_eq_getElem hkl]
                  exact List.getElem_mem _)).2.2.1
                have hT := born_top (l := l) _ k rfl
                rw [HR.out.1] at hT
                generalize (l.getD k EP.zero).b = eb at *
                have hu1 := hu.2
                clear hsee hu
                by_cases hb : eb = 18446744073709551615
                · subst hb
                  rw [if_neg (by decide)] at hT
                  have HT := Lib.hid hT
                  clear hT
                  go_wp2_with fail
                  go_roundw
                  case rel => exact ⟨k + 1, M, by omega, by go_num, rfl, by omega, Lib.hid ⟨HT.out, HR.out.2⟩⟩
                  case measure => simp [intOf]; omega
                · rw [if_pos (by omega)] at hT
                  have HT := Lib.hid hT
                  clear hT
                  go_wp2_with fail
                  go_roundw
                  case rel => exact ⟨k + 1, M + 1, by omega, by go_num, by go_num, by omega, Lib.hid ⟨HT.out, HR.out.2⟩⟩
                  case measure => simp [intOf]; omega
              · have hnk : ¬ (k : Int) < (m : Int) := by omega
                have hkm : k = l.length := by have := HLM.out; omega
                have HBM := Lib.hid (show ((bornE l 18446744073709551615 l.length : Nat) : Int) = (M : Int) by rw [← hkm, HR.out.1])
                have HS3 := Lib.hid HR.out.2.s
                have hlo : a ≤ b := by omega
                have hbb := born_mono l hlo l.length
                have HB0 := Lib.hid (show ((bornE l 0 l.length : Nat) : Int) = 0 by rw [born_zero (fun e he => (HLO.out e he).2.2.1.1) _ (Nat.le_refl _)]; rfl)
                have HL9 := Lib.hid (show l.length < 1000 by have := HLM.out; omega)
                clear hlk hMk hk hkm HR hlo
                obtain ⟨X1, hX1⟩ : ∃ X1, ((bornE l a l.length : Nat) : Int) = X1 := ⟨_, rfl⟩
                obtain ⟨X2, hX2⟩ : ∃ X2, ((bornE l b l.length : Nat) : Int) = X2 := ⟨_, rfl⟩
                have hXX : X1 ≤ X2 := by rw [← hX1, ← hX2]; omega
                have HX1 := Lib.hid hX1
                have HX2 := Lib.hid hX2
                clear hX1 hX2 hbb
                go_wp2_with fail
                ((with_reducible refine (HS3.out.born1 HL9.out HX1.out).mono ?_); rintro e w4 ⟨rfl, h4, _⟩)
                have HS4 := Lib.hid h4
                clear h4 HS3
                go_wp2_with fail
                ((with_reducible refine (HS4.out.born1 HL9.out HX2.out).mono ?_); rintro e w5 ⟨rfl, h5, _⟩)
                have HS5 := Lib.hid h5
                clear h5 HS4
                go_wp2_with fail
                ((with_reducible refine (HS5.out.born1 HL9.out HB0.out).mono ?_); rintro e w6 ⟨rfl, h6, _⟩)
                have HS6 := Lib.hid h6
                clear h6 HS5
                go_wp2_with fail
                ((with_reducible refine (HS6.out.born1 HL9.out HBM.out).mono ?_); rintro e w7 ⟨rfl, h7, _⟩)
                have HL7 := Lib.hid h7.low
                clear h7 HS6
                go_wp2_with fail
                ((with_reducible refine (lives_any w7).mono ?_); rintro e w8 ⟨rfl, hb8⟩)
                have HL8 := Lib.hid (HL7.out.trans (hb8.mono HL7.out.size))
                clear hb8
                go_wp2_with fail
                go_ret
                exact ⟨rfl, HL8.out⟩
end Go.Proofs.Ythcclgnadhcndaa
