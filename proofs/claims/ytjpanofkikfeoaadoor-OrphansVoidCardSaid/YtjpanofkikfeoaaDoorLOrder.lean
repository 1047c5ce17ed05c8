/-
  The law OrphansOrder, walked: it returns true and only makes memory of its own; condition: the tables as laid, numbers of their kinds.
-/
import Derived.Test.YtjpanofkikfeoaaDoorOL1
namespace Go.Proofs.YtjpanofkikfeoaaDoor
open Go.RowKit Go.Maps

theorem mod5 {z : Int} (h : U8 z) : ∃ c : Nat, c < 5 ∧ Int.tmod z 5 = (c : Int) := by
  obtain ⟨a, b⟩ := h
  refine ⟨(z % 5).toNat, by omega, ?_⟩
  rw [Int.tmod_eq_emod_of_nonneg a]; omega
theorem ownsRow_pos {w : World} {v' : Value} {base : Nat} {t : TypeId} {size k : Nat} {xs : List Value} (h : w.ownsRow base t size v' k xs) (hk : 0 < k) : ∃ g c, v' = .slice (some ⟨g, 0, none⟩) k c := by
  rcases h.2 with ⟨rfl, rfl⟩ | ⟨g, cap, cur, rfl, _⟩
  · omega
  · exact ⟨_, _, rfl⟩
theorem OwnE.reads {w : World} {B g n c : Nat} {xs : List EP} (h : OwnE w B (.slice (some ⟨g, 0, none⟩) n c) xs) : ∀ j u, (flatE xs)[j]? = some u → w.cell? ((⟨g, 0, none⟩ : Addr).add j) = some u := by
  rcases h.see with ⟨e, _⟩ | ⟨g', off, c', e, _, _, hr⟩
  · cases e
  · injection e with e1 e2 e3
    injection e1 with e1
    injection e1 with e4 e5 e6
    subst e4 e5
    intro j u hj
    have h9 := hr j u hj
    rw [Nat.zero_add] at h9
    by_cases h0 : j = 0
    · subst h0
      simpa [Addr.add] using h9
    · simpa [Addr.add, h0] using h9
theorem row_reads (w : World) (e : EP) : ∀ j u, e.cells[j]? = some u → (w.alloc (.cells e.cells.toArray 48)).cell? ((⟨w.heap.size, 0, none⟩ : Addr).add j) = some u := by
  intro j u hj
  have h9 := (Bq.new w e.cells 48).cell j
  by_cases h0 : j = 0
  · subst h0
    simpa [Addr.add] using h9.trans hj
  · simpa [Addr.add, h0] using h9.trans hj
theorem u8_rng {s : Int} (h : U8 s) : 0 ≤ s ∧ s < 256 := by obtain ⟨a, b⟩ := h; omega
theorem OwnE.own_n {w : World} {B n : Nat} {v : Value} {N : List Int} (h : OwnE w B v (N.map entS)) (hn : N.length = n) : w.ownsRow B 48 6 v n (flatE (N.map entS)) := by
  subst hn
  unfold OwnE at h
  rw [List.length_map] at h
  exact h
theorem cells_oneE (e : EP) : ∀ u ∈ e.cells, u.oneCell' = true := fun u hu => flatE_one (xs := [e]) u (by simpa [flatE] using hu)
set_option maxRecDepth 100000 in
set_option maxHeartbeats 16000000 in
theorem order_law (A : Option Addr) (cap : Nat) (l : List Int) (z : Int) (W : World) (hL : Lay W) (hM : LayM W) (hz : U8 z) (hs : Row W A (l.map fun x => .int .u8 x)) (hu : ∀ x ∈ l, U8 x) :
    Calls Tryd.prog 5 #[.slice A l.length cap, .int .u8 z] W fun e W' => e = .returned (.bool true) ∧ Below W.heap.size W W' := by
  obtain ⟨i0, hi0, hz0, hz1, hz2⟩ := info_parts infoE
  obtain ⟨c5, hc5, e5⟩ := mod5 hz
  have hzw : IntKind.i64.wrap z = z := by simp [IntKind.wrap, IntKind.bits, IntKind.signed]; obtain ⟨a, b⟩ := hz; omega
  have h1W : 1 < W.heap.size := by have := hM.1; have := hL.1; omega
  have HS := Lib.hid hs
  have HU := Lib.hid hu
  have HLM := Lib.hid (⟨hL, hM⟩ : _ ∧ _)
  clear hL hM hs hu hz
  go_enter Tryd.func5, Tryd.ntmps5
  by_cases hlen : 30 < l.length
  · have hlen' : (30 : Int) < (l.length : Int) := by omega
    go_wp2_with fail
    ((with_reducible refine (lives12_any HLM.out.1 HLM.out.2).mono ?_); rintro e w4 ⟨rfl, hb⟩)
    go_wp2_with fail
    go_ret
    exact ⟨rfl, hb⟩
  have hlen' : (l.length : Int) ≤ 30 := by omega
  go_wp2_with fail
  ((with_reducible refine (new_st HLM.out.1 HLM.out.2).mono ?_); rintro e w1 ⟨p, b, rfl, h1, hp1, hb1⟩)
  have HO := Lib.hid (show OrS l 0 [] [] (.slice none 0 0) (.slice none 0 0) W p b w1 from ⟨⟨⟨_, h1.mono (by decide), fun s hs => (by simp at hs), by show wSlot 0 < 0; decide⟩, fun _ h => (by simp at h), by simp⟩, OwnE.nil _ _, OwnE.nil _ _, (fun g hg => by cases hg), by simp, by simp, by simp, fun _ => rfl⟩)
  clear h1 hp1 hb1 HLM
  go_wp2_with fail
  go_loopw [6, 7, 8] (fun vw vn j wr => ∃ i n m : Nat, ∃ An Aw : Option Addr, ∃ cn cw : Nat, i ≤ l.length ∧ vn = .slice An n cn ∧ vw = .slice Aw m cw ∧ j = .int .i64 (i : Int) ∧ Hid (∃ N S, N.length = n ∧ S.length = m ∧ OrS l i N S (.slice An n cn) (.slice Aw m cw) W p b wr)) (fun _ _ j _ => l.length + 1 - (intOf j).toNat)
  case atStart => exact ⟨0, 0, 0, none, none, 0, 0, Nat.zero_le _, rfl, rfl, rfl, Lib.hid ⟨_, _, rfl, rfl, HO.out⟩⟩
  case round =>
    clear HO
    obtain ⟨i, n, m, An, Aw, cn, cw, hi, rfl, rfl, rfl, HR⟩ := hrel
    rename World => w2
    have hge : (0 : Int) ≤ (i : Int) := by omega
    by_cases hlt : i < l.length
    · obtain ⟨g, off, rfl, hc⟩ := HS.out.at_ (k := i) (by rw [List.length_map]; exact hlt)
      have hcell : ∀ (w : World) (k : Nat), Below W.heap.size W w → k < l.length → w.cell? ⟨g, off + k, none⟩ = some (.int .u8 (l.getD k 0)) := fun w k hb hk => low_cellO hb (hc _ _ (by simp [List.getD_eq_getElem?_getD, List.getElem?_eq_getElem hk]))
      have HCELL := Lib.hid hcell
      have hx8 := HU.out (l.getD i 0) (by rw [List.getD_eq_getElem?_getD, List.getElem?_eq_getElem hlt]; simp)
      obtain ⟨s, hs⟩ : ∃ s, l.getD i 0 = s := ⟨_, rfl⟩
      rw [hs] at hx8
      have HSI := Lib.hid hs
      have hlt' : (i : Int) < (l.length : Int) := by omega
      have hi40 : i < 40 := by omega
      obtain ⟨N, S, hN, hS, H⟩ := HR.out
      have HN := Lib.hid hN
      have HSm := Lib.hid hS
      have HO := Lib.hid H
      clear hc hcell HR H hs hN hS
      go_wp2_with fail
      go_loopw [9, 10] (fun hv j wr => ∃ k : Nat, k ≤ i ∧ hv = .bool (decide (s ∈ l.take k)) ∧ j = .int .i64 (k : Int) ∧ Hid (OrS l i N S (.slice An n cn) (.slice Aw m cw) W p b wr)) (fun _ j _ => i + 1 - (intOf j).toNat)
      case atStart => exact ⟨0, Nat.zero_le _, rfl, rfl, HO⟩
      case round =>
        clear HO
        obtain ⟨k, hk, rfl, rfl, HO⟩ := hrel
        rename World => w3
        have hge' : (0 : Int) ≤ (k : Int) := by omega
        by_cases hki : k < i
        · have hki' : (k : Int) < (i : Int) := by omega
          have hkl : (k : Int) < (l.length : Int) := by omega
          have hy := HCELL.out _ _ HO.out.low (show k < l.length by omega)
          have hy2 := HCELL.out _ _ HO.out.low hlt
          rw [HSI.out] at hy2
          have HTK := Lib.hid (take_more (l := l) (i := k) (by omega) rfl s)
          obtain ⟨t, ht⟩ : ∃ t, l.getD k 0 = t := ⟨_, rfl⟩
          rw [ht] at hy HTK
          clear ht
          by_cases hin : s ∈ l.take k
          · have hd : decide (s ∈ l.take k) = true := decide_eq_true hin
            have hd2 := decide_eq_true (HTK.out.2 (.inl hin))
            have HD2 := Lib.hid hd2
            rw [hd]
            clear hin hd2 hd
            go_wp2_with fail
            go_quiet (fail)
            have HO2 := Lib.hid (HO.out.below (below_drewN' (Below.refl _ w3) nq))
            clear hy hy2
            go_wp2_with fail
            go_roundw
            case rel => exact ⟨k + 1, by omega, by rw [HD2.out], by go_num, HO2⟩
            case measure => simp [intOf]; omega
          · have hd : decide (s ∈ l.take k) = false := decide_eq_false hin
            rw [hd]
            by_cases hst : t = s
            · have hd2 := decide_eq_true (HTK.out.2 (.inr hst.symm))
              have HD2 := Lib.hid hd2
              clear hin hd2 hd
              go_wp2_with fail
              go_quiet (fail)
              have HO2 := Lib.hid (HO.out.below (below_drewN' (Below.refl _ w3) nq))
              clear hy hy2
              go_wp2_with fail
              go_roundw
              case rel => exact ⟨k + 1, by omega, by rw [HD2.out], by go_num, HO2⟩
              case measure => simp [intOf]; omega
            · have hd2 : decide (s ∈ l.take (k + 1)) = false := decide_eq_false fun h => (HTK.out.1 h).elim hin fun e => hst e.symm
              have HD2 := Lib.hid hd2
              clear hin hd2 hd
              go_wp2_with fail
              go_quiet (fail)
              have HO2 := Lib.hid (HO.out.below (below_drewN' (Below.refl _ w3) nq))
              clear hy hy2
              go_wp2_with fail
              go_roundw
              case rel => exact ⟨k + 1, by omega, by rw [HD2.out, beq_eq_false_iff_ne.2 hst], by go_num, HO2⟩
              case measure => simp [intOf]; omega
        · obtain rfl : k = i := by omega
          have hki' : ¬ (k : Int) < (k : Int) := by omega
          have hy := HCELL.out _ _ HO.out.low hlt
          rw [HSI.out] at hy
          by_cases hin : s ∈ l.take k
          · have hd : decide (s ∈ l.take k) = true := decide_eq_true hin
            have HO2 := Lib.hid (HO.out.skip hlt HSI.out hin)
            rw [hd]
            clear hin hd hy HO
            go_wp2_with fail
            go_roundw
            case rel => exact ⟨k + 1, n, m, An, Aw, cn, cw, by omega, rfl, rfl, by go_num, Lib.hid ⟨N, S, HN.out, HSm.out, HO2.out⟩⟩
            case measure => simp [intOf]; omega
          have hd : decide (s ∈ l.take k) = false := decide_eq_false hin
          have HIN := Lib.hid hin
          rw [hd]
          clear hin hd
          have hsw : IntKind.i64.wrap s = s := by simp [IntKind.wrap, IntKind.bits, IntKind.signed]; obtain ⟨a, b⟩ := hx8; omega
          have hx9 := u8_rng hx8
          go_wp2_with fail
          ((with_reducible refine (HO.out.of hlt hi40 HSI.out HIN.out hx9).mono ?_); rintro e w4 ⟨rfl, h4⟩)
          have HU4 := Lib.hid h4
          have HU5 := Lib.hid (h4.below ((Below.refl _ w4).alloc (Nat.le_refl _) (.cells #[.int .i64 s, .int .u32 (s + 3), .bool false, .int .u64 (s + 1), .int .u64 (s + 5), .int .u64 (s + 9)] 48)))
          have HC5 := Lib.hid (row_reads w4 (entS s))
          have hnl : n ≤ 100 := by have := h4.len; have := HN.out; simp only [List.length_append] at *; omega
          have HON := Lib.hid (HU5.out.on.own_n HN.out)
          clear h4 hy HO HU4
          have HN1 := Lib.hid (show (N ++ [s]).length = n + 1 by rw [List.length_append, HN.out]; rfl)
          by_cases hgt : (c5 : Int) < (n : Int) + 1
          · go_wp2_with (at_builtin; go_loud (refine wpList_append_own_at _ rfl (.tmp 46) (.tmp 54) 43 rfl W.heap.size 48 i0 _ 6 40 Tryd.underlying43 hi0 hz0 hz1 hz2 rfl (by decide) _ n (flatE (N.map entS)) rfl HON.out ⟨w4.heap.size, 0, none⟩ 1 1 (entS s).cells rfl rfl HC5.out (cells_oneE _) (by unfold maxLen; omega) (by omega) HU5.out.st.low.size ?_; intro v' w6 h6 g6 _ b6; have HT6 := Lib.hid (HU5.out.push h1W (HN.out.symm ▸ h6) g6 b6); obtain ⟨g6', c6, rfl⟩ := ownsRow_pos h6 (by omega); clear h6 g6 b6 HU5 HC5 HON))
            have hml : m ≤ 100 := by have := HT6.out.len; have := HSm.out; simp only [List.length_append] at *; omega
            ((with_reducible refine (HT6.out.give hi40 HN1.out (by omega) (by push_cast; rfl)).mono ?_); rintro e w7 ⟨rfl, h7⟩)
            have HL7 := Lib.hid (show (flatE ((N ++ [s]).map entS)).length = (n + 1) * 6 by rw [flatE_len, List.length_map, HN1.out])
            have HNE := Lib.hid (show N ++ [s] ≠ [] by simp)
            by_cases hS0 : S = []
            · subst hS0
              have HG7 := Lib.hid h7
              obtain ⟨e1, e2, e3⟩ : Aw = none ∧ m = 0 ∧ cw = 0 := by simpa using h7.nil rfl
              subst e1 e2 e3
              clear h7 HT6
              go_wp2_with (at_builtin; first | (refine wpList_append_own_at _ rfl (.const (.slice none 0 0)) (.tmp 69) 43 rfl W.heap.size 48 i0 _ 6 40 Tryd.underlying43 hi0 hz0 hz1 hz2 rfl (by decide) (.slice none 0 0) 0 [] rfl (World.ownsRow_nil _ _ _ _) ⟨g6', 0, none⟩ (n + 1) c6 (flatE ((N ++ [s]).map entS)) rfl HL7.out HG7.out.on.reads flatE_one (by unfold maxLen; omega) (by omega) HG7.out.st.low.size ?_; intro v' w8 h8 g8 _ b8; rw [Nat.zero_add, List.nil_append] at h8; have HH8 := Lib.hid (HG7.out.copy h1W HN1.out h8 g8); obtain ⟨g8', c8, rfl⟩ := ownsRow_pos h8 (by omega); clear h8 g8 b8 HG7) | (refine wpList_append_own_none rfl (.tmp 70) (.tmp 71) 43 rfl W.heap.size 48 i0 6 Tryd.underlying43 hi0 _ (n + 1) (flatE ((N ++ [s]).map entS)) rfl (HH8.out.ot.own_n HN1.out) rfl ?_))
              go_roundw
              case rel => exact ⟨k + 1, 0, n + 1, none, _, 0, _, by omega, rfl, rfl, by go_num, Lib.hid ⟨[], N ++ [s], rfl, HN1.out, HH8.out.join0 HNE.out⟩⟩
              case measure => simp [intOf]; omega
            · have HG7 := Lib.hid h7
              have hm0 : 0 < m := by
                have := HSm.out
                rcases Nat.eq_zero_or_pos m with h0 | h0
                · rw [h0] at this
                  exact absurd (List.length_eq_zero_iff.1 this) hS0
                · exact h0
              obtain ⟨gw, cw', ew⟩ := ownsRow_pos (h7.ow.own_n HSm.out) hm0
              injection ew with e1 e2 e3
              subst e1 e3
              have HLS := Lib.hid (show (flatE (S.map entS)).length = m * 6 by rw [flatE_len, List.length_map, HSm.out])
              clear h7 HT6 hS0
              go_wp2_with (at_builtin; first | (refine wpList_append_own_at _ rfl (.const (.slice none 0 0)) (.tmp 69) 43 rfl W.heap.size 48 i0 _ 6 40 Tryd.underlying43 hi0 hz0 hz1 hz2 rfl (by decide) (.slice none 0 0) 0 [] rfl (World.ownsRow_nil _ _ _ _) ⟨g6', 0, none⟩ (n + 1) c6 (flatE ((N ++ [s]).map entS)) rfl HL7.out HG7.out.on.reads flatE_one (by unfold maxLen; omega) (by omega) HG7.out.st.low.size ?_; intro v' w8 h8 g8 _ b8; rw [Nat.zero_add, List.nil_append] at h8; have HH8 := Lib.hid (HG7.out.copy h1W HN1.out h8 g8); obtain ⟨g8', c8, rfl⟩ := ownsRow_pos h8 (by omega); clear h8 g8 b8 HG7) | (refine wpList_append_own_at _ rfl (.tmp 70) (.tmp 71) 43 rfl W.heap.size 48 i0 _ 6 40 Tryd.underlying43 hi0 hz0 hz1 hz2 rfl (by decide) _ (n + 1) (flatE ((N ++ [s]).map entS)) rfl (HH8.out.ot.own_n HN1.out) ⟨gw, 0, none⟩ m cw (flatE (S.map entS)) rfl HLS.out HH8.out.ow.reads flatE_one (by unfold maxLen; omega) (by omega) HH8.out.st.low.size ?_; intro v' w9 h9 g9 _ b9; have HO9 := Lib.hid (HH8.out.join h1W HNE.out HN1.out HSm.out h9 g9); obtain ⟨g9', c9, rfl⟩ := ownsRow_pos h9 (by omega); clear h9 g9 b9 HH8))
              go_roundw
              case rel => exact ⟨k + 1, 0, n + 1 + m, none, _, 0, _, by omega, rfl, rfl, by go_num, Lib.hid ⟨[], (N ++ [s]) ++ S, rfl, by rw [List.length_append, HN1.out, HSm.out], HO9.out⟩⟩
              case measure => simp [intOf]; omega
          · go_wp2_with (at_builtin; go_loud (refine wpList_append_own_at _ rfl (.tmp 46) (.tmp 54) 43 rfl W.heap.size 48 i0 _ 6 40 Tryd.underlying43 hi0 hz0 hz1 hz2 rfl (by decide) _ n (flatE (N.map entS)) rfl HON.out ⟨w4.heap.size, 0, none⟩ 1 1 (entS s).cells rfl rfl HC5.out (cells_oneE _) (by unfold maxLen; omega) (by omega) HU5.out.st.low.size ?_; intro v' w6 h6 g6 _ b6; have HT6 := Lib.hid (HU5.out.push h1W (HN.out.symm ▸ h6) g6 b6); obtain ⟨g6', c6, rfl⟩ := ownsRow_pos h6 (by omega); clear h6 g6 b6 HU5 HC5 HON))
            go_roundw
            case rel => exact ⟨k + 1, n + 1, m, _, _, _, _, by omega, rfl, rfl, by go_num, Lib.hid ⟨N ++ [s], S, HN1.out, HSm.out, HT6.out.wait⟩⟩
            case measure => simp [intOf]; omega
    · have hlt' : ¬ (i : Int) < (l.length : Int) := by omega
      obtain ⟨N, S, hN, hS, H⟩ := HR.out
      have hm30 : m ≤ 30 := by have := H.len; simp only [List.length_append] at this; omega
      have hi30 : i ≤ 40 := by omega
      have hmi : (m : Int) ≤ 30 := by omega
      have hm00 : (0 : Int) ≤ (m : Int) := by omega
      clear HR hi hlen hlen'
      cases S with
      | nil =>
        obtain rfl : m = 0 := hS.symm
        have HO := Lib.hid H
        clear H
        go_wp2_with fail
        ((with_reducible refine (lives12_any HO.out.st.lay.1 HO.out.st.lay.2).mono ?_); rintro e w4 ⟨rfl, hb⟩)
        go_wp2_with fail
        go_ret
        exact ⟨rfl, HO.out.low.trans (hb.mono HO.out.low.size)⟩
      | cons x r =>
        have h0m : 0 < m := by rw [← hS]; simp
        have hne : ¬ (m : Int) = 0 := by omega
        have HSm := Lib.hid hS
        have HO := Lib.hid H
        clear H hS hN
        go_wp2_with fail
        ((with_reducible refine (HO.out.take hi30 HSm.out rfl).mono ?_); rintro e w3 ⟨A3, c3, rfl, h3⟩)
        have HF3 := Lib.hid h3
        clear h3 HO
        go_wp2_with fail
        ((with_reducible refine (HF3.out.none' (by decide)).mono ?_); rintro e w4 ⟨A4, c4, rfl, h4⟩)
        have HF4 := Lib.hid h4
        clear h4 HF3
        go_wp2_with fail
        ((with_reducible refine (HF4.out.same (by omega)).mono ?_); rintro e w5 ⟨rfl, h5⟩)
        have HF5 := Lib.hid h5
        clear h5 HF4
        go_wp2_with fail
        ((with_reducible refine (HF5.out.give (by decide) HSm.out h0m (by omega) rfl).mono ?_); rintro e w6 ⟨rfl, h6⟩)
        have HF6 := Lib.hid h6
        clear h6 HF5
        go_wp2_with fail
        ((with_reducible refine (HF6.out.take (by decide) HSm.out (by omega) rfl).mono ?_); rintro e w7 ⟨A7, c7, rfl, h7⟩)
        have HF7 := Lib.hid h7
        clear h7 HF6
        go_wp2_with fail
        ((with_reducible refine (HF7.out.same (by omega)).mono ?_); rintro e w8 ⟨rfl, h8⟩)
        have HF8 := Lib.hid h8
        clear h8 HF7
        go_wp2_with fail
        ((with_reducible refine (lives12_any HF8.out.st.lay.1 HF8.out.st.lay.2).mono ?_); rintro e w9 ⟨rfl, hb⟩)
        go_wp2_with fail
        go_ret
        exact ⟨rfl, HF8.out.st.low.trans (hb.mono HF8.out.st.low.size)⟩
end Go.Proofs.YtjpanofkikfeoaaDoor
