/-
  The document's words of layer 2; The document's words of layer 2 of whatever memory, and how ; conditions as each theorem says.
-/
import Derived.Test.YtmjcbjcnmgleaaaGreatDoorXP28
import Derived.Test.YtmjcbjcnmgleaaaGreatDoorXP29
import Derived.Outline
import Derived.Test.YtmjcbjcnmgleaaaGreatDoorXP04
namespace Go.Proofs.YtmjcbjcnmgleaaaGreatDoor
open Go.RowKit
def RefWords (l : List Wd) (w : World) (e : Ending) (w' : World) : Prop :=
  ∃ v, e = .returned v ∧ w'.ownsRow w.heap.size 118 4 v (wordsF l).length (flat (wordsF l)) ∧ Below w.heap.size w w'
def Mid (w : World) (l : List Wd) (i : Nat) (v : Value) (wr : World) : Prop :=
  wr.ownsRow w.heap.size 118 4 v (wordsF (l.take i)).length (flat (wordsF (l.take i))) ∧ Below w.heap.size w wr
def S9 (b g cap i : Nat) (l : List Wd) (y : Wd) (w0 W : World) : Prop :=
  (W.cell? ⟨b, 0, none⟩ = some (.slice (some ⟨g, 0, none⟩) l.length cap) ∧ W.cell? ⟨g, i * 4, none⟩ = some (.int .u8 y.k) ∧ W.cell? ⟨g, i * 4 + 1, none⟩ = some (.int .i64 y.a) ∧ W.cell? ⟨g, i * 4 + 2, none⟩ = some (.int .i64 y.f) ∧ W.cell? ⟨g, i * 4 + 3, none⟩ = some (.int .u64 y.v)) ∧ Hid (Below w0.heap.size w0 W)
theorem S9.of {b g cap i : Nat} {l : List Wd} {y : Wd} {w0 W : World} (h : S9 b g cap i l y w0 w0) (hb : Below w0.heap.size w0 W) : S9 b g cap i l y w0 W := by
  obtain ⟨⟨h0, h1, h2, h3, h4⟩, _⟩ := h
  have k : ∀ {q j : Nat} {v : Value}, w0.cell? ⟨q, j, none⟩ = some v → W.cell? ⟨q, j, none⟩ = some v := fun {q j v} hc => (hb.cell (p := ⟨q, j, none⟩) (World.block_lt_of_cell? w0 _ hc)).trans hc
  exact ⟨⟨k h0, k h1, k h2, k h3, k h4⟩, Lib.hid hb⟩
theorem S9.bel {b g cap i : Nat} {l : List Wd} {y : Wd} {w0 W : World} (h : S9 b g cap i l y w0 W) : Below w0.heap.size w0 W := h.2.out
theorem R2.s9 {B b g cap i : Nat} {l : List Wd} {y : Wd} {rest : List Value} {W : World} (h : R2 B b l (.slice (some ⟨g, 0, none⟩) l.length cap) rest W) (hi : i < l.length) (hy : l.getD i wd0 = y) : S9 b g cap i l y W W := by
  obtain ⟨c0, c1, c2, c3⟩ := own_cells h.own i hi
  rw [hy] at c0 c1 c2 c3
  exact ⟨⟨h.head, c0, c1, c2, c3⟩, Lib.hid (Below.refl _ _)⟩
set_option maxRecDepth 100000 in
set_option maxHeartbeats 4000000 in
theorem ref_words (B b g cap : Nat) (l : List Wd) (rest : List Value) (w : World) (h : R2 B b l (.slice (some ⟨g, 0, none⟩) l.length cap) rest w) (hn : l.length ≤ 5000) :
    Calls Tryz.prog 43 #[.pointer (some ⟨b, 0, none⟩)] w (RefWords l w) := by
  have HR := Lib.hid h
  clear h
  go_enter Tryz.func43, Tryz.ntmps43
  go_wp2_with fail
  go_loopw [3, 4] (fun v j wr => ∃ i : Nat, i ≤ l.length ∧ j = .int .i64 (i : Int) ∧ Hid (Mid w l i v wr)) (fun _ j _ => l.length - (intOf j).toNat)
  case atStart => exact ⟨0, Nat.zero_le _, rfl, Lib.hid ⟨World.ownsRow_nil _ _ _ _, Below.refl _ _⟩⟩
  case round =>
    obtain ⟨i, hi, rfl, hm⟩ := hrel
    have hcb := (HR.out.below hm.out.2).head
    by_cases hlt : i < l.length
    · have hlt' : (i : Int) < (l.length : Int) := by omega
      have hge : (0 : Int) ≤ (i : Int) := by omega
      obtain ⟨c0, c1, c2, c3⟩ := own_cells (HR.out.below hm.out.2).own i hlt
      have HS := Lib.hid (wordsF_succ l i hlt)
      have HLE := Lib.hid (wordsF_le l i)
      generalize hy : l.getD i wd0 = y at c0 c1 c2 c3 HS
      have HY := Lib.hid hy
      clear hy
      by_cases hz : y.v = 0
      · have hz' : (y.v == 0) = true := by simpa using hz
        have HZ := Lib.hid hz
        clear hz
        go_wp2_with fail
        go_roundw
        case rel =>
          refine ⟨i + 1, by omega, by go_num, Lib.hid ⟨?_, hm.out.2⟩⟩
          rw [HS.out, stepW, if_pos HZ.out]
          exact hm.out.1
        case measure => simp [intOf]; omega
      · have hz' : (y.v == 0) = false := by simpa using hz
        have HI := Lib.hid (show wordsF (l.take (i + 1)) = insW (wordsF (l.take i)) y by rw [HS.out, stepW, if_neg hz])
        have hM1 := hm.out.1
        have HM2 := Lib.hid hm.out.2
        clear hz hm HS
        generalize hsl : wordsF (l.take i) = sl at hM1 HI HLE
        clear hsl
        rcases hM1.2 with ⟨hv, h0⟩ | ⟨g2, cap2, cur2, hv, hB2, hg2, hr2⟩
        · obtain rfl : sl = [] := List.length_eq_zero_iff.1 h0
          subst hv
          clear hM1 h0
          go_wp2_with fail
          refine wp_loop_rounds 1 ?_
          rw [rounds_succ]
          go_wp2_with fail
          go_quiet (fail)
          go_wp2_with fail
          have HS0 := Lib.hid (show S9 b g cap i l y (wr.drewN nq) (wr.drewN nq) from (HR.out.below (below_drewNM' HM2.out nq)).s9 hlt HY.out)
          have HM3 := Lib.hid (show Below w.heap.size w (wr.drewN nq) from below_drewNM' HM2.out nq)
          obtain ⟨i0, q1, q2, q3, q4⟩ := info_parts Tryz_info64
          have HQ := Lib.hid q1
          clear q1 q2 q3 q4 c0 c1 c2 c3 hcb
          generalize wr.drewN nq = w0 at HS0 HM3 ⊢
          go_region_held3 (fun w1 => (w1.cell? ⟨b, 0, none⟩ = some (.slice (some ⟨g, 0, none⟩) l.length cap) ∧ w1.cell? ⟨g, i * 4, none⟩ = some (.int .u8 y.k) ∧ w1.cell? ⟨g, i * 4 + 1, none⟩ = some (.int .i64 y.a) ∧ w1.cell? ⟨g, i * 4 + 2, none⟩ = some (.int .i64 y.f) ∧ w1.cell? ⟨g, i * 4 + 3, none⟩ = some (.int .u64 y.v)) ∧ Hid (Below w0.heap.size w0 w1))
            (first | assumption | exact HS0.out.of (Below.refl _ _).drew | exact HS0.out.of G2.out | exact HS0.out.of (((Below.refl _ _).drew).alloc (Nat.le_refl _) _))
            (first
              | (refine step_append_none _ rfl (.const (.slice none 0 0)) (.tmp 48) 98 rfl 0 118 i0 4 Tryz.underlying98 HQ.out (.slice none 0 0) 0 [] rfl (World.ownsRow_nil _ _ _ _) rfl ?_)
              | (refine appB (w0 := w0) (y := y) rfl (.tmp 49) (.tmp 57) rfl ?_ [] (by decide) (World.ownsRow_nil _ _ _ _) (World.alloc_heap_new _ _) _ rfl rfl ?_; (refine S9.bel (b := b) (g := g) (cap := cap) (i := i) (l := l) (y := y) ?_; assumption); intro v2 w2 h2 hb2; have P2 := Lib.hid h2; have G2 := Lib.hid hb2; clear h2 hb2)
              | (refine step_append_none _ rfl (.tmp 58) (.tmp 61) 98 rfl w0.heap.size 118 i0 4 Tryz.underlying98 HQ.out v2 1 (flat [y]) rfl P2.out rfl ?_))
          all_goals
            go_wp2_with fail
            go_roundw
            case rel =>
              refine ⟨i + 1, by omega, by go_num, Lib.hid ⟨?_, HM3.out.trans (G2.out.mono HM3.out.size)⟩⟩
              rw [HI.out]
              exact row_mono P2.out HM3.out.size
            case measure => simp [intOf]; omega
        · subst hv
          have HM1 := Lib.hid hM1
          have hsn : sl.length ≤ 5000 := by have := HLE.out; omega
          have HCC := Lib.hid (show sl.length ≤ cap2 from hr2.1)
          have hsc : (sl.length : Int) ≤ (cap2 : Int) := by have := hr2.1; omega
          clear hM1 hB2 hg2 hr2
          go_wp2_with fail
          obtain ⟨wo, rfl⟩ : ∃ wo, wo = wr := ⟨wr, rfl⟩
          go_loopw [5] (fun j wr => ∃ k : Nat, k ≤ sl.length ∧ j = .int .i64 (k : Int) ∧ Hid (∀ c, c < k → lessW (sl.getD c wd0) y = true) ∧ Hid (Below wo.heap.size wo wr)) (fun j _ => sl.length - (intOf j).toNat)
          case atStart => exact ⟨0, Nat.zero_le _, rfl, Lib.hid (fun c hc => absurd hc (Nat.not_lt_zero _)), Lib.hid (Below.refl _ _)⟩
          case round =>
            obtain ⟨k, hk, rfl, hno, hbk⟩ := hrel
            have HM4 := Lib.hid (show Below w.heap.size w wr from HM2.out.trans (hbk.out.mono HM2.out.size))
            have HO := Lib.hid (row_below HM1.out hbk.out)
            have HSk := Lib.hid ((HR.out.below HM4.out).s9 hlt HY.out)
            clear c0 c1 c2 c3 hcb
            have hgk : (0 : Int) ≤ (k : Int) := by omega
            by_cases hkl : k < sl.length
            · have hkl' : (k : Int) < (sl.length : Int) := by omega
              obtain ⟨d0, d1, d2, d3⟩ := own_cells HO.out k hkl
              obtain ⟨⟨c9, c0, c1, c2, c3⟩, _⟩ := HSk.out
              have HD := Lib.hid (show wr.drew.heap.size = wr.heap.size from rfl)
              by_cases hll : lessW (sl.getD k wd0) y = true
              · have HLL := Lib.hid hll
                clear hll
                generalize hx : sl.getD k wd0 = x at d0 d1 d2 d3 HLL
                have HX := Lib.hid hx
                clear hx d3 c3
                go_wp2_with fail
                refine wp_region_still_tail 18 (by kernel_rfl) (by kernel_rfl) ?_
                change wpStill _ _ wr.drew (fun a' => wpList _ _ _ _ a' wr.drew) _ _
                change wr.drew.cell? _ = _ at d0 d1 d2 c0 c1 c2 c9
                have HM5 := Lib.hid (show Below wo.heap.size wo wr.drew from hbk.out.drew)
                clear HM4 HO HSk hbk HD
                generalize wr.drew = wd at HM5 d0 d1 d2 c0 c1 c2 c9 ⊢
                simp only [List.take_succ_cons, List.take_zero, List.drop_succ_cons, List.drop_zero]
                iterate 18 still_step
                refine wpStill_nil ?_
                go_wp2_with fail
                ((with_reducible refine (less_any x.k x.a x.f y.k y.a y.f wd).mono ?_); rintro e w' ⟨rfl, hb⟩)
                have HM6 := Lib.hid (HM5.out.trans (hb.mono HM5.out.size))
                rw [show lessB x.k x.a x.f y.k y.a y.f = true from HLL.out]
                clear hb HM5
                go_wp2_with fail
                go_roundw
                case rel =>
                  refine ⟨k + 1, by omega, by go_num, Lib.hid (fun c hc => ?_), HM6⟩
                  by_cases he : c = k
                  · subst he; rw [HX.out]; exact HLL.out
                  · exact hno.out c (by omega)
                case measure => simp [intOf]; omega
              · have HLL := Lib.hid (show lessW (sl.getD k wd0) y = false by simpa using hll)
                have HII := Lib.hid (show wordsF (l.take (i + 1)) = sl.take k ++ [y] ++ sl.drop k from HI.out.trans (insW_at y sl k hk hno.out (.inr HLL.out)))
                clear hll
                generalize hx : sl.getD k wd0 = x at d0 d1 d2 d3 HLL
                clear hx d3 c3
                go_wp2_with fail
                refine wp_region_still_tail 18 (by kernel_rfl) (by kernel_rfl) ?_
                change wpStill _ _ wr.drew (fun a' => wpList _ _ _ _ a' wr.drew) _ _
                change wr.drew.cell? _ = _ at d0 d1 d2 c0 c1 c2 c9
                have HM5 := Lib.hid (show Below wo.heap.size wo wr.drew from hbk.out.drew)
                clear HM4 HO HSk hbk HD
                generalize wr.drew = wd at HM5 d0 d1 d2 c0 c1 c2 c9 ⊢
                simp only [List.take_succ_cons, List.take_zero, List.drop_succ_cons, List.drop_zero]
                iterate 18 still_step
                refine wpStill_nil ?_
                go_wp2_with fail
                ((with_reducible refine (less_any x.k x.a x.f y.k y.a y.f wd).mono ?_); rintro e w0 ⟨rfl, hb⟩)
                have HW0 : Below wo.heap.size wo w0 := HM5.out.trans (hb.mono HM5.out.size)
                have HM6 : Below w.heap.size w w0 := HM2.out.trans (HW0.mono HM2.out.size)
                rw [show lessB x.k x.a x.f y.k y.a y.f = false from HLL.out]
                clear hb HM5 d0 d1 d2 c0 c1 c2 c9
                go_wp2_with fail
                have HS0 := Lib.hid (show S9 b g cap i l y w0 w0 from (HR.out.below HM6).s9 hlt HY.out)
                have HO0 := Lib.hid (row_below HM1.out HW0)
                have HM3 := Lib.hid (show Below w.heap.size w w0 from HM6)
                have HT := Lib.hid (show (sl.take k).length ≤ 5000 by rw [List.length_take]; omega)
                have HT2 := Lib.hid (show (sl.take k ++ [y]).length ≤ 5001 by simp only [List.length_append, List.length_take, List.length_singleton]; omega)
                have hki : (k : Int) ≤ (sl.length : Int) := by omega
                have hkc : (k : Int) ≤ (cap2 : Int) := by omega
                clear HM6 HW0
                go_region_held3 (fun w1 => (w1.cell? ⟨b, 0, none⟩ = some (.slice (some ⟨g, 0, none⟩) l.length cap) ∧ w1.cell? ⟨g, i * 4, none⟩ = some (.int .u8 y.k) ∧ w1.cell? ⟨g, i * 4 + 1, none⟩ = some (.int .i64 y.a) ∧ w1.cell? ⟨g, i * 4 + 2, none⟩ = some (.int .i64 y.f) ∧ w1.cell? ⟨g, i * 4 + 3, none⟩ = some (.int .u64 y.v)) ∧ Hid (Below w0.heap.size w0 w1))
                  (first | assumption | exact HS0.out.of (Below.refl _ _).drew | exact HS0.out.of G3.out | exact HS0.out.of G2.out | exact HS0.out.of G1.out | exact HS0.out.of (G1.out.alloc G1.out.size _) | exact HS0.out.of (((Below.refl _ _).drew).alloc (Nat.le_refl _) _))
                  (first
                    | (refine appA (w0 := w0) (sl := sl) (k := k) rfl (.const (.slice none 0 0)) (.tmp 48) rfl ?_ HO0.out hk hsn _ rfl rfl ?_; (refine S9.bel (b := b) (g := g) (cap := cap) (i := i) (l := l) (y := y) ?_; assumption); intro v1 w1 h1 hb1 hB1; have P1 := Lib.hid (show w1.ownsRow w0.heap.size 118 4 v1 (sl.take k).length (flat (sl.take k)) by rw [List.length_take, Nat.min_eq_left hk]; exact h1); have G1b := Lib.hid hb1; have G1 := Lib.hid hB1; clear h1 hb1 hB1)
                    | (refine appB (w0 := w0) (y := y) rfl (.tmp 49) (.tmp 57) rfl ?_ (sl.take k) HT.out P1.out ?_ _ rfl rfl ?_; (refine S9.bel (b := b) (g := g) (cap := cap) (i := i) (l := l) (y := y) ?_; assumption); exact (G1b.out.block _ (by simp)).trans (World.alloc_heap_new _ _); intro v2 w2 h2 hb2; have P2 := Lib.hid (show w2.ownsRow w0.heap.size 118 4 v2 (sl.take k ++ [y]).length (flat (sl.take k ++ [y])) by rw [List.length_append]; exact h2); have G2 := Lib.hid hb2; clear h2 hb2)
                    | (refine appB (w0 := w0) (y := y) rfl (.tmp 49) (.tmp 57) rfl ?_ (sl.take k) HT.out (P1.out.alloc _) (World.alloc_heap_new _ _) _ rfl rfl ?_; (refine S9.bel (b := b) (g := g) (cap := cap) (i := i) (l := l) (y := y) ?_; assumption); intro v2 w2 h2 hb2; have P2 := Lib.hid (show w2.ownsRow w0.heap.size 118 4 v2 (sl.take k ++ [y]).length (flat (sl.take k ++ [y])) by rw [List.length_append]; exact h2); have G2 := Lib.hid hb2; clear h2 hb2)
                    | (refine appC (w0 := w0) (sl := sl) (k := k) rfl (.tmp 58) (.tmp 61) rfl ?_ HO0.out hk hsn (sl.take k ++ [y]) HT2.out P2.out _ rfl HCC.out rfl ?_; (refine S9.bel (b := b) (g := g) (cap := cap) (i := i) (l := l) (y := y) ?_; assumption); intro v3 w3 h3 hb3; have P3 := Lib.hid h3; have G3 := Lib.hid hb3; clear h3 hb3))
                all_goals
                  go_wp2_with fail
                  go_roundw
                  case rel =>
                    refine ⟨i + 1, by omega, by go_num, Lib.hid ⟨?_, HM3.out.trans (G3.out.mono HM3.out.size)⟩⟩
                    rw [HII.out]
                    exact row_mono P3.out HM3.out.size
                  case measure => simp [intOf]; omega
            · have hek : k = sl.length := by omega
              have hnk : (sl.length : Int) ≤ (k : Int) := by omega
              have HII := Lib.hid (show wordsF (l.take (i + 1)) = sl.take k ++ [y] ++ sl.drop k from HI.out.trans (insW_at y sl k hk hno.out (.inl hek)))
              have hnk' : ¬ ((k : Int) < (sl.length : Int)) := by omega
              clear hek
              go_wp2_with fail
              go_quiet (fail)
              go_wp2_with fail
              have HW0 : Below wo.heap.size wo (wr.drewN nq) := below_drewNM' hbk.out nq
              have HM6 : Below w.heap.size w (wr.drewN nq) := below_drewNM' HM4.out nq
              have HS0 := Lib.hid (show S9 b g cap i l y (wr.drewN nq) (wr.drewN nq) from (HR.out.below HM6).s9 hlt HY.out)
              have HO0 := Lib.hid (row_below HM1.out HW0)
              have HM3 := Lib.hid (show Below w.heap.size w (wr.drewN nq) from HM6)
              have HT := Lib.hid (show (sl.take k).length ≤ 5000 by rw [List.length_take]; omega)
              have HT2 := Lib.hid (show (sl.take k ++ [y]).length ≤ 5001 by simp only [List.length_append, List.length_take, List.length_singleton]; omega)
              have hki : (k : Int) ≤ (sl.length : Int) := by omega
              have hkc : (k : Int) ≤ (cap2 : Int) := by omega
              clear HM6 HW0
              clear HM4 HO HSk hbk
              generalize wr.drewN nq = w0 at HS0 HO0 HM3 ⊢
              go_region_held3 (fun w1 => (w1.cell? ⟨b, 0, none⟩ = some (.slice (some ⟨g, 0, none⟩) l.length cap) ∧ w1.cell? ⟨g, i * 4, none⟩ = some (.int .u8 y.k) ∧ w1.cell? ⟨g, i * 4 + 1, none⟩ = some (.int .i64 y.a) ∧ w1.cell? ⟨g, i * 4 + 2, none⟩ = some (.int .i64 y.f) ∧ w1.cell? ⟨g, i * 4 + 3, none⟩ = some (.int .u64 y.v)) ∧ Hid (Below w0.heap.size w0 w1))
                (first | assumption | exact HS0.out.of (Below.refl _ _).drew | exact HS0.out.of G3.out | exact HS0.out.of G2.out | exact HS0.out.of G1.out | exact HS0.out.of (G1.out.alloc G1.out.size _) | exact HS0.out.of (((Below.refl _ _).drew).alloc (Nat.le_refl _) _))
                (first
                  | (refine appA (w0 := w0) (sl := sl) (k := k) rfl (.const (.slice none 0 0)) (.tmp 48) rfl ?_ HO0.out hk hsn _ rfl rfl ?_; (refine S9.bel (b := b) (g := g) (cap := cap) (i := i) (l := l) (y := y) ?_; assumption); intro v1 w1 h1 hb1 hB1; have P1 := Lib.hid (show w1.ownsRow w0.heap.size 118 4 v1 (sl.take k).length (flat (sl.take k)) by rw [List.length_take, Nat.min_eq_left hk]; exact h1); have G1b := Lib.hid hb1; have G1 := Lib.hid hB1; clear h1 hb1 hB1)
                  | (refine appB (w0 := w0) (y := y) rfl (.tmp 49) (.tmp 57) rfl ?_ (sl.take k) HT.out P1.out ?_ _ rfl rfl ?_; (refine S9.bel (b := b) (g := g) (cap := cap) (i := i) (l := l) (y := y) ?_; assumption); exact (G1b.out.block _ (by simp)).trans (World.alloc_heap_new _ _); intro v2 w2 h2 hb2; have P2 := Lib.hid (show w2.ownsRow w0.heap.size 118 4 v2 (sl.take k ++ [y]).length (flat (sl.take k ++ [y])) by rw [List.length_append]; exact h2); have G2 := Lib.hid hb2; clear h2 hb2)
                  | (refine appB (w0 := w0) (y := y) rfl (.tmp 49) (.tmp 57) rfl ?_ (sl.take k) HT.out (P1.out.alloc _) (World.alloc_heap_new _ _) _ rfl rfl ?_; (refine S9.bel (b := b) (g := g) (cap := cap) (i := i) (l := l) (y := y) ?_; assumption); intro v2 w2 h2 hb2; have P2 := Lib.hid (show w2.ownsRow w0.heap.size 118 4 v2 (sl.take k ++ [y]).length (flat (sl.take k ++ [y])) by rw [List.length_append]; exact h2); have G2 := Lib.hid hb2; clear h2 hb2)
                  | (refine appC (w0 := w0) (sl := sl) (k := k) rfl (.tmp 58) (.tmp 61) rfl ?_ HO0.out hk hsn (sl.take k ++ [y]) HT2.out P2.out _ rfl HCC.out rfl ?_; (refine S9.bel (b := b) (g := g) (cap := cap) (i := i) (l := l) (y := y) ?_; assumption); intro v3 w3 h3 hb3; have P3 := Lib.hid h3; have G3 := Lib.hid hb3; clear h3 hb3))
              all_goals
                go_wp2_with fail
                go_roundw
                case rel =>
                  refine ⟨i + 1, by omega, by go_num, Lib.hid ⟨?_, HM3.out.trans (G3.out.mono HM3.out.size)⟩⟩
                  rw [HII.out]
                  exact row_mono P3.out HM3.out.size
                case measure => simp [intOf]; omega
    · have he : i = l.length := by omega
      have hge : (l.length : Int) ≤ (i : Int) := by omega
      have HE := Lib.hid he
      clear he
      go_wp2_with fail
      go_ret
      refine ⟨_, rfl, ?_, hm.out.2⟩
      have := hm.out.1
      rw [HE.out, List.take_length] at this
      exact this
end Go.Proofs.YtmjcbjcnmgleaaaGreatDoor
namespace Go.Proofs.YtmjcbjcnmgleaaaGreatDoor
open Go.RowKit Go.Maps
set_option maxHeartbeats 1000000 in
theorem ref_words_nil (b : Nat) (w : World) (hb : w.cell? ⟨b, 0, none⟩ = some (.slice none 0 0)) : Calls Tryz.prog 43 #[.pointer (some ⟨b, 0, none⟩)] w (RefWords [] w) := by
  go_enter Tryz.func43, Tryz.ntmps43
  go_wp2_with fail
  refine wp_loop_rounds 1 ?_
  rw [rounds_succ]
  go_wp2_with fail
  go_ret
  exact ⟨_, rfl, World.ownsRow_nil _ _ _ _, Below.refl _ _⟩
theorem ref_words_any (B b : Nat) (l : List Wd) (v : Value) (rest : List Value) (w : World) (h : R2 B b l v rest w) (hn : l.length ≤ 5000) : Calls Tryz.prog 43 #[.pointer (some ⟨b, 0, none⟩)] w (RefWords l w) := by
  rcases h.own.2 with ⟨hv, h0⟩ | ⟨g, cap, cur, hv, hB, hg, r⟩
  · have e : l = [] := List.length_eq_zero_iff.1 h0
    subst e hv
    exact ref_words_nil b w h.head
  · subst hv
    exact ref_words B b g cap l rest w h hn
/-! ### Sorted lists -/
theorem sorted_ext {α : Type} {r : α → α → Prop} (irr : ∀ x, ¬ r x x) (asy : ∀ x y, r x y → ¬ r y x) : ∀ s t : List α, s.Pairwise r → t.Pairwise r → (∀ x, x ∈ s ↔ x ∈ t) → s = t := by
  intro s
  induction s with
  | nil =>
    intro t _ _ h
    cases t with
    | nil => rfl
    | cons b t => exact absurd ((h b).2 (by simp)) (by simp)
  | cons a s ih =>
    intro t hs ht h
    cases t with
    | nil => exact absurd ((h a).1 (by simp)) (by simp)
    | cons b t =>
      obtain ⟨h1, h2⟩ := List.pairwise_cons.1 hs
      obtain ⟨k1, k2⟩ := List.pairwise_cons.1 ht
      have e : a = b := by
        rcases List.mem_cons.1 ((h a).1 (by simp)) with e | e
        · exact e
        · rcases List.mem_cons.1 ((h b).2 (by simp)) with e' | e'
          · exact e'.symm
          · exact absurd (h1 b e') (asy b a (k1 a e))
      subst e
      rw [ih t h2 k2 fun x => ⟨fun hx => ?_, fun hx => ?_⟩]
      · rcases List.mem_cons.1 ((h x).1 (List.mem_cons_of_mem _ hx)) with e | e
        · subst e; exact absurd (h1 x hx) (irr x)
        · exact e
      · rcases List.mem_cons.1 ((h x).2 (List.mem_cons_of_mem _ hx)) with e | e
        · subst e; exact absurd (k1 x hx) (irr x)
        · exact e
theorem lessB_irr (k a f : Int) : lessB k a f k a f = false := by simp [lessB]
theorem lessB_iff (k a f k' a' f' : Int) : lessB k a f k' a' f' = true ↔ (k < k' ∨ (k = k' ∧ (a < a' ∨ (a = a' ∧ f < f')))) := by
  unfold lessB
  split
  · simp; omega
  · split
    · simp; omega
    · simp; omega
theorem lessW_irr (x : Wd) : ¬ lessW x x = true := by simp [lessW, lessB_irr]
theorem lessW_asy (x y : Wd) (h : lessW x y = true) : ¬ lessW y x = true := by
  unfold lessW at *
  rw [lessB_iff] at *
  omega
theorem lessW_trans {x y z : Wd} (h : lessW x y = true) (h' : lessW y z = true) : lessW x z = true := by
  unfold lessW at *
  rw [lessB_iff] at *
  omega
theorem mem_insW (sl : List Wd) (y z : Wd) : z ∈ insW sl y ↔ z = y ∨ z ∈ sl := by
  induction sl with
  | nil => simp [insW]
  | cons x r ih =>
    unfold insW
    split
    · simp only [List.mem_cons, ih]
      constructor
      · rintro (h | h | h)
        · exact .inr (.inl h)
        · exact .inl h
        · exact .inr (.inr h)
      · rintro (h | h | h)
        · exact .inr (.inl h)
        · exact .inl h
        · exact .inr (.inr h)
    · simp
theorem insW_sorted (y : Wd) (sl : List Wd) (h : sl.Pairwise fun x z => lessW x z = true) (ht : ∀ x ∈ sl, lessW x y = true ∨ lessW y x = true) : (insW sl y).Pairwise fun x z => lessW x z = true := by
  induction sl with
  | nil => simp [insW]
  | cons x r ih =>
    obtain ⟨h1, h2⟩ := List.pairwise_cons.1 h
    unfold insW
    split
    · rename_i hx
      refine List.pairwise_cons.2 ⟨fun z hz => ?_, ih h2 fun z hz => ht z (List.mem_cons_of_mem _ hz)⟩
      rcases (mem_insW r y z).1 hz with e | e
      · subst e; exact hx
      · exact h1 z e
    · rename_i hx
      have hy : lessW y x = true := (ht x (by simp)).resolve_left hx
      refine List.pairwise_cons.2 ⟨fun z hz => ?_, h⟩
      rcases List.mem_cons.1 hz with e | e
      · subst e; exact hy
      · exact lessW_trans hy (h1 z e)
def Apart (l : List Wd) : Prop := l.Pairwise fun x y => ¬ (x.k = y.k ∧ x.a = y.a ∧ x.f = y.f)
theorem lessW_total {x y : Wd} (h : ¬ (x.k = y.k ∧ x.a = y.a ∧ x.f = y.f)) : lessW x y = true ∨ lessW y x = true := by
  unfold lessW
  rw [lessB_iff, lessB_iff]
  omega
theorem wordsF_spec (l : List Wd) : ∀ acc : List Wd, Apart l → acc.Pairwise (fun x z => lessW x z = true) → (∀ x ∈ acc, ∀ y ∈ l, ¬ (x.k = y.k ∧ x.a = y.a ∧ x.f = y.f)) →
    (l.foldl stepW acc).Pairwise (fun x z => lessW x z = true) ∧ ∀ z, z ∈ l.foldl stepW acc ↔ z ∈ acc ∨ (z ∈ l ∧ z.v ≠ 0) := by
  induction l with
  | nil => intro acc _ h _; exact ⟨h, by simp⟩
  | cons y r ih =>
    intro acc hl ha hd
    obtain ⟨l1, l2⟩ := List.pairwise_cons.1 hl
    have e : (y :: r).foldl stepW acc = r.foldl stepW (stepW acc y) := rfl
    rw [e]
    by_cases hv : y.v = 0
    · rw [show stepW acc y = acc from if_pos hv]
      obtain ⟨i1, i2⟩ := ih acc l2 ha fun x hx z hz => hd x hx z (List.mem_cons_of_mem _ hz)
      refine ⟨i1, fun z => ?_⟩
      rw [i2 z]
      constructor
      · rintro (h | ⟨h, h'⟩)
        · exact .inl h
        · exact .inr ⟨List.mem_cons_of_mem _ h, h'⟩
      · rintro (h | ⟨h, h'⟩)
        · exact .inl h
        · rcases List.mem_cons.1 h with e | e
          · subst e; exact absurd hv h'
          · exact .inr ⟨e, h'⟩
    · rw [show stepW acc y = insW acc y from if_neg hv]
      obtain ⟨i1, i2⟩ := ih (insW acc y) l2 (insW_sorted y acc ha fun x hx => lessW_total (hd x hx y (by simp))) fun x hx z hz => by
        rcases (mem_insW acc y x).1 hx with e | e
        · subst e; exact l1 z hz
        · exact hd x e z (List.mem_cons_of_mem _ hz)
      refine ⟨i1, fun z => ?_⟩
      rw [i2 z, mem_insW]
      constructor
      · rintro ((h | h) | ⟨h, h'⟩)
        · subst h; exact .inr ⟨by simp, hv⟩
        · exact .inl h
        · exact .inr ⟨List.mem_cons_of_mem _ h, h'⟩
      · rintro (h | ⟨h, h'⟩)
        · exact .inl (.inr h)
        · rcases List.mem_cons.1 h with e | e
          · exact .inl (.inl e)
          · exact .inr ⟨e, h'⟩
end Go.Proofs.YtmjcbjcnmgleaaaGreatDoor
