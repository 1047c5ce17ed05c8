/-
  Package snaps: what a taker got, in new memory; condition: it lies as it says.
-/
import Derived.Test.YtapcgikamldchaaDoorSK3
namespace Go.Proofs.YtapcgikamldchaaDoor
open Go.RowKit Go.Maps

section
variable {q g : Nat} {w w' : World} {f : Value} {n : Int} {A r : List TH} {B c : Nat}
def tenW (g j : Nat) (a0 a1 a2 a3 a4 a5 a6 a7 a8 a9 : Int) (w : World) : World := (((((((((w.setCell ⟨g, j * 10, none⟩ (.int .u64 a0)).setCell ⟨g, j * 10 + 1, none⟩ (.int .u64 a1)).setCell ⟨g, j * 10 + 2, none⟩ (.int .u64 a2)).setCell ⟨g, j * 10 + 3, none⟩ (.int .u64 a3)).setCell ⟨g, j * 10 + 4, none⟩ (.int .u64 a4)).setCell ⟨g, j * 10 + 5, none⟩ (.int .u64 a5)).setCell ⟨g, j * 10 + 6, none⟩ (.int .u64 a6)).setCell ⟨g, j * 10 + 7, none⟩ (.int .u64 a7)).setCell ⟨g, j * 10 + 8, none⟩ (.int .u64 a8)).setCell ⟨g, j * 10 + 9, none⟩ (.int .u64 a9)
theorem ten_far {a0 a1 a2 a3 a4 a5 a6 a7 a8 a9 : Int} {j x : Nat} (h : x ≠ g) : (tenW g j a0 a1 a2 a3 a4 a5 a6 a7 a8 a9 w).heap[x]? = w.heap[x]? := by
  unfold tenW
  rw [Below.heap_setCell _ _ _ _ h, Below.heap_setCell _ _ _ _ h, Below.heap_setCell _ _ _ _ h, Below.heap_setCell _ _ _ _ h, Below.heap_setCell _ _ _ _ h, Below.heap_setCell _ _ _ _ h, Below.heap_setCell _ _ _ _ h, Below.heap_setCell _ _ _ _ h, Below.heap_setCell _ _ _ _ h, Below.heap_setCell _ _ _ _ h]
theorem ten_below {a0 a1 a2 a3 a4 a5 a6 a7 a8 a9 : Int} {j : Nat} {X : World} (h : Below B X w) (hg : B ≤ g) : Below B X (tenW g j a0 a1 a2 a3 a4 a5 a6 a7 a8 a9 w) :=
  (((((((((h.setCell hg _).setCell hg _).setCell hg _).setCell hg _).setCell hg _).setCell hg _).setCell hg _).setCell hg _).setCell hg _).setCell hg _
/-- A thread of a row is another one, word by word. -/
theorem OwnH.put {a0 a1 a2 a3 a4 a5 a6 a7 a8 a9 : Int} {j m : Nat} (h : OwnH w B (.slice (some ⟨g, 0, none⟩) m c) A) (hj : j < A.length) :
    OwnH (tenW g j a0 a1 a2 a3 a4 a5 a6 a7 a8 a9 w) B (.slice (some ⟨g, 0, none⟩) m c) (A.set j ⟨a0, a1, a2, a3, a4, a5, a6, a7, a8, a9⟩) := by
  unfold tenW
  have hl : ∀ x : TH, (A.set j x).length = A.length := fun x => List.length_set
  have hg : ∀ x : TH, (A.set j x).getD j TH.zero = x := fun x => by
    rw [List.getD_eq_getElem?_getD, List.getElem?_set_self hj]
    rfl
  have h0 := h.set (f := 0) hj (by decide) a0
  generalize (A.getD j TH.zero) = t at h0
  have h1 := h0.set (f := 1) (by rw [hl]; exact hj) (by decide) a1
  rw [hg, List.set_set] at h1
  have h2 := h1.set (f := 2) (by rw [hl]; exact hj) (by decide) a2
  rw [hg, List.set_set] at h2
  have h3 := h2.set (f := 3) (by rw [hl]; exact hj) (by decide) a3
  rw [hg, List.set_set] at h3
  have h4 := h3.set (f := 4) (by rw [hl]; exact hj) (by decide) a4
  rw [hg, List.set_set] at h4
  have h5 := h4.set (f := 5) (by rw [hl]; exact hj) (by decide) a5
  rw [hg, List.set_set] at h5
  have h6 := h5.set (f := 6) (by rw [hl]; exact hj) (by decide) a6
  rw [hg, List.set_set] at h6
  have h7 := h6.set (f := 7) (by rw [hl]; exact hj) (by decide) a7
  rw [hg, List.set_set] at h7
  have h8 := h7.set (f := 8) (by rw [hl]; exact hj) (by decide) a8
  rw [hg, List.set_set] at h8
  have h9 := h8.set (f := 9) (by rw [hl]; exact hj) (by decide) a9
  rw [hg, List.set_set] at h9
  exact h9
theorem grown_none {w w' : World} (h : w.grownBy w' none) : Below w.heap.size w w' := (Below.refl _ w).grown h (Nat.le_refl _) fun _ e => by cases e
theorem gotF_nil (w : World) : Calls Tryd.prog 13 #[.pointer none] w fun e w' => e = .returned (.agg #[.slice none 0 0, .int .u64 0]) ∧ Below w.heap.size w w' := by
  have HB := Lib.hid ((Below.refl _ w).alloc (Nat.le_refl _) (.cells #[.slice none 0 0, .int .u64 0] 36))
  have HQ := Lib.hid (Bq.new w [.slice none 0 0, .int .u64 0] 36)
  go_enter Tryd.func13, Tryd.ntmps13
  go_upto_region 2 with (fail)
  revert HB HQ
  generalize (w.alloc (.cells #[.slice none 0 0, .int .u64 0] 36)) = w1
  intro HB HQ
  go_wp2_with (refine wpList_store_put rfl 36 _ _ rfl w.heap.size rfl #[.slice none 0 0, .int .u64 0] rfl 36 _ HQ.out (by kernel_rfl) rfl rfl ?_; intro w5 hp)
  exact bodyPost_ret (results_cell Tryd.results13 _ _ _ _ _ _ _ rfl hp.at_ Tryd.underlying36 rfl (by kernel_rfl)) rfl ⟨rfl, hp.below HB.out (Nat.le_refl _)⟩
theorem gotF_live {k : Nat} {x y : Int} {cs : List Value} (h : Bq q 59 (mvV k x y :: cs) w) : Calls Tryd.prog 13 #[.pointer (some ⟨q, 0, none⟩)] w fun e w' => e = .returned (.agg #[.slice none 0 0, .int .u64 0]) ∧ Below w.heap.size w w' := by
  have hb : Below w.heap.size w (w.alloc (.cells #[.slice none 0 0, .int .u64 0] 36)) := (Below.refl _ w).alloc (Nat.le_refl _) _
  have HB := Lib.hid hb
  have HQ := Lib.hid (Bq.new w [.slice none 0 0, .int .u64 0] 36)
  have HK := Lib.hid (h.below hb)
  clear h hb
  go_enter Tryd.func13, Tryd.ntmps13
  go_upto_region 1 with (fail)
  revert HB HQ HK
  generalize (w.alloc (.cells #[.slice none 0 0, .int .u64 0] 36)) = w1
  intro HB HQ HK
  go_wp2_with fail
  ((with_reducible refine (overF_1 HK.out).mono ?_); rintro e1 w2 ⟨rfl, rfl⟩)
  go_wp2_with (refine wpList_store_put rfl 36 _ _ rfl w.heap.size rfl #[.slice none 0 0, .int .u64 0] rfl 36 _ HQ.out (by kernel_rfl) rfl rfl ?_; intro w5 hp)
  exact bodyPost_ret (results_cell Tryd.results13 _ _ _ _ _ _ _ rfl hp.at_ Tryd.underlying36 rfl (by kernel_rfl)) rfl ⟨rfl, hp.below HB.out (Nat.le_refl _)⟩
theorem gotF_none (h : Bq q 59 (TKc .nilFunc 0 r) w) : Calls Tryd.prog 13 #[.pointer (some ⟨q, 0, none⟩)] w fun e w' => e = .returned (.agg #[.slice none 0 0, .int .u64 0]) ∧ Below w.heap.size w w' := by
  have hb : Below w.heap.size w (w.alloc (.cells #[.slice none 0 0, .int .u64 0] 36)) := (Below.refl _ w).alloc (Nat.le_refl _) _
  have HB := Lib.hid hb
  have HQ := Lib.hid (Bq.new w [.slice none 0 0, .int .u64 0] 36)
  have HK := Lib.hid (h.below hb)
  clear h hb
  go_enter Tryd.func13, Tryd.ntmps13
  go_upto_region 1 with (fail)
  revert HB HQ HK
  generalize (w.alloc (.cells #[.slice none 0 0, .int .u64 0] 36)) = w1
  intro HB HQ HK
  have q1 : w1.cell? ⟨q, 1, none⟩ = some (.int .i64 0) := HK.out.cell 1
  go_wp2_with fail
  ((with_reducible refine (overF_0 (cs := .int .i64 0 :: flatH r) HK.out).mono ?_); rintro e1 w2 ⟨rfl, rfl⟩)
  go_wp2_with (refine wpList_store_put rfl 36 _ _ rfl w.heap.size rfl #[.slice none 0 0, .int .u64 0] rfl 36 _ HQ.out (by kernel_rfl) rfl rfl ?_; intro w5 hp)
  exact bodyPost_ret (results_cell Tryd.results13 _ _ _ _ _ _ _ rfl hp.at_ Tryd.underlying36 rfl (by kernel_rfl)) rfl ⟨rfl, hp.below HB.out (Nat.le_refl _)⟩
theorem made_zeros {n : Nat} (h0 : 0 < n) (h : n ≤ 16) : (madeCells (Value.agg #[.int .u64 0, .int .u64 0, .int .u64 0, .int .u64 0, .int .u64 0, .int .u64 0, .int .u64 0, .int .u64 0, .int .u64 0, .int .u64 0]).cells (n * 10)).toList = flatH (List.replicate n TH.zero) := by
  rcases (by omega : n = 1 ∨ n = 2 ∨ n = 3 ∨ n = 4 ∨ n = 5 ∨ n = 6 ∨ n = 7 ∨ n = 8 ∨ n = 9 ∨ n = 10 ∨ n = 11 ∨ n = 12 ∨ n = 13 ∨ n = 14 ∨ n = 15 ∨ n = 16) with rfl | rfl | rfl | rfl | rfl | rfl | rfl | rfl | rfl | rfl | rfl | rfl | rfl | rfl | rfl | rfl <;> kernel_rfl
theorem take_more {l : List TH} {n i : Nat} (hn : n = l.length) (hi : i < n) : (l.take i ++ List.replicate (n - i) TH.zero).set i (l.getD i TH.zero) = l.take (i + 1) ++ List.replicate (n - (i + 1)) TH.zero := by
  have hl : (l.take i).length = i := by rw [List.length_take]; omega
  have hk : l.take (i + 1) = l.take i ++ [l.getD i TH.zero] := by
    rw [List.getD_eq_getElem?_getD, List.getElem?_eq_getElem (by omega), List.take_succ_eq_append_getElem (by omega)]
    rfl
  rw [List.set_append_right _ _ (by omega), hl, Nat.sub_self, show n - i = (n - (i + 1)) + 1 by omega, List.replicate_succ, hk, List.append_assoc]
  rfl
set_option maxRecDepth 100000 in
set_option maxHeartbeats 8000000 in
theorem gotF_some {l : List TH} {n : Nat} (hn : n = l.length) (h0 : 0 < n) (h16 : n ≤ 16) (h : Bq q 59 (TKc .nilFunc (n : Int) (rowsS l)) w) : Calls Tryd.prog 13 #[.pointer (some ⟨q, 0, none⟩)] w fun e w' => ∃ A, e = .returned (.agg #[.slice A n n, .int .u64 0]) ∧ OwnH w' w.heap.size (.slice A n n) l ∧ Below w.heap.size w w' := by
  obtain ⟨i0, hi0, hz0, hz1, hz2⟩ := info_parts infoH
  have hb : Below w.heap.size w (w.alloc (.cells #[.slice none 0 0, .int .u64 0] 36)) := (Below.refl _ w).alloc (Nat.le_refl _) _
  have HB := Lib.hid hb
  have HQ := Lib.hid (Bq.new w [.slice none 0 0, .int .u64 0] 36)
  have HK := Lib.hid (h.below hb)
  have HN := Lib.hid hn
  clear h hb hn
  go_enter Tryd.func13, Tryd.ntmps13
  go_upto_region 1 with (fail)
  revert HB HQ HK
  generalize (w.alloc (.cells #[.slice none 0 0, .int .u64 0] 36)) = w1
  intro HB HQ HK
  have q1 : w1.cell? ⟨q, 1, none⟩ = some (.int .i64 (n : Int)) := HK.out.cell 1
  have hn1 : ¬ (n : Int) = 0 := by omega
  have hn2 : ((n : Int) == 0) = false := beq_eq_false_iff_ne.2 hn1
  have hn3 : ¬ n = 0 := by omega
  go_wp2_with fail
  ((with_reducible refine (overF_0 (cs := .int .i64 (n : Int) :: flatH (rowsS l)) HK.out).mono ?_); rintro e1 w2 ⟨rfl, rfl⟩)
  go_upto_region 4 with (at_make; go_loud (refine wpList_make_full _ rfl _ _ 33 rfl w.heap.size 52 i0 _ 10 Tryd.underlying33 hi0 hz0 hz1 .i64 .i64 _ _ n rfl rfl rfl rfl (by rw [hz2]; omega) (by unfold maxLen; omega) HB.out.size ?_; intro w3 ho hg; have HO := Lib.hid (And.intro ho (grown_none hg)); clear ho hg))
  have hO : OwnH w3 w.heap.size (.slice (some ⟨w2.heap.size, 0, none⟩) n n) (List.replicate n TH.zero) := by
    unfold OwnH
    rw [List.length_replicate, ← made_zeros h0 h16]
    exact HO.out.1
  have HB3 := Lib.hid (HB.out.trans (HO.out.2.mono HB.out.size))
  have HQ3 := Lib.hid (HQ.out.below HO.out.2)
  have HK3 := Lib.hid (HK.out.below HO.out.2)
  have HO3 := Lib.hid hO
  have HG := Lib.hid (show q < w2.heap.size ∧ w.heap.size < w2.heap.size from ⟨HK.out.lt, HQ.out.lt⟩)
  clear hO HO HB HQ HK q1 hn1 hn2 hn3
  generalize w2.heap.size = g at *
  go_wp2_with fail
  go_loopw [27] (fun j wr => ∃ i : Nat, i ≤ n ∧ j = .int .i64 (i : Int) ∧ Hid (Below w.heap.size w wr ∧ Bq w.heap.size 36 [.slice none 0 0, .int .u64 0] wr ∧ Bq q 59 (TKc .nilFunc (n : Int) (rowsS l)) wr ∧ OwnH wr w.heap.size (.slice (some ⟨g, 0, none⟩) n n) (l.take i ++ List.replicate (n - i) TH.zero))) (fun j _ => n - (intOf j).toNat)
  case atStart => exact ⟨0, Nat.zero_le _, rfl, Lib.hid ⟨HB3.out, HQ3.out, HK3.out, HO3.out⟩⟩
  case round =>
    clear HB3 HQ3 HK3 HO3
    obtain ⟨i, hi, rfl, HM⟩ := hrel
    rename World => wr
    have hge : (0 : Int) ≤ (i : Int) := by omega
    by_cases hlt : i < n
    · have hlt' : (i : Int) < (n : Int) := by omega
      have hi16 : (i : Int) < 16 := by omega
      have hrl : (rowsS l).length = 16 := rows_len (by have := HN.out; omega)
      have hri : (rowsS l).getD i TH.zero = l.getD i TH.zero := by
        unfold rowsS
        rw [List.getD_eq_getElem?_getD, List.getElem?_append_left (by have := HN.out; omega), ← List.getD_eq_getElem?_getD]
      have hc : ∀ f, f < 10 → wr.cell? ⟨q, 2 + i * 10 + f, none⟩ = some (.int .u64 ((l.getD i TH.zero).get f)) := fun f hf => by
        rw [tk_cell HM.out.2.2.1 (by omega) hf, hri]
      have x0 := hc 0 (by decide)
      rw [Nat.add_zero] at x0
      have x1 := hc 1 (by decide)
      have x2 := hc 2 (by decide)
      have x3 := hc 3 (by decide)
      have x4 := hc 4 (by decide)
      have x5 := hc 5 (by decide)
      have x6 := hc 6 (by decide)
      have x7 := hc 7 (by decide)
      have x8 := hc 8 (by decide)
      have x9 := hc 9 (by decide)
      have HT := Lib.hid (take_more HN.out hlt)
      generalize hev : l.getD i TH.zero = ev at *
      obtain ⟨a0, a1, a2, a3, a4, a5, a6, a7, a8, a9⟩ := ev
      simp only [TH.get] at x0 x1 x2 x3 x4 x5 x6 x7 x8 x9
      clear hev hrl hri hc
      go_wp2_with fail
      ((with_reducible refine (as_thread a0 a1 a2 a3 a4 a5 a6 a7 a8 a9 wr).mono ?_); rintro e1 w4 ⟨rfl, hb4⟩)
      have HM4 := Lib.hid (show Below w.heap.size w w4 ∧ Bq w.heap.size 36 [.slice none 0 0, .int .u64 0] w4 ∧ Bq q 59 (TKc .nilFunc (n : Int) (rowsS l)) w4 ∧ OwnH w4 w.heap.size (.slice (some ⟨g, 0, none⟩) n n) (l.take i ++ List.replicate (n - i) TH.zero) from ⟨HM.out.1.trans (hb4.mono HM.out.1.size), HM.out.2.1.below hb4, HM.out.2.2.1.below hb4, HM.out.2.2.2.below hb4⟩)
      clear hb4 HM x0 x1 x2 x3 x4 x5 x6 x7 x8 x9
      have hil : i < (l.take i ++ List.replicate (n - i) TH.zero).length := by
        rw [List.length_append, List.length_take, List.length_replicate]
        have := HN.out
        omega
      have hy : ∀ f, f < 10 → w4.cell? ⟨g, i * 10 + f, none⟩ = some (.int .u64 (((l.take i ++ List.replicate (n - i) TH.zero).getD i TH.zero).get f)) := fun f hf => HM4.out.2.2.2.cellAt hil hf
      have y0 := hy 0 (by decide)
      have y1 := hy 1 (by decide)
      have y2 := hy 2 (by decide)
      have y3 := hy 3 (by decide)
      have y4 := hy 4 (by decide)
      have y5 := hy 5 (by decide)
      have y6 := hy 6 (by decide)
      have y7 := hy 7 (by decide)
      have y8 := hy 8 (by decide)
      have y9 := hy 9 (by decide)
      have z0 := HM4.out.2.2.2.free (i * 10)
      have z1 := HM4.out.2.2.2.free (i * 10 + 1)
      have z2 := HM4.out.2.2.2.free (i * 10 + 2)
      have z3 := HM4.out.2.2.2.free (i * 10 + 3)
      have z4 := HM4.out.2.2.2.free (i * 10 + 4)
      have z5 := HM4.out.2.2.2.free (i * 10 + 5)
      have z6 := HM4.out.2.2.2.free (i * 10 + 6)
      have z7 := HM4.out.2.2.2.free (i * 10 + 7)
      have z8 := HM4.out.2.2.2.free (i * 10 + 8)
      have z9 := HM4.out.2.2.2.free (i * 10 + 9)
      have HP := Lib.hid (HM4.out.2.2.2.put (a0 := a0) (a1 := a1) (a2 := a2) (a3 := a3) (a4 := a4) (a5 := a5) (a6 := a6) (a7 := a7) (a8 := a8) (a9 := a9) hil)
      rw [HT.out] at HP
      rw [Nat.add_zero] at y0
      clear hy hil
      have HB5 := Lib.hid (ten_below (g := g) (j := i) (a0 := a0) (a1 := a1) (a2 := a2) (a3 := a3) (a4 := a4) (a5 := a5) (a6 := a6) (a7 := a7) (a8 := a8) (a9 := a9) HM4.out.1 (Nat.le_of_lt HG.out.2))
      have HQ5 := Lib.hid (HM4.out.2.1.same (ten_far (g := g) (j := i) (a0 := a0) (a1 := a1) (a2 := a2) (a3 := a3) (a4 := a4) (a5 := a5) (a6 := a6) (a7 := a7) (a8 := a8) (a9 := a9) (Nat.ne_of_lt HG.out.2)))
      have HK5 := Lib.hid (HM4.out.2.2.1.same (ten_far (g := g) (j := i) (a0 := a0) (a1 := a1) (a2 := a2) (a3 := a3) (a4 := a4) (a5 := a5) (a6 := a6) (a7 := a7) (a8 := a8) (a9 := a9) (Nat.ne_of_lt HG.out.1)))
      unfold tenW at HB5 HQ5 HK5 HP
      go_wp2_with fail
      go_roundw
      case rel => exact ⟨i + 1, by omega, by go_num, Lib.hid ⟨HB5.out, HQ5.out, HK5.out, HP.out⟩⟩
      case measure => simp [intOf]; omega
    · obtain rfl : i = n := by omega
      have hnl : ¬ (i : Int) < (i : Int) := by omega
      have HL := Lib.hid (show l.take i ++ List.replicate (i - i) TH.zero = l by rw [List.take_of_length_le (by have := HN.out; omega), Nat.sub_self]; simp)
      clear hlt
      go_wp2_with (refine wpList_store_put rfl 36 _ _ rfl w.heap.size rfl #[.slice (some ⟨g, 0, none⟩) i i, .int .u64 0] rfl 36 _ HM.out.2.1 (by kernel_rfl) rfl rfl ?_; intro w5 hp)
      refine bodyPost_ret (results_cell Tryd.results13 _ _ _ _ _ _ _ rfl hp.at_ Tryd.underlying36 rfl (by kernel_rfl)) rfl ⟨_, rfl, ?_, hp.below HM.out.1 (Nat.le_refl _)⟩
      have h9 := HM.out.2.2.2
      rw [HL.out] at h9
      refine h9.same fun y hy => hp.far y ?_
      have hyg : g = y := by simpa [Value.ownBlock] using hy
      have := HG.out.2
      omega
end
section
variable {q k : Nat} {fp : List Nat} {s : SG} {w : World}
theorem gotT_all (I : InvS k s) (Q : TRep q fp s w) : Calls Tryd.prog 13 #[.pointer (some ⟨q, 0, none⟩)] w fun e w' => ∃ A, e = .returned (.agg #[.slice A (gotL s).length (gotL s).length, .int .u64 0]) ∧ OwnH w' w.heap.size (.slice A (gotL s).length (gotL s).length) (gotL s) ∧ Below w.heap.size w w' := by
  have B := Q.blk
  by_cases h0 : s.ln = 0
  · rw [show gotL s = s.l from if_pos h0]
    rw [show fnS s = .nilFunc from if_pos h0] at B
    have h16 := I.len
    have hbl : s.bl * 4 = (s.l.length : Int) := by
      cases I with
      | new => simp [SG.new] at h0
      | @first k l bl h1 h4 hl hk hz => simp at h0
      | @next k fd r t bl h1 h4 hl h0' h9 ho hk hz ht => simp at h0
      | @over k l bl h1 h4 hl hk hz => show bl * 4 = (l.length : Int); omega
    rw [hbl] at B
    by_cases hl : s.l.length = 0
    · rw [hl] at B
      refine (gotF_none B).mono ?_
      rintro e w' ⟨rfl, hb⟩
      have hn : s.l = [] := List.length_eq_zero_iff.1 hl
      rw [hn]
      exact ⟨none, rfl, OwnH.nil _ _, hb⟩
    · exact gotF_some rfl (by omega) h16 B
  · rw [show gotL s = [] from if_neg h0]
    have hf : ∃ f i j, fnS s = mvV f i j := by
      rcases fnS_ov s with h | h
      · exfalso
        have := fnS_b s
        rw [h, decide_eq_false h0] at this
        cases this
      · exact h
    obtain ⟨f, i, j, hf⟩ := hf
    rw [hf] at B
    refine (gotF_live B).mono ?_
    rintro e w' ⟨rfl, hb⟩
    exact ⟨none, rfl, OwnH.nil _ _, hb⟩
theorem gotT_nil (w : World) : Calls Tryd.prog 13 #[.pointer none] w fun e w' => ∃ A C, e = .returned (.agg #[.slice A 0 C, .int .u64 0]) ∧ SeeH w' (.slice A 0 C) [] ∧ Below w.heap.size w w' := by
  refine (gotF_nil w).mono ?_
  rintro e w' ⟨rfl, hb⟩
  exact ⟨none, 0, rfl, .inl ⟨rfl, rfl⟩, hb⟩
end
end Go.Proofs.YtapcgikamldchaaDoor
