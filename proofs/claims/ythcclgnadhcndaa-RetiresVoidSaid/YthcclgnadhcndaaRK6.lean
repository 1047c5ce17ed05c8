/-
  The landed package's list: an entry is added; condition: it lies as it says.
-/
import Derived.Test.YthcclgnadhcndaaRK5
namespace Go.Proofs.Ythcclgnadhcndaa
open Go.RowKit Go.Maps

theorem mapTy : Try.prog.underlying 47 = some (.map 31 57) := Try.underlying47
theorem eqlMapS (b : Nat) (w : World) : (binOp .eql 47 (.map (some b)) (.map none)).run Try.prog w = .ok (.bool false) w := by kernel_rfl
theorem eqlMapN (w : World) : (binOp .eql 47 (.map none) (.map none)).run Try.prog w = .ok (.bool true) w := by kernel_rfl
section
variable {w w' : World} {q b : Nat} {l : List EP} {v v' : Value} {e : EP}
/-- An entry more in its row, its ref in the set already. -/
theorem lay_grow (k : Bq q 49 [v, .map (some b)] w) (row : OwnE w 0 v l) (hm : MapU b (l.length + 1) (e.ref :: l.map EP.ref) w) (ho : w'.ownsRow 0 34 6 v' (l.length + 1) (flatE l ++ e.cells)) (hg : w.grownBy w' v.ownBlock) (_hb : v'.ownBlock = v.ownBlock ∨ v'.ownBlock = some w.heap.size) :
    w'.cell? ⟨q, 0, none⟩ = some v ∧ w'.frozen? ⟨q, 0, none⟩ = false ∧ RLay q v' (some b) (l ++ [e]) (w'.setCell ⟨q, 0, none⟩ v') ∧ Kp (q :: v.ownBlock.toList) w (w'.setCell ⟨q, 0, none⟩ v') := by
  have hne : ∀ x, v.ownBlock = some x → x ≠ q ∧ b ≠ x := fun x hx => by
    obtain ⟨_, cs, j⟩ := row.bq hx
    exact ⟨j.ne k (by decide), hm.ne j⟩
  have k' : Bq q 49 [v, .map (some b)] w' := k.same (hg.block q k.lt fun e => (hne q (Eq.symm e)).1 rfl)
  have far : ∀ y, y ≠ q → (w'.setCell ⟨q, 0, none⟩ v').heap[y]? = w'.heap[y]? := fun y hy => Below.heap_setCell w' ⟨q, 0, none⟩ v' y hy
  have hG : OwnE w' 0 v' (l ++ [e]) := by
    unfold OwnE
    rw [flatE_app, List.length_append, flat_one]
    exact ho
  have hm' : MapU b (l.length + 1) (e.ref :: l.map EP.ref) w' := hm.same (hg.block b hm.lt fun e => (hne b (Eq.symm e)).2 rfl)
  refine ⟨k'.cell 0, k'.free 0, ⟨k'.set 0 v' rfl, hG.same fun x hx => far x fun e => ?_, .inr ⟨b, rfl, ?_⟩⟩, (Kp.grown hg fun x hx => ?_).trans (.setCell _ (by simp) 0 v')⟩
  · obtain ⟨_, cs, j⟩ := hG.bq hx
    exact j.ne k' (by decide) e
  · have hf : MapU b (l.length + 1) (e.ref :: l.map EP.ref) (w'.setCell ⟨q, 0, none⟩ v') := hm'.same (far b (hm.ne k))
    have hp := hf.perm (rs' := (l ++ [e]).map EP.ref) fun r => by simp; exact Or.comm
    rwa [List.length_append]
  · rw [hx]; simp
end
section
variable {w w' : World} {q : Nat} {fp : List Nat} {l : List EP} {v : Value} {m : Option Nat} {bs : List Bool}
set_option maxRecDepth 100000 in
set_option maxHeartbeats 16000000 in
theorem add_lay {A : Option Addr} {n c b : Nat} (h : RLay q (.slice A n c) (some b) l w) (hl : l.length < 1000) (es eg eb ec ed : Int) (ek : Bool) (hk : RP.ok ⟨es, eg, ek⟩) : Calls Try.prog 13 #[.pointer (some ⟨q, 0, none⟩), .agg #[.int .i64 es, .int .u32 eg, .bool ek, .int .u64 eb, .int .u64 ec, .int .u64 ed]] w fun e w' => e = .returned (.int .i64 (addN l ⟨es, eg, ek, eb, ec, ed⟩)) ∧ ∃ v' m', RLay q v' m' (addE l ⟨es, eg, ek, eb, ec, ed⟩) w' ∧ Kp (q :: b :: (Value.slice A n c).ownBlock.toList) w w' ∧ (v'.ownBlock = (Value.slice A n c).ownBlock ∨ ∃ x, v'.ownBlock = some x ∧ w.heap.size ≤ x) ∧ m' = some b := by
  obtain ⟨i0, hi0, hz0, hz1, hz2⟩ := info_parts infoE
  have HN := Lib.hid h.row.see.len
  have hn : n < 1000 := by rw [HN.out]; exact hl
  have hA := (Below.refl w.heap.size w).alloc (Nat.le_refl _) (.cells #[.int .i64 es, .int .u32 eg, .bool ek, .int .u64 eb, .int .u64 ec, .int .u64 ed] 34)
  have HW := Lib.hid h
  have HA := Lib.hid hA
  have HX := Lib.hid (Bq.new w (EP.cells ⟨es, eg, ek, eb, ec, ed⟩) 34)
  have hq0 := h.k.lt
  have hqs := eqlMapS
  have hqn := eqlMapN
  clear h hA
  go_enter Try.func13, Try.ntmps13
  go_wp2_with fail
  ((with_reducible refine (may_all es eg eb ec ed ek _).mono ?_); rintro ee wk ⟨rfl, hbk⟩)
  have HB := Lib.hid (HA.out.trans (hbk.mono HA.out.size))
  have HQ := Lib.hid (HX.out.below hbk)
  clear HA HX hbk
  by_cases ho : okE ⟨es, eg, ek, eb, ec, ed⟩
  · have HO := Lib.hid ho
    rw [decide_eq_true ho]
    clear ho
    have HD := Lib.hid (HW.out.below HB.out)
    have hc := HD.out.k.cell 0
    have hm := HD.out.k.cell 1
    dsimp only [List.getElem?_cons_zero, List.getElem?_cons_succ] at hc hm
    have x0 := HQ.out.cell 0
    have x1 := HQ.out.cell 1
    have x2 := HQ.out.cell 2
    simp only [EP.cells, List.getElem?_cons_zero, List.getElem?_cons_succ] at x0 x1 x2
    have hbA : Below wk.heap.size wk (wk.alloc (.cells #[] 57)) := (Below.refl _ _).alloc (Nat.le_refl _) _
    have hc2 := (HD.out.below hbA).k.cell 0
    have hm2 := (HD.out.below hbA).k.cell 1
    dsimp only [List.getElem?_cons_zero, List.getElem?_cons_succ] at hc2 hm2
    have z0 := (HQ.out.below hbA).cell 0
    have z1 := (HQ.out.below hbA).cell 1
    have z2 := (HQ.out.below hbA).cell 2
    simp only [EP.cells, List.getElem?_cons_zero, List.getElem?_cons_succ] at z0 z1 z2
    have HBA := Lib.hid (HB.out.trans (hbA.drew.mono HB.out.size))
    have HQA := Lib.hid (HQ.out.below hbA.drew)
    have hM : MapU b l.length (l.map EP.ref) wk := by
      rcases HD.out.set with ⟨h1, _⟩ | ⟨b', h1, h2⟩
      · cases h1
      · injection h1 with h1; exact h1 ▸ h2
    have e1 := MapU.look (t := 47) (show MapU b l.length (l.map EP.ref) wk.drew from hM) mapTy hk
    have e2 := MapU.look (t := 47) (show MapU b l.length (l.map EP.ref) (wk.alloc (.cells #[] 57)).drew from hM.below hbA.drew) mapTy hk
    dsimp only [refV] at e1 e2
    have HM := Lib.hid (hM.below hbA.drew)
    clear hM hbA
    by_cases hin : (⟨es, eg, ek⟩ : RP) ∈ l.map EP.ref
    · rw [decide_eq_true hin] at e1 e2
      have HI := Lib.hid (add_same (e := ⟨es, eg, ek, eb, ec, ed⟩) HO.out hin)
      clear hin
      go_upto_region 5 with (fail)
      go_region
      all_goals
        clear x0 x1 x2 z0 z1 z2 hc hm hc2 hm2 e1 e2
        go_wp2_with fail
        go_ret
        rw [HI.out.1, HI.out.2]
        exact ⟨rfl, _, _, HW.out.below HBA.out, .of_below HBA.out, .inl rfl, rfl⟩
    · rw [decide_eq_false hin] at e1 e2
      have HI := Lib.hid (add_yes (e := ⟨es, eg, ek, eb, ec, ed⟩) HO.out hin)
      clear hin
      go_upto_region 5 with (fail)
      go_region
      all_goals
        have HK4 := Lib.hid (HW.out.below HBA.out).k
        have HR4 := Lib.hid (HW.out.below HBA.out).row
        have HP4 := Lib.hid (Kp.of_below (E := q :: b :: (Value.slice A n c).ownBlock.toList) HBA.out)
        clear x0 x1 x2 z0 z1 z2 hc hm hc2 hm2 e1 e2 HBA HB HQ HW HD
        generalize (wk.alloc (.cells #[] 57)).drew = w4 at *
        have hm4 := HK4.out.cell 1
        dsimp only [List.getElem?_cons_zero, List.getElem?_cons_succ] at hm4
        go_upto_region 10 with (fail)
        have t0 := HQA.out.cell 0
        have t1 := HQA.out.cell 1
        have t2 := HQA.out.cell 2
        simp only [EP.cells, List.getElem?_cons_zero, List.getElem?_cons_succ] at t0 t1 t2
        obtain ⟨w5, hrun, hM5, hg5⟩ := MapU.put (t := 47) (show MapU b l.length (l.map EP.ref) w4.drew from HM.out) mapTy (by unfold maxLen; omega) hk
        dsimp only [refV] at hrun
        have HM5 := Lib.hid hM5
        have HK5 := Lib.hid (HK4.out.same (hg5.block q HK4.out.lt fun e => by injection e with e; exact HM.out.ne HK4.out e.symm))
        have HR5 := Lib.hid (HR4.out.same fun x hx => hg5.block x (HR4.out.lt hx) fun e => by
          obtain ⟨_, cs, j⟩ := HR4.out.bq hx
          injection e with e
          exact HM.out.ne j e.symm)
        have HQ5 := Lib.hid (HQA.out.same (hg5.block _ HQA.out.lt fun e => by injection e with e; exact HM.out.ne HQA.out e.symm))
        have hk5 : Kp (q :: b :: (Value.slice A n c).ownBlock.toList) w4.drew w5 := Kp.grown hg5 fun x hx => by simp at hx; simp [hx]
        have HP5 := Lib.hid ((HP4.out.trans (.of_below (Below.refl _ w4).drew)).trans hk5)
        clear hM5 hg5 hk5
        go_region
        clear hrun hm4 t0 t1 t2 HM HK4 HR4 HQA HP4
        have hc5 := HK5.out.cell 0
        dsimp only [List.getElem?_cons_zero, List.getElem?_cons_succ] at hc5
        have x0 := HQ5.out.cell 0
        have x1 := HQ5.out.cell 1
        have x2 := HQ5.out.cell 2
        have x3 := HQ5.out.cell 3
        have x4 := HQ5.out.cell 4
        have x5 := HQ5.out.cell 5
        simp only [EP.cells, List.getElem?_cons_zero, List.getElem?_cons_succ] at x0 x1 x2 x3 x4 x5
        go_upto_region 11 with (fail)
        have hA0 : Below w5.heap.size w5 (w5.alloc (.cells #[.int .i64 es, .int .u32 eg, .bool ek, .int .u64 eb, .int .u64 ec, .int .u64 ed] 34)) := (Below.refl _ _).alloc (Nat.le_refl _) _
        have HKA := Lib.hid (HK5.out.below hA0.drew)
        have HRA := Lib.hid (HR5.out.below hA0.drew)
        have HMA := Lib.hid (HM5.out.below hA0.drew)
        have d1 := (HK5.out.below hA0).cell 0
        dsimp only [List.getElem?_cons_zero] at d1
        have HPA := Lib.hid (HP5.out.trans (.of_below hA0.drew))
        have HNW := Lib.hid (show ∀ j u, (EP.cells ⟨es, eg, ek, eb, ec, ed⟩)[j]? = some u → (w5.alloc (.cells #[.int .i64 es, .int .u32 eg, .bool ek, .int .u64 eb, .int .u64 ec, .int .u64 ed] 34)).drew.cell? ((⟨w5.heap.size, 0, none⟩ : Addr).add j) = some u from row_see w5 ⟨es, eg, ek, eb, ec, ed⟩)
        have HONE := Lib.hid (one_cell ⟨es, eg, ek, eb, ec, ed⟩)
        have HROW : ∀ X : World, OwnE X 0 (.slice A n c) l → X.ownsRow 0 34 6 (.slice A n c) n (flatE l) := fun X h => by
          have := HN.out
          unfold OwnE at h
          rwa [← this] at h
        have HROW := Lib.hid HROW
        clear hA0
        go_region_law ((refine step_append_at _ rfl (.tmp 44) (.tmp 46) 26 rfl 0 34 i0 _ 6 40 Try.underlying26 hi0 hz0 hz1 hz2 rfl (by decide) (.slice A n c) n (flatE l) (by simp [Act.eval]) (HROW.out _ HRA.out) ⟨w5.heap.size, 0, none⟩ 1 1 (EP.cells ⟨es, eg, ek, eb, ec, ed⟩) (by simp [Act.eval]) rfl HNW.out HONE.out (by unfold maxLen; omega) (by omega) (Nat.zero_le _) ?_; intro v' w6 hr6 hg6 hb6; obtain ⟨A6, k6, rfl⟩ := ownsRow_form hr6; obtain ⟨k1, z1, hO6, hK6⟩ := lay_grow (l := l) (e := ⟨es, eg, ek, eb, ec, ed⟩) HKA.out HRA.out HMA.out (by have := HN.out; rw [← this]; exact hr6) hg6 hb6; have HB6 := Lib.hid hb6; have HO6 := Lib.hid hO6; have HK6 := Lib.hid hK6; clear hr6 hg6 hb6 hO6 hK6))
        all_goals
          go_wp2_with fail
          go_ret
          rw [HI.out.1, HI.out.2]
          refine ⟨rfl, _, _, HO6.out, (HPA.out.trans (HK6.out.more fun x hx => by simp at hx ⊢; rcases hx with hx | hx <;> simp [hx])), ?_, rfl⟩
          rcases HB6.out with k | k
          · exact .inl k
          · exact .inr ⟨_, k, HPA.out.size⟩
  · have hadd := add_arg (l := l) ho
    rw [decide_eq_false ho]
    have HADD := Lib.hid hadd
    clear hadd ho
    go_wp2_with fail
    go_ret
    rw [HADD.out.1, HADD.out.2]
    exact ⟨rfl, _, _, HW.out.below HB.out, .of_below HB.out, .inl rfl, rfl⟩
set_option maxRecDepth 100000 in
set_option maxHeartbeats 16000000 in
theorem add_none {A : Option Addr} {n c : Nat} (h : RLay q (.slice A n c) none [] w) (es eg eb ec ed : Int) (ek : Bool) (hk : RP.ok ⟨es, eg, ek⟩) : Calls Try.prog 13 #[.pointer (some ⟨q, 0, none⟩), .agg #[.int .i64 es, .int .u32 eg, .bool ek, .int .u64 eb, .int .u64 ec, .int .u64 ed]] w fun e w' => e = .returned (.int .i64 (addN [] ⟨es, eg, ek, eb, ec, ed⟩)) ∧ ∃ v' m', RLay q v' m' (addE [] ⟨es, eg, ek, eb, ec, ed⟩) w' ∧ Kp (q :: (Value.slice A n c).ownBlock.toList) w w' ∧ (v'.ownBlock = (Value.slice A n c).ownBlock ∨ ∃ x, v'.ownBlock = some x ∧ w.heap.size ≤ x) ∧ (m' = none ∨ ∃ x, m' = some x ∧ w.heap.size ≤ x) := by
  obtain ⟨i0, hi0, hz0, hz1, hz2⟩ := info_parts infoE
  have HN := Lib.hid h.row.see.len
  have hn : n < 1000 := by rw [HN.out]; simp
  have hA := (Below.refl w.heap.size w).alloc (Nat.le_refl _) (.cells #[.int .i64 es, .int .u32 eg, .bool ek, .int .u64 eb, .int .u64 ec, .int .u64 ed] 34)
  have HW := Lib.hid h
  have HA := Lib.hid hA
  have HX := Lib.hid (Bq.new w (EP.cells ⟨es, eg, ek, eb, ec, ed⟩) 34)
  have hq0 := h.k.lt
  have hqs := eqlMapS
  have hqn := eqlMapN
  clear h hA
  go_enter Try.func13, Try.ntmps13
  go_wp2_with fail
  ((with_reducible refine (may_all es eg eb ec ed ek _).mono ?_); rintro ee wk ⟨rfl, hbk⟩)
  have HB := Lib.hid (HA.out.trans (hbk.mono HA.out.size))
  have HQ := Lib.hid (HX.out.below hbk)
  clear HA HX hbk
  by_cases ho : okE ⟨es, eg, ek, eb, ec, ed⟩
  · have HO := Lib.hid ho
    rw [decide_eq_true ho]
    clear ho
    have HD := Lib.hid (HW.out.below HB.out)
    have hc := HD.out.k.cell 0
    have hm := HD.out.k.cell 1
    dsimp only [List.getElem?_cons_zero, List.getElem?_cons_succ] at hc hm
    have x0 := HQ.out.cell 0
    have x1 := HQ.out.cell 1
    have x2 := HQ.out.cell 2
    simp only [EP.cells, List.getElem?_cons_zero, List.getElem?_cons_succ] at x0 x1 x2
    have hbA : Below wk.heap.size wk (wk.alloc (.cells #[] 57)) := (Below.refl _ _).alloc (Nat.le_refl _) _
    have hc2 := (HD.out.below hbA).k.cell 0
    have hm2 := (HD.out.below hbA).k.cell 1
    dsimp only [List.getElem?_cons_zero, List.getElem?_cons_succ] at hc2 hm2
    have z0 := (HQ.out.below hbA).cell 0
    have z1 := (HQ.out.below hbA).cell 1
    have z2 := (HQ.out.below hbA).cell 2
    simp only [EP.cells, List.getElem?_cons_zero, List.getElem?_cons_succ] at z0 z1 z2
    have HBA := Lib.hid (HB.out.trans (hbA.drew.mono HB.out.size))
    have HQA := Lib.hid (HQ.out.below hbA.drew)
    have e1 := look_none (t := 47) mapTy hk
    dsimp only [refV] at e1
    clear hbA
    have HI := Lib.hid (add_yes (l := []) (e := ⟨es, eg, ek, eb, ec, ed⟩) HO.out (by simp))
    go_upto_region 5 with (fail)
    go_region
    all_goals
      have HKY := Lib.hid (HW.out.below HBA.out).k
      have HRY := Lib.hid (HW.out.below HBA.out).row
      have HYW := Lib.hid HBA.out
      clear x0 x1 x2 z0 z1 z2 hc hm hc2 hm2 e1 HBA HB HQ HD
      generalize (wk.alloc (.cells #[] 57)).drew = wy at *
      have hmy := HKY.out.cell 1
      have hzy := HKY.out.free 1
      dsimp only [List.getElem?_cons_zero, List.getElem?_cons_succ] at hmy
      have hmm := @run_makeMap Try.prog
      have hbM : Below wy.heap.size wy (wy.alloc (.map #[] 0)) := (Below.refl _ _).alloc (Nat.le_refl _) _
      have far : ∀ y, y ≠ q → ((wy.alloc (.map #[] 0)).setCell ⟨q, 1, none⟩ (.map (some wy.heap.size))).heap[y]? = (wy.alloc (.map #[] 0)).heap[y]? := fun y hy => Below.heap_setCell _ ⟨q, 1, none⟩ _ y hy
      have kM := HKY.out.below hbM
      have hM0 : MapU wy.heap.size 0 [] ((wy.alloc (.map #[] 0)).setCell ⟨q, 1, none⟩ (.map (some wy.heap.size))) := (MapU.made wy).same (far _ (fun e => by have := HKY.out.lt; omega))
      have HM := Lib.hid hM0
      have HK4 := Lib.hid (show Bq q 49 [.slice A n c, .map (some wy.heap.size)] _ from kM.set 1 (.map (some wy.heap.size)) rfl)
      have hQn : w.heap.size ≠ q := by omega
      have HQA := Lib.hid ((HQA.out.below hbM).same (far _ hQn))
      have HR4 := Lib.hid ((HRY.out.below hbM).same fun x hx => far x ((HW.out).ne hx))
      have HP4 := Lib.hid ((Kp.of_below (E := q :: (Value.slice A n c).ownBlock.toList) (HYW.out.trans (hbM.mono HYW.out.size))).trans (.setCell (q := q) _ (by simp) 1 (.map (some wy.heap.size))))
      have hmz : (wy.alloc (.map #[] 0)).cell? ⟨q, 1, none⟩ = some (.map none) := by
        have := kM.cell 1
        simpa using this
      have hmf := kM.free 1
      have hWY := HYW.out.size
      clear hbM kM far hM0 hQn HRY
      go_upto_region 10 with (fail)
      clear hmy hzy hmm hmz hmf HKY HYW HW
      generalize hB9 : wy.heap.size = b at *
      generalize ((wy.alloc (.map #[] 0)).setCell ⟨q, 1, none⟩ (.map (some b))) = w4 at *
      clear hB9
      have hm4 := HK4.out.cell 1
      dsimp only [List.getElem?_cons_zero, List.getElem?_cons_succ] at hm4
      have t0 := HQA.out.cell 0
      have t1 := HQA.out.cell 1
      have t2 := HQA.out.cell 2
      simp only [EP.cells, List.getElem?_cons_zero, List.getElem?_cons_succ] at t0 t1 t2
      obtain ⟨w5, hrun, hM5, hg5⟩ := MapU.put (t := 47) (show MapU b 0 ([].map EP.ref) w4.drew from HM.out) mapTy (by unfold maxLen; omega) hk
      dsimp only [refV] at hrun
      have HM5 := Lib.hid hM5
      have HK5 := Lib.hid (HK4.out.same (hg5.block q HK4.out.lt fun e => by injection e with e; exact HM.out.ne HK4.out e.symm))
      have HR5 := Lib.hid (HR4.out.same fun x hx => hg5.block x (HR4.out.lt hx) fun e => by
        obtain ⟨_, cs, j⟩ := HR4.out.bq hx
        injection e with e
        exact HM.out.ne j e.symm)
      have HQ5 := Lib.hid (HQA.out.same (hg5.block _ HQA.out.lt fun e => by injection e with e; exact HM.out.ne HQA.out e.symm))
      have hk5 : Kp (q :: b :: (Value.slice A n c).ownBlock.toList) w4.drew w5 := Kp.grown hg5 fun x hx => by simp at hx; simp [hx]
      have HP5 := Lib.hid ((HP4.out.trans (.of_below (Below.refl _ w4).drew)).then hk5 fun x hx => by simp at hx ⊢; rcases hx with hx | hx | hx <;> simp [hx, hWY])
      clear hM5 hg5 hk5
      go_region
      clear hrun hm4 t0 t1 t2 HM HK4 HR4 HQA HP4
      have hc5 := HK5.out.cell 0
      dsimp only [List.getElem?_cons_zero, List.getElem?_cons_succ] at hc5
      have x0 := HQ5.out.cell 0
      have x1 := HQ5.out.cell 1
      have x2 := HQ5.out.cell 2
      have x3 := HQ5.out.cell 3
      have x4 := HQ5.out.cell 4
      have x5 := HQ5.out.cell 5
      simp only [EP.cells, List.getElem?_cons_zero, List.getElem?_cons_succ] at x0 x1 x2 x3 x4 x5
      go_upto_region 11 with (fail)
      have hA0 : Below w5.heap.size w5 (w5.alloc (.cells #[.int .i64 es, .int .u32 eg, .bool ek, .int .u64 eb, .int .u64 ec, .int .u64 ed] 34)) := (Below.refl _ _).alloc (Nat.le_refl _) _
      have HKA := Lib.hid (HK5.out.below hA0.drew)
      have HRA := Lib.hid (HR5.out.below hA0.drew)
      have HMA := Lib.hid (HM5.out.below hA0.drew)
      have d1 := (HK5.out.below hA0).cell 0
      dsimp only [List.getElem?_cons_zero] at d1
      have HPA := Lib.hid (HP5.out.trans (.of_below hA0.drew))
      have HNW := Lib.hid (show ∀ j u, (EP.cells ⟨es, eg, ek, eb, ec, ed⟩)[j]? = some u → (w5.alloc (.cells #[.int .i64 es, .int .u32 eg, .bool ek, .int .u64 eb, .int .u64 ec, .int .u64 ed] 34)).drew.cell? ((⟨w5.heap.size, 0, none⟩ : Addr).add j) = some u from row_see w5 ⟨es, eg, ek, eb, ec, ed⟩)
      have HONE := Lib.hid (one_cell ⟨es, eg, ek, eb, ec, ed⟩)
      have HROW : ∀ X : World, OwnE X 0 (.slice A n c) [] → X.ownsRow 0 34 6 (.slice A n c) n (flatE []) := fun X h => by
        have := HN.out
        unfold OwnE at h
        rwa [← this] at h
      have HROW := Lib.hid HROW
      clear hA0
      go_region_law ((refine step_append_at _ rfl (.tmp 44) (.tmp 46) 26 rfl 0 34 i0 _ 6 40 Try.underlying26 hi0 hz0 hz1 hz2 rfl (by decide) (.slice A n c) n (flatE []) (by simp [Act.eval]) (HROW.out _ HRA.out) ⟨w5.heap.size, 0, none⟩ 1 1 (EP.cells ⟨es, eg, ek, eb, ec, ed⟩) (by simp [Act.eval]) rfl HNW.out HONE.out (by unfold maxLen; omega) (by omega) (Nat.zero_le _) ?_; intro v' w6 hr6 hg6 hb6; obtain ⟨A6, k6, rfl⟩ := ownsRow_form hr6; obtain ⟨k1, z1, hO6, hK6⟩ := lay_grow (l := []) (e := ⟨es, eg, ek, eb, ec, ed⟩) HKA.out HRA.out HMA.out (by have := HN.out; rw [← this]; exact hr6) hg6 hb6; have HB6 := Lib.hid hb6; have HO6 := Lib.hid hO6; have HK6 := Lib.hid hK6; clear hr6 hg6 hb6 hO6 hK6))
      all_goals
        go_wp2_with fail
        go_ret
        rw [HI.out.1, HI.out.2]
        refine ⟨rfl, _, _, HO6.out, (HPA.out.trans HK6.out), ?_, .inr ⟨_, rfl, hWY⟩⟩
        rcases HB6.out with k | k
        · exact .inl k
        · exact .inr ⟨_, k, HPA.out.size⟩
  · have hadd := add_arg (l := []) ho
    rw [decide_eq_false ho]
    have HADD := Lib.hid hadd
    clear hadd ho
    go_wp2_with fail
    go_ret
    rw [HADD.out.1, HADD.out.2]
    exact ⟨rfl, _, _, HW.out.below HB.out, .of_below HB.out, .inl rfl, .inl rfl⟩
end
end Go.Proofs.Ythcclgnadhcndaa
