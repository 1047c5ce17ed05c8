/-
  An entry is added to the document's list; condition: it lies as it says.
-/
import Derived.Test.YthcclgnadhcndaaRD1
namespace Go.Proofs.Ythcclgnadhcndaa
open Go.RowKit Go.Maps

set_option maxRecDepth 100000 in
set_option maxHeartbeats 4000000 in
theorem eql_ref (s g s' g' : Int) (k k' : Bool) (w : World) : (binOp .eql 31 (.agg #[.int .i64 s, .int .u32 g, .bool k]) (.agg #[.int .i64 s', .int .u32 g', .bool k'])).run Try.prog w = .ok (.bool (decide ((⟨s, g, k⟩ : RP) = ⟨s', g', k'⟩))) w := by
  have hS : Try.prog.underlying 31 = some (.struct (Try.prog.fieldsOf 31)) := by kernel_rfl
  have hp : Try.prog.stoodInHeld 31 = false := by kernel_rfl
  have ua := Try.underlying3
  have va := Try.isAgg3
  have za := Try.sizeOf3
  have ub := Try.underlying4
  have vb := Try.isAgg4
  have zb := Try.sizeOf4
  have uc := Try.underlying29
  have vc := Try.isAgg29
  have zc := Try.sizeOf29
  rw [run_eql_struct, show (10000 : Nat) = 9999 + 1 from rfl, run_equalIn_agg w 9999 31 _ _ hS hp]
  simp only [Program.fieldsOf, Try.underlying31]
  clear hS hp
  go_simp
  by_cases h0 : s = s'
  · subst h0
    by_cases h1 : g = g'
    · subst h1
      by_cases h2 : k = k'
      · subst h2
        simp
      · simp [h2]
    · simp [h1]
  · simp [h0]
section
variable {w w' : World} {B K : Nat} {v v' : Value} {l : List EP}
/-- An entry more in its row. -/
theorem DL.grow {e : EP} (h : DL B K v l w) (ho : w'.ownsRow B 34 6 v' (l.length + 1) (flatE l ++ e.cells)) (hg : w.grownBy w' v.ownBlock) (_hb : v'.ownBlock = v.ownBlock ∨ v'.ownBlock = some w.heap.size) :
    w'.cell? ⟨K, 0, none⟩ = some v ∧ w'.frozen? ⟨K, 0, none⟩ = false ∧ DL B K v' (l ++ [e]) (w'.setCell ⟨K, 0, none⟩ v') ∧ Kp (K :: v.ownBlock.toList) w (w'.setCell ⟨K, 0, none⟩ v') := by
  have k' : Bq K 28 [v] w' := h.k.same (hg.block K h.k.lt fun e => h.ne (Eq.symm e) rfl)
  have far : ∀ y, y ≠ K → (w'.setCell ⟨K, 0, none⟩ v').heap[y]? = w'.heap[y]? := fun y hy => Below.heap_setCell w' ⟨K, 0, none⟩ v' y hy
  have hG : OwnE w' B v' (l ++ [e]) := by
    unfold OwnE
    rw [flatE_app, List.length_append, flat_one]
    exact ho
  refine ⟨k'.cell 0, k'.free 0, ⟨k'.set 0 v' rfl, hG.same fun x hx => far x fun e => ?_⟩, (Kp.grown hg fun x hx => ?_).trans (.setCell _ (by simp) 0 v')⟩
  · obtain ⟨_, cs, k⟩ := hG.bq hx
    exact k.ne k' (by decide) e
  · rw [hx]; simp
set_option maxRecDepth 100000 in
set_option maxHeartbeats 16000000 in
theorem docAdd {A : Option Addr} {n c : Nat} (h : DL B K (.slice A n c) l w) (hB : B ≤ w.heap.size) (hn : n < 1000) (es eg eb ec ed : Int) (ek : Bool) : Calls Try.prog 14 #[.pointer (some ⟨K, 0, none⟩), .agg #[.int .i64 es, .int .u32 eg, .bool ek, .int .u64 eb, .int .u64 ec, .int .u64 ed]] w fun e w' => e = .returned (.int .i64 (addN l ⟨es, eg, ek, eb, ec, ed⟩)) ∧ ∃ v', DL B K v' (addE l ⟨es, eg, ek, eb, ec, ed⟩) w' ∧ Kp (K :: (Value.slice A n c).ownBlock.toList) w w' ∧ (v'.ownBlock = (Value.slice A n c).ownBlock ∨ ∃ x, v'.ownBlock = some x ∧ w.heap.size ≤ x) := by
  obtain ⟨i0, hi0, hz0, hz1, hz2⟩ := info_parts infoE
  have HN := Lib.hid h.row.see.len
  have hA := (Below.refl w.heap.size w).alloc (Nat.le_refl _) (.cells #[.int .i64 es, .int .u32 eg, .bool ek, .int .u64 eb, .int .u64 ec, .int .u64 ed] 34)
  have HW := Lib.hid h
  have HA := Lib.hid hA
  have HX := Lib.hid (Bq.new w (EP.cells ⟨es, eg, ek, eb, ec, ed⟩) 34)
  clear h hA
  go_enter Try.func14, Try.ntmps14
  go_wp2_with fail
  ((with_reducible refine (docMay es eg eb ec ed ek _).mono ?_); rintro ee wk ⟨rfl, hbk⟩)
  have HB := Lib.hid (HA.out.trans (hbk.mono HA.out.size))
  have HQ := Lib.hid (HX.out.below hbk)
  clear HA HX hbk
  by_cases ho : okE ⟨es, eg, ek, eb, ec, ed⟩
  · have HO := Lib.hid ho
    rw [decide_eq_true ho]
    clear ho
    go_wp2_with fail
    go_loopw [5] (fun j wr => ∃ i : Nat, i ≤ n ∧ j = .int .i64 (i : Int) ∧ Hid (Below wk.heap.size wk wr ∧ ∀ x ∈ l.take i, x.ref ≠ ⟨es, eg, ek⟩)) (fun j _ => n - (intOf j).toNat)
    case atStart => exact ⟨0, Nat.zero_le _, rfl, Lib.hid ⟨Below.refl _ _, by simp⟩⟩
    case round =>
      obtain ⟨i, hi, rfl, HR⟩ := hrel
      rename World => wr
      have hge : (0 : Int) ≤ (i : Int) := by omega
      have HBR := Lib.hid (HB.out.trans (HR.out.1.mono HB.out.size))
      have HD := Lib.hid (HW.out.below HBR.out)
      have HQR := Lib.hid (HQ.out.below HR.out.1)
      have hc := HD.out.k.cell 0
      dsimp only [List.getElem?_cons_zero] at hc
      by_cases hlt : i < n
      · have hlt' : (i : Int) < (n : Int) := by omega
        have hig : i < l.length := by have := HN.out; omega
        obtain ⟨hc0, hc1, g1, o1, rfl⟩ := HD.out.row.see.addr (by omega)
        obtain ⟨y0, y1, y2, _, _, _⟩ := HD.out.row.see.six hig
        have x0 := HQR.out.cell 0
        have x1 := HQR.out.cell 1
        have x2 := HQR.out.cell 2
        simp only [EP.cells, List.getElem?_cons_zero, List.getElem?_cons_succ] at x0 x1 x2
        have HT := Lib.hid (take_next hig)
        have HM : l.getD i EP.zero ∈ l := by
          rw [List.getD_eq_getElem?_getD, List.getElem?_eq_getElem hig]
          exact List.getElem_mem _
        generalize hev : l.getD i EP.zero = ev at *
        obtain ⟨zs, zg, zk, zb, zc, zd⟩ := ev
        dsimp only at y0 y1 y2
        have HM := Lib.hid HM
        clear hev
        have hq := eql_ref zs zg es eg zk ek
        by_cases he : (⟨zs, zg, zk⟩ : RP) = ⟨es, eg, ek⟩
        · rw [decide_eq_true he] at hq
          have HE := Lib.hid he
          clear he
          go_wp2_with fail
          go_quiet (fail)
          have hbn := Lib.hid (HBR.out.trans ((below_drewN' (Below.refl _ wr) nq).mono HBR.out.size))
          clear hq x0 x1 x2 y0 y1 y2 hc
          go_wp2_with fail
          go_ret
          obtain ⟨h1, h2⟩ := add_same (l := l) HO.out (List.mem_map.2 ⟨_, HM.out, HE.out⟩)
          rw [h1, h2]
          exact ⟨rfl, _, HW.out.below hbn.out, .of_below hbn.out, .inl rfl⟩
        · rw [decide_eq_false he] at hq
          have HE := Lib.hid he
          clear he
          go_wp2_with fail
          go_quiet (fail)
          have hbn := Lib.hid (HR.out.1.trans ((below_drewN' (Below.refl _ wr) nq).mono HR.out.1.size))
          clear hq x0 x1 x2 y0 y1 y2 hc
          go_wp2_with fail
          go_roundw
          case rel => exact ⟨i + 1, by omega, by go_num, Lib.hid ⟨hbn.out, fun x hx => by
            rw [HT.out, List.mem_append, List.mem_singleton] at hx
            rcases hx with hx | rfl
            · exact HR.out.2 x hx
            · exact HE.out⟩⟩
          case measure => simp [intOf]; omega
      · have hin : i = n := by omega
        have hnl : ¬ (i : Int) < (n : Int) := by omega
        have hno : (⟨es, eg, ek, eb, ec, ed⟩ : EP).ref ∉ l.map EP.ref := fun h => by
          obtain ⟨x, hx, hxe⟩ := List.mem_map.1 h
          have : l.take i = l := List.take_of_length_le (by have := HN.out; omega)
          exact HR.out.2 x (this.symm ▸ hx) hxe
        have HNO := Lib.hid (add_yes HO.out hno)
        have x0 := HQR.out.cell 0
        have x1 := HQR.out.cell 1
        have x2 := HQR.out.cell 2
        have x3 := HQR.out.cell 3
        have x4 := HQR.out.cell 4
        have x5 := HQR.out.cell 5
        simp only [EP.cells, List.getElem?_cons_zero, List.getElem?_cons_succ] at x0 x1 x2 x3 x4 x5
        clear hin hno HR HQR HQ HB HO
        go_upto_region 8 with (fail)
        have hA0 : Below wr.heap.size wr (wr.alloc (.cells #[.int .i64 es, .int .u32 eg, .bool ek, .int .u64 eb, .int .u64 ec, .int .u64 ed] 34)) := (Below.refl _ _).alloc (Nat.le_refl _) _
        have HOA := Lib.hid (HD.out.below hA0.drew)
        have d1 := (HD.out.below hA0).k.cell 0
        have HBA := Lib.hid (HBR.out.trans (hA0.drew.mono HBR.out.size))
        dsimp only [List.getElem?_cons_zero] at d1
        have HNW := Lib.hid (show ∀ j u, (EP.cells ⟨es, eg, ek, eb, ec, ed⟩)[j]? = some u → (wr.alloc (.cells #[.int .i64 es, .int .u32 eg, .bool ek, .int .u64 eb, .int .u64 ec, .int .u64 ed] 34)).drew.cell? ((⟨wr.heap.size, 0, none⟩ : Addr).add j) = some u from row_see wr ⟨es, eg, ek, eb, ec, ed⟩)
        have HONE := Lib.hid (one_cell ⟨es, eg, ek, eb, ec, ed⟩)
        have HROW : ∀ X : World, OwnE X B (.slice A n c) l → X.ownsRow B 34 6 (.slice A n c) n (flatE l) := fun X h => by
          have := HN.out
          unfold OwnE at h
          rwa [← this] at h
        have HROW := Lib.hid HROW
        have hYB : B ≤ (wr.alloc (.cells #[.int .i64 es, .int .u32 eg, .bool ek, .int .u64 eb, .int .u64 ec, .int .u64 ed] 34)).drew.heap.size := Nat.le_trans hB HBA.out.size
        clear hA0
        go_region_law ((refine step_append_at _ rfl (.tmp 33) (.tmp 35) 26 rfl B 34 i0 _ 6 40 Try.underlying26 hi0 hz0 hz1 hz2 rfl (by decide) (.slice A n c) n (flatE l) (by simp [Act.eval]) (HROW.out _ HOA.out.row) ⟨wr.heap.size, 0, none⟩ 1 1 (EP.cells ⟨es, eg, ek, eb, ec, ed⟩) (by simp [Act.eval]) rfl HNW.out HONE.out (by unfold maxLen; omega) (by omega) hYB ?_; intro v' w6 hr6 hg6 hb6; obtain ⟨A6, k6, rfl⟩ := ownsRow_form hr6; obtain ⟨k1, z1, hO6, hK6⟩ := HOA.out.grow (by have := HN.out; rw [← this]; exact hr6) hg6 hb6; have HB6 := Lib.hid hb6; have HO6 := Lib.hid hO6; have HK6 := Lib.hid hK6; clear hr6 hg6 hb6 hO6 hK6))
        all_goals
          go_wp2_with fail
          go_ret
          rw [HNO.out.1, HNO.out.2]
          refine ⟨rfl, _, HO6.out, (Kp.of_below HBA.out).trans HK6.out, ?_⟩
          rcases HB6.out with k | k
          · exact .inl k
          · exact .inr ⟨_, k, HBA.out.size⟩
  · have hadd := add_arg (l := l) ho
    rw [decide_eq_false ho]
    have HADD := Lib.hid hadd
    clear hadd ho
    go_wp2_with fail
    go_ret
    rw [HADD.out.1, HADD.out.2]
    exact ⟨rfl, _, HW.out.below HB.out, .of_below HB.out, .inl rfl⟩
end
end Go.Proofs.Ythcclgnadhcndaa
