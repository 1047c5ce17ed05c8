/-
  The program's table of turns, as it is laid, read by its line; a turn held against it; conditions: the table reads as the program lays it; the arguments are numbers of their kinds.
-/
import Derived.Test.YtelehpegnjbcaaaDoorP1
import Derived.Test.YtelehpegnjbcaaaDoorGU1
namespace Go.Proofs.YtelehpegnjbcaaaDoor
open Go.RowKit

def turnsC : Array Value := #[.int .u64 0, .int .u64 1, .int .u64 1, .int .u64 2, .int .u64 2, .int .u64 1, .int .u64 2, .int .u64 0]
def tnC : List (Int × Int) := [(0, 1), (1, 2), (2, 1), (2, 0)]
/-- The table of turns lies in its block. -/
def LayT (w : World) : Prop := ∃ t fr, w.heap[0]? = some (.cells turnsC t fr)
theorem LayT.lt {w : World} (h : LayT w) : 0 < w.heap.size := by
  obtain ⟨t, fr, h⟩ := h
  exact (Array.getElem?_eq_some_iff.1 h).1
theorem LayT.below {w w' : World} {B : Nat} (h : LayT w) (hB : 0 < B) (hb : Below B w w') : LayT w' := by
  obtain ⟨t, fr, h⟩ := h
  exact ⟨t, fr, (hb.block 0 hB).trans h⟩
theorem isz51 : (Tryd.prog.info? 51).map (·.size) = some turnsC.size := by kernel_rfl
theorem isz50 : (Tryd.prog.info? 50).map (·.size) = some 2 := by kernel_rfl
theorem run_turn {k : Nat} (hk : k < 4) (w : World) : (Instr.index 51 (.agg turnsC) (.int .i64 (k : Int))).run Tryd.prog w = .ok (.agg #[.int .u64 (tnC.getD k default).1, .int .u64 (tnC.getD k default).2]) w := by
  match k, hk with
  | 0, _ => simp [Instr.index, run_underlying Tryd.underlying51, asIntOf, go_sem, turnsC, tnC, part, Tryd.isAgg50, Tryd.sizeOf50]
  | 1, _ => simp [Instr.index, run_underlying Tryd.underlying51, asIntOf, go_sem, turnsC, tnC, part, Tryd.isAgg50, Tryd.sizeOf50]
  | 2, _ => simp [Instr.index, run_underlying Tryd.underlying51, asIntOf, go_sem, turnsC, tnC, part, Tryd.isAgg50, Tryd.sizeOf50]
  | 3, _ => simp [Instr.index, run_underlying Tryd.underlying51, asIntOf, go_sem, turnsC, tnC, part, Tryd.isAgg50, Tryd.sizeOf50]
  | k + 4, h => exact absurd h (by omega)
theorem wpList_turn {ops : Array Oper} {rest : List Oper} {o : Oper} {a : Act} {w : World} {Q : Exit → Act → World → Prop} (hgd : o.guard = none) (x y : Operand) (ho : o.op = .index 51 x y)
    (k : Nat) (hk : k < 4) (hx : a.eval x = .agg turnsC) (hy : a.eval y = .int .i64 (k : Int)) (h : wpList Tryd.prog ops Q rest (a.put o.dst (.agg #[.int .u64 (tnC.getD k default).1, .int .u64 (tnC.getD k default).2])) w) : wpList Tryd.prog ops Q (o :: rest) a w := by
  refine wpList_plain hgd fun K hK => ?_
  unfold Oper.wp execOp
  simp only [ho, hx, hy, Sem.run_bind, Sem.run_pure, Result.andThen_ok, run_turn hk w]
  exact hK _ _ h
set_option maxRecDepth 100000 in
theorem eql50 (s g s' g' : Int) (w : World) : (binOp .eql 50 (.agg #[.int .u64 s, .int .u64 g]) (.agg #[.int .u64 s', .int .u64 g'])).run Tryd.prog w = .ok (.bool (decide (s = s' ∧ g = g'))) w := by
  have hS : Tryd.prog.underlying 50 = some (.struct (Tryd.prog.fieldsOf 50)) := by kernel_rfl
  have hp : Tryd.prog.stoodInHeld 50 = false := by kernel_rfl
  have u31 := Tryd.underlying31
  have a31 := Tryd.isAgg31
  have z31 := Tryd.sizeOf31
  rw [run_eql_struct, show (10000 : Nat) = 9999 + 1 from rfl, run_equalIn_agg w 9999 50 _ _ hS hp]
  simp only [Program.fieldsOf, Tryd.underlying50]
  clear hS hp
  go_simp
  by_cases hs : s = s'
  · subst hs
    by_cases hg : g = g'
    · subst hg
      simp
    · simp [hg]
  · simp [hs]
/-- Does the table hold that turn? -/
def inT (s t : Int) : Bool := decide ((s, t) ∈ tnC)
theorem inT_turns {s p t : Int} (h1 : maySeg s p = true) (h2 : maySeg t p = true) : turnsG s p t = inT s t := by
  unfold maySeg at h1 h2
  rw [decide_eq_true_eq] at h1 h2
  unfold turnsG maySeg inT tnC
  rw [decide_eq_true h1, Bool.true_and, decide_eq_decide]
  simp
  omega
theorem inT_no {s p t : Int} (h2 : maySeg t p = false) : turnsG s p t = false := by
  unfold maySeg at h2
  rw [decide_eq_false_iff_not] at h2
  unfold turnsG
  cases h1 : maySeg s p with
  | false => rfl
  | true =>
    unfold maySeg at h1
    rw [decide_eq_true_eq] at h1
    rw [Bool.true_and, decide_eq_false_iff_not]
    omega
theorem tn_mem {k : Nat} (h : k < 4) : tnC.getD k default ∈ tnC := by
  rw [List.getD_eq_getElem?_getD, List.getElem?_eq_getElem (show k < tnC.length from h)]
  exact List.getElem_mem _
theorem tn_of {s t : Int} (h : (s, t) ∈ tnC) : ∃ k, k < 4 ∧ tnC.getD k default = (s, t) := by
  obtain ⟨k, hk, he⟩ := List.mem_iff_getElem.1 h
  exact ⟨k, hk, by rw [List.getD_eq_getElem?_getD, List.getElem?_eq_getElem hk, he]; rfl⟩
set_option maxRecDepth 100000 in
set_option maxHeartbeats 4000000 in
theorem pturns_any (s p t : Int) (w : World) (hL : LayT w) : Calls Tryd.prog 18 #[.int .u64 s, .int .u64 p, .int .u64 t] w fun e w' => e = .returned (.bool (turnsG s p t)) ∧ Below w.heap.size w w' := by
  have HM1 := Lib.hid (pmay_any s p)
  have HM2 := Lib.hid (pmay_any t p)
  cases h1 : maySeg s p with
  | false =>
    have HP := Lib.hid (show turnsG s p t = false by unfold turnsG; rw [h1]; rfl)
    rw [h1] at HM1
    clear h1 HM2 hL
    go_enter Tryd.func18, Tryd.ntmps18
    go_wp2_with fail
    refine (HM1.out w).mono ?_
    rintro e w1 ⟨rfl, rfl⟩
    go_wp2_with fail
    go_ret
    exact ⟨ret_bool HP.out.symm, low_refl _⟩
  | true =>
    cases h2 : maySeg t p with
    | false =>
      have HP := Lib.hid (inT_no (s := s) h2)
      rw [h1] at HM1
      rw [h2] at HM2
      clear h1 h2 hL
      go_enter Tryd.func18, Tryd.ntmps18
      go_wp2_with fail
      refine (HM1.out w).mono ?_
      rintro e w1 ⟨rfl, rfl⟩
      go_wp2_with fail
      refine (HM2.out w).mono ?_
      rintro e w1 ⟨rfl, rfl⟩
      go_wp2_with fail
      go_ret
      exact ⟨ret_bool HP.out.symm, low_refl _⟩
    | true =>
      have HP := Lib.hid (inT_turns h1 h2)
      rw [h1] at HM1
      rw [h2] at HM2
      clear h1 h2
      have HL := Lib.hid hL
      clear hL
      go_enter Tryd.func18, Tryd.ntmps18
      go_wp2_with fail
      refine (HM1.out w).mono ?_
      rintro e w1 ⟨rfl, rfl⟩
      go_wp2_with fail
      refine (HM2.out w).mono ?_
      rintro e w1 ⟨rfl, rfl⟩
      have HB := Lib.hid ((Below.refl w.heap.size w).alloc (Nat.le_refl _) (.cells #[.int .u64 s, .int .u64 t] 50))
      have HW := Lib.hid (heap_alloc_new w (.cells #[.int .u64 s, .int .u64 t] 50))
      obtain ⟨tt, fr, hG⟩ := HL.out.below HL.out.lt (HB.out.mono (by have := HL.out.lt; omega))
      have HG := Lib.hid hG
      clear hG
      go_wp2_with (refine wpList_load_row rfl 51 (.global 0) rfl 0 rfl tt turnsC fr _ HG.out Tryd.underlying51 rfl isz51 ?_)
      go_loopw [24] (fun i wr => ∃ k : Nat, k ≤ 4 ∧ i = .int .i64 (k : Int) ∧ Hid (∀ j : Nat, j < k → tnC.getD j default ≠ (s, t)) ∧ Hid (wr.heap[w.heap.size]? = some (.cells #[.int .u64 s, .int .u64 t] 50 (0, 0))) ∧ Hid (Below w.heap.size w wr)) (fun i _ => 4 - (intOf i).toNat)
      case atStart => exact ⟨0, by omega, rfl, Lib.hid (fun j h => by omega), HW, HB⟩
      case round =>
        obtain ⟨k, hk, rfl, HJ, HQ, HBB⟩ := hrel
        have hk0 : (0 : Int) ≤ (k : Int) := by omega
        by_cases hlt : k < 4
        · have hlt' : (k : Int) < 4 := by omega
          have HLT := Lib.hid hlt
          have HLT' := Lib.hid hlt
          obtain ⟨a, ha⟩ : ∃ a, tnC.getD k default = a := ⟨_, rfl⟩
          obtain ⟨x, y⟩ := a
          have HA := Lib.hid ha
          have HX := Lib.hid (heap_alloc_new wr (.cells #[.int .u64 x, .int .u64 y] 50))
          have HO := Lib.hid ((Below.heap_alloc wr (.cells #[.int .u64 x, .int .u64 y] 50) _ (Array.getElem?_eq_some_iff.1 HQ.out).1).trans HQ.out)
          have HBN := Lib.hid (HBB.out.alloc HBB.out.size (.cells #[.int .u64 x, .int .u64 y] 50))
          have HE := Lib.hid (fun W => eql50 x y s t W)
          by_cases hm : x = s ∧ y = t
          · obtain ⟨rfl, rfl⟩ := hm
            have HT := Lib.hid (show inT x y = true from decide_eq_true (by have := tn_mem hlt; rw [ha] at this; exact this))
            have hEE := HE.out
            simp only [and_self, decide_true] at hEE
            clear ha hlt
            go_wp2_with (first | (refine wpList_turn rfl (.tmp 23) (.tmp 24) rfl k HLT.out rfl rfl ?_; rw [HA.out]) | (refine wpList_load_row rfl 50 (.tmp 9) rfl wr.heap.size rfl 50 _ (0, 0) _ HX.out Tryd.underlying50 rfl isz50 ?_) | (refine wpList_load_row rfl 50 (.tmp 7) rfl w.heap.size rfl 50 _ (0, 0) _ HO.out Tryd.underlying50 rfl isz50 ?_))
            go_ret
            exact ⟨ret_bool (by rw [HP.out, HT.out]), HBN.out⟩
          · have HNE := Lib.hid (show ∀ j : Nat, j < k + 1 → tnC.getD j default ≠ (s, t) from fun j hj => by
              rcases Nat.lt_or_ge j k with h3 | h3
              · exact HJ.out j h3
              · obtain rfl : j = k := by omega
                rw [ha]
                intro h
                injection h with h4 h5
                exact hm ⟨h4, h5⟩)
            have hEE := HE.out
            rw [decide_eq_false hm] at hEE
            clear ha hlt hm
            go_wp2_with (first | (refine wpList_turn rfl (.tmp 23) (.tmp 24) rfl k HLT.out rfl rfl ?_; rw [HA.out]) | (refine wpList_load_row rfl 50 (.tmp 9) rfl wr.heap.size rfl 50 _ (0, 0) _ HX.out Tryd.underlying50 rfl isz50 ?_) | (refine wpList_load_row rfl 50 (.tmp 7) rfl w.heap.size rfl 50 _ (0, 0) _ HO.out Tryd.underlying50 rfl isz50 ?_))
            go_roundw
            case rel => exact ⟨k + 1, by have := HLT.out; omega, by go_num, HNE, HO, HBN⟩
            case measure => have := HLT.out; simp [intOf]; omega
        · have hge : (4 : Int) ≤ (k : Int) := by omega
          have HF := Lib.hid (show inT s t = false from decide_eq_false (fun h => by
            obtain ⟨j, hj, he⟩ := tn_of h
            exact HJ.out j (by omega) he))
          go_wp2_with fail
          go_ret
          exact ⟨ret_bool (by rw [HP.out, HF.out]), HBB.out⟩
end Go.Proofs.YtelehpegnjbcaaaDoor
