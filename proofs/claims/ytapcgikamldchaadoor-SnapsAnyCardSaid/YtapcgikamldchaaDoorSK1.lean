/-
  Package snaps, line by line: a word read and kept, a thread begun and ended, an owner's word, another word, how many blocks; condition: the taker and the memory lie as they say.
-/
import Derived.Test.YtapcgikamldchaaDoorSK0
import Derived.BigQuiet
import Derived.Deep.DeepCutAuto
import Derived.Deep.RegionHeld3
import Derived.StillTailTactics
import Derived.Outline
namespace Go.Proofs.YtapcgikamldchaaDoor
open Go.RowKit Go.Maps

section
variable {q p b i j : Nat} {w w' : World} {f : Value} {n v : Int} {g : List TH} {M : MV}
theorem tk_cell (h : Bq q 59 (TKc f n g) w) (hi : i < g.length) (hj : j < 10) : w.cell? ⟨q, 2 + i * 10 + j, none⟩ = some (.int .u64 ((g.getD i TH.zero).get j)) := by
  rw [h.cell, show 2 + i * 10 + j = (i * 10 + j) + 1 + 1 by omega]
  unfold TKc
  rw [List.getElem?_cons_succ, List.getElem?_cons_succ, flatH_at g i j hi hj, TH.cells_get _ hj]
theorem tk_set (h : Bq q 59 (TKc f n g) w) (hi : i < g.length) (hj : j < 10) : Bq q 59 (TKc f n (g.set i ((g.getD i TH.zero).set j v))) (w.setCell ⟨q, 2 + i * 10 + j, none⟩ (.int .u64 v)) := by
  refine h.set _ _ ?_
  rw [show 2 + i * 10 + j = (i * 10 + j) + 1 + 1 by omega]
  unfold TKc
  rw [List.set_cons_succ, List.set_cons_succ, flatH_set g i j v hi hj]
/-- What a load leaves. -/
def LdP (q p b i j : Nat) (f : Value) (n : Int) (g : List TH) (M : MV) (w : World) (w' : World) : Prop :=
  Bq q 59 (TKc f n (g.set i ((g.getD i TH.zero).set j (M.V (adT (i : Int) (j : Int)))))) w' ∧ VX p b (ldM M (adT (i : Int) (j : Int))) w' ∧ Onl p b [q] w w'
set_option maxRecDepth 100000 in
set_option maxHeartbeats 4000000 in
theorem loadF (hi : i < 16) (hj : j < 10) (hg : g.length = 16) (hq : 0 < q) (F : VX p b M w) (hs : M.s.st < 1000000) (h : Bq q 59 (TKc f n g) w) :
    Calls Tryd.prog 53 #[.agg #[.int .i64 (i : Int), .int .i64 (j : Int)], .pointer (some ⟨q, 0, none⟩), .pointer (some ⟨p, 0, none⟩)] w fun e w' => e = .returned (.int .u64 (M.V (adT (i : Int) (j : Int)))) ∧ LdP q p b i j f n g M w w' := by
  have hA : Below w.heap.size w (w.alloc (.cells #[.int .i64 (i : Int), .int .i64 (j : Int)] 82)) := (Below.refl _ w).alloc (Nat.le_refl _) _
  have HT := Lib.hid (Bq.new w [.int .i64 (i : Int), .int .i64 (j : Int)] 82)
  have HK := Lib.hid (h.below hA)
  have HF := Lib.hid (F.below hA)
  have HB := Lib.hid (show Onl p b [q] w (w.alloc (.cells #[.int .i64 (i : Int), .int .i64 (j : Int)] 82)) from Onl.of_below hA)
  have hne : w.heap.size ≠ q := Nat.ne_of_gt h.lt
  have hne' : q ≠ w.heap.size := fun e => hne e.symm
  have hn := F.ne (by decide) h
  have HN := Lib.hid hn
  have HQ := Lib.hid hq
  have HG := Lib.hid hg
  clear hn hq hg hA
  go_enter Tryd.func53, Tryd.ntmps53
  go_upto_region 1 with (fail)
  revert HT HK HF HB hne hne'
  generalize (w.alloc (.cells #[.int .i64 (i : Int), .int .i64 (j : Int)] 82)) = w1
  have hz : ∃ z, z = w.heap.size := ⟨_, rfl⟩
  obtain ⟨z, hz⟩ := hz
  rw [← hz]
  intro HT HK HF HB hne hne'
  clear hz
  have c0 : w1.cell? ⟨z, 0, none⟩ = some (.int .i64 (i : Int)) := HT.out.cell 0
  have c1 : w1.cell? ⟨z, 1, none⟩ = some (.int .i64 (j : Int)) := HT.out.cell 1
  clear h F
  go_wp2_with fail
  obtain ⟨ak, aa, af⟩ := adT_at (t := (i : Int)) (f := (j : Int)) (by omega) (by omega)
  have hL := HF.out.load hs (adT (i : Int) (j : Int))
  rw [ak, aa, af] at hL
  clear ak aa af
  (with_reducible refine hL.mono ?_)
  clear hL
  rintro e1 w2 ⟨rfl, F1, O1⟩
  have hzp := HF.out.ne (by decide) HT.out
  have O2 : Onl p b [q] w1 w2 := Onl.of_only O1
  have k1 := HK.out.onl (Onl.of_only O1 (E := [])) HN.out.1 HN.out.2 (by simp)
  have t1 := HT.out.onl (Onl.of_only O1 (E := [])) hzp.1 hzp.2 (by simp)
  have d0 : w2.cell? ⟨z, 0, none⟩ = some (.int .i64 (i : Int)) := t1.cell 0
  have d1 : w2.cell? ⟨z, 1, none⟩ = some (.int .i64 (j : Int)) := t1.cell 1
  have HK1 := Lib.hid k1
  have HT1 := Lib.hid t1
  have hi0 : (0 : Int) ≤ (i : Int) := by omega
  have hi1 : (i : Int) < 16 := by omega
  have hj0 : (0 : Int) ≤ (j : Int) := by omega
  have hj1 : (j : Int) < 10 := by omega
  have HO := Lib.hid (HB.out.trans O2)
  have HF1 := Lib.hid F1
  clear c0 c1 F1 O1 O2 t1 k1 hzp d0 d1
  go_wp2_with fail
  have hd : Below w2.heap.size w2 w2.drew := (Below.refl w2.heap.size w2).drew
  have HK2 := Lib.hid (HK1.out.below hd)
  have HT2 := Lib.hid (HT1.out.below hd)
  have HF2 := Lib.hid (HF1.out.below hd)
  have HO2 := Lib.hid (HO.out.trans (Onl.of_below hd))
  refine wp_region_still_tail 10 (by kernel_rfl) (by kernel_rfl) ?_
  change wpStill _ _ w2.drew (fun a' => wpList _ _ _ _ a' w2.drew) _ _
  clear HK1 HT1 HF1 HO hd
  revert HK2 HT2 HF2 HO2
  generalize w2.drew = wd
  intro HK2 HT2 HF2 HO2
  have d0 : wd.cell? ⟨z, 0, none⟩ = some (.int .i64 (i : Int)) := HT2.out.cell 0
  have d1 : wd.cell? ⟨z, 1, none⟩ = some (.int .i64 (j : Int)) := HT2.out.cell 1
  have dc := tk_cell HK2.out (i := i) (j := j) (by rw [HG.out]; omega) hj
  have df := HK2.out.free (2 + i * 10 + j)
  have HP := Lib.hid (show LdP q p b i j f n g M w (wd.setCell ⟨q, 2 + i * 10 + j, none⟩ (.int .u64 (M.V (adT (i : Int) (j : Int))))) from
    ⟨tk_set HK2.out (by rw [HG.out]; omega) hj, HF2.out.setQ HN.out.1 HN.out.2 HQ.out _ _, HO2.out.trans (Onl.setCell wd (by simp) _ _)⟩)
  clear HK2 HT2 HF2 HO2
  simp only [List.take_succ_cons, List.take_zero, List.drop_succ_cons, List.drop_zero]
  iterate 10 still_step
  refine wpStill_nil ?_
  go_wp2_with fail
  go_ret
  exact ⟨rfl, HP.out⟩
/-- What comes next: behind a thread's beginning, an owner's word, another word. -/
def bgV (a c n : Int) : Value := if a < n then mvV 45 a c else .nilFunc
def owV (i v n : Int) : Value := if v = 0 then bgV (i + 1) 0 n else mvV 55 i 1
def otV (i : Int) (j : Nat) (n : Int) : Value := if j + 1 = 10 then bgV (i + 1) 0 n else mvV 55 i ((j : Int) + 1)
/-- What a line leaves. -/
def TkP (q p b : Nat) (f : Value) (n : Int) (g : List TH) (M : MV) (w : World) (w' : World) : Prop :=
  Bq q 59 (TKc f n g) w' ∧ VX p b M w' ∧ Onl p b [q] w w'
theorem TkP.setF {w0 : World} (h : TkP q p b f n g M w0 w) (hq : 0 < q) (f' : Value) : TkP q p b f' n g M w0 (w.setCell ⟨q, 0, none⟩ f') := by
  obtain ⟨h1, h2, h3⟩ := h
  obtain ⟨n1, n2⟩ := h2.ne (by decide) h1
  exact ⟨h1.set 0 f' rfl, h2.setQ n1 n2 hq _ _, h3.trans (Onl.setCell w (by simp) _ _)⟩
theorem TkP.setN {w0 : World} (h : TkP q p b f n g M w0 w) (hq : 0 < q) (n' : Int) : TkP q p b f n' g M w0 (w.setCell ⟨q, 1, none⟩ (.int .i64 n')) := by
  obtain ⟨h1, h2, h3⟩ := h
  obtain ⟨n1, n2⟩ := h2.ne (by decide) h1
  exact ⟨h1.set 1 _ rfl, h2.setQ n1 n2 hq _ _, h3.trans (Onl.setCell w (by simp) _ _)⟩
theorem TkP.below {w0 : World} (h : TkP q p b f n g M w0 w) (hb : Below w.heap.size w w') : TkP q p b f n g M w0 w' :=
  ⟨h.1.below hb, h.2.1.below hb, h.2.2.trans (Onl.of_below hb)⟩
theorem TkP.trans {w0 : World} {f' : Value} {n' : Int} {g' : List TH} {M' : MV} (h : TkP q p b f n g M w0 w) (k : TkP q p b f' n' g' M' w w') : TkP q p b f' n' g' M' w0 w' :=
  ⟨k.1, k.2.1, h.2.2.trans k.2.2⟩
theorem Onl.setNew {E : List Nat} {X Y : World} {z : Nat} (h : Onl p b E X Y) (hz : X.heap.size ≤ z) (i : Nat) (v : Value) : Onl p b E X (Y.setCell ⟨z, i, none⟩ v) :=
  Onl.fresh (e := z) (h.more (E' := z :: E) (fun x hx => List.mem_cons_of_mem _ hx) |>.trans (Onl.setCell Y (by simp) i v)) hz
theorem TkP.start (F : VX p b M w) (h : Bq q 59 (TKc f n g) w) : TkP q p b f n g M w w := ⟨h, F, .refl w⟩
theorem TkP.of_ld {w0 : World} (h : TkP q p b f n g M w0 w) (k : LdP q p b i j f n g M w w') : TkP q p b f n (g.set i ((g.getD i TH.zero).set j (M.V (adT (i : Int) (j : Int))))) (ldM M (adT (i : Int) (j : Int))) w0 w' :=
  ⟨k.1, k.2.1, h.2.2.trans k.2.2⟩
set_option maxRecDepth 100000 in
set_option maxHeartbeats 4000000 in
/-- The thread begins, if there is one. -/
theorem beginF {a c : Int} (hq : 0 < q) (F : VX p b M w) (h : Bq q 59 (TKc f n g) w) :
    Calls Tryd.prog 39 #[.agg #[.int .i64 a, .int .i64 c], .pointer (some ⟨q, 0, none⟩)] w fun e w' => e = .returned (.tuple #[]) ∧ TkP q p b (bgV a c n) n g M w w' := by
  have hA : Below w.heap.size w (w.alloc (.cells #[.int .i64 a, .int .i64 c] 82)) := (Below.refl _ w).alloc (Nat.le_refl _) _
  have HT := Lib.hid (Bq.new w [.int .i64 a, .int .i64 c] 82)
  have HK := Lib.hid (h.below hA)
  have hne : w.heap.size ≠ q := Nat.ne_of_gt h.lt
  have hne' : q ≠ w.heap.size := fun e => hne e.symm
  have HS := Lib.hid ((TkP.start F h).below hA)
  have HQ := Lib.hid hq
  clear hq hA F
  go_enter Tryd.func39, Tryd.ntmps39
  go_upto_region 1 with (fail)
  revert HT HK hne hne' HS
  generalize (w.alloc (.cells #[.int .i64 a, .int .i64 c] 82)) = w1
  have hz : ∃ z, z = w.heap.size := ⟨_, rfl⟩
  obtain ⟨z, hz⟩ := hz
  rw [← hz]
  intro HT HK hne hne' HS
  clear hz
  have q2 := HK.out.free 0
  have q0 := HK.out.cell 0
  simp only [TKc, List.getElem?_cons_zero] at q0
  clear h
  go_wp2_with fail
  have HS2 := Lib.hid (HS.out.setF HQ.out .nilFunc)
  have HT2 := Lib.hid (HT.out.setO hne 0 .nilFunc)
  clear HS HT HK q0 q2
  revert HS2 HT2
  generalize w1.setCell ⟨q, 0, none⟩ .nilFunc = w2
  intro HS2 HT2
  have c0 : w2.cell? ⟨z, 0, none⟩ = some (.int .i64 a) := HT2.out.cell 0
  have q1 : w2.cell? ⟨q, 1, none⟩ = some (.int .i64 n) := HS2.out.1.cell 1
  by_cases hl : a < n
  · go_quiet (fail)
    have hbn := below_drewN' (Below.refl w2.heap.size w2) nq
    have HS3 := Lib.hid (HS2.out.below hbn)
    have HT3 := Lib.hid (HT2.out.below hbn)
    clear hbn c0 q1
    revert HS3 HT3
    generalize w2.drewN nq = w3
    intro HS3 HT3
    have c0 : w3.cell? ⟨z, 0, none⟩ = some (.int .i64 a) := HT3.out.cell 0
    have c1 : w3.cell? ⟨z, 1, none⟩ = some (.int .i64 c) := HT3.out.cell 1
    have q0 : w3.cell? ⟨q, 0, none⟩ = some .nilFunc := HS3.out.1.cell 0
    have q2 := HS3.out.1.free 0
    go_wp2_with fail
    ((try simp only [Exit.inBlock, Exit.then]); first | go_end0 | refine bodyPost_ret (results_none rfl _ _ _) rfl ?_)
    rw [show bgV a c n = mvV 45 a c from if_pos hl]
    exact ⟨rfl, HS3.out.setF HQ.out _⟩
  · have hd : decide (a < n) = false := decide_eq_false hl
    go_quiet (fail)
    have hbn := below_drewN' (Below.refl w2.heap.size w2) nq
    have HS3 := Lib.hid (HS2.out.below hbn)
    clear hbn c0 q1
    go_wp2_with fail
    ((try simp only [Exit.inBlock, Exit.then]); first | go_end0 | refine bodyPost_ret (results_none rfl _ _ _) rfl ?_)
    rw [show bgV a c n = .nilFunc from if_neg (by omega)]
    exact ⟨rfl, HS3.out⟩
set_option maxRecDepth 100000 in
set_option maxHeartbeats 4000000 in
/-- The thread ends: the one behind it is next. -/
theorem endF {a c : Int} (ha : 0 ≤ a ∧ a < 1000) (hq : 0 < q) (F : VX p b M w) (h : Bq q 59 (TKc f n g) w) :
    Calls Tryd.prog 54 #[.agg #[.int .i64 a, .int .i64 c], .pointer (some ⟨q, 0, none⟩)] w fun e w' => e = .returned (.tuple #[]) ∧ TkP q p b (bgV (a + 1) 0 n) n g M w w' := by
  have hA : Below w.heap.size w (w.alloc (.cells #[.int .i64 a, .int .i64 c] 82)) := (Below.refl _ w).alloc (Nat.le_refl _) _
  have HT := Lib.hid (Bq.new w [.int .i64 a, .int .i64 c] 82)
  have HK := Lib.hid (h.below hA)
  have hne : w.heap.size ≠ q := Nat.ne_of_gt h.lt
  have hne' : q ≠ w.heap.size := fun e => hne e.symm
  have HS := Lib.hid ((TkP.start F h).below hA)
  have HQ := Lib.hid hq
  have e3 : IntKind.i64.wrap (a + 1) = a + 1 := by simp [IntKind.wrap, IntKind.bits, IntKind.signed]; omega
  clear hq hA F
  go_enter Tryd.func54, Tryd.ntmps54
  go_upto_region 1 with (fail)
  revert HT HK hne hne' HS
  generalize (w.alloc (.cells #[.int .i64 a, .int .i64 c] 82)) = w1
  have hz : ∃ z, z = w.heap.size := ⟨_, rfl⟩
  obtain ⟨z, hz⟩ := hz
  rw [← hz]
  intro HT HK hne hne' HS
  clear hz
  have c0 : w1.cell? ⟨z, 0, none⟩ = some (.int .i64 a) := HT.out.cell 0
  clear h
  go_wp2_with fail
  have hB := beginF (a := a + 1) (c := 0) HQ.out HS.out.2.1 HS.out.1
  ((with_reducible refine hB.mono ?_); clear hB; rintro e1 w2 ⟨rfl, h2⟩)
  have H2 := Lib.hid (HS.out.trans h2)
  clear h2 HS HT HK c0
  go_wp2_with fail
  ((try simp only [Exit.inBlock, Exit.then]); first | go_end0 | refine bodyPost_ret (results_none rfl _ _ _) rfl ?_)
  exact ⟨rfl, H2.out⟩
set_option maxRecDepth 100000 in
set_option maxHeartbeats 4000000 in
/-- The owner's line. -/
theorem ownerF {N : Int} (hi : i < 16) (hg : g.length = 16) (hv : M.V (adT (i : Int) 0) = v) (hq : 0 < q) (F : VX p b M w) (hs : M.s.st < 1000000) (h : Bq q 59 (TKc f N g) w) :
    Calls Tryd.prog 45 #[.agg #[.int .i64 (i : Int), .int .i64 0], .pointer (some ⟨q, 0, none⟩), .pointer (some ⟨p, 0, none⟩)] w fun e w' => e = .returned (.tuple #[]) ∧
      TkP q p b (owV (i : Int) v N) N (g.set i ((g.getD i TH.zero).set 0 v)) (ldM M (adT (i : Int) 0)) w w' := by
  have hA : Below w.heap.size w (w.alloc (.cells #[.int .i64 (i : Int), .int .i64 0] 82)) := (Below.refl _ w).alloc (Nat.le_refl _) _
  have HT := Lib.hid (Bq.new w [.int .i64 (i : Int), .int .i64 0] 82)
  have HK := Lib.hid (h.below hA)
  have hne : w.heap.size ≠ q := Nat.ne_of_gt h.lt
  have hne' : q ≠ w.heap.size := fun e => hne e.symm
  have HS := Lib.hid ((TkP.start F h).below hA)
  have HQ := Lib.hid hq
  have HV := Lib.hid hv
  have HG := Lib.hid hg
  have HI := Lib.hid hi
  clear hq hA F hv hg hi
  go_enter Tryd.func45, Tryd.ntmps45
  go_upto_region 1 with (fail)
  revert HT HK hne hne' HS
  generalize (w.alloc (.cells #[.int .i64 (i : Int), .int .i64 0] 82)) = w1
  have hz : ∃ z, z = w.heap.size := ⟨_, rfl⟩
  obtain ⟨z, hz⟩ := hz
  rw [← hz]
  intro HT HK hne hne' HS
  clear hz
  have c0 : w1.cell? ⟨z, 0, none⟩ = some (.int .i64 (i : Int)) := HT.out.cell 0
  have c1 : w1.cell? ⟨z, 1, none⟩ = some (.int .i64 0) := HT.out.cell 1
  clear h
  go_wp2_with fail
  have hL := loadF (j := 0) HI.out (by decide) HG.out HQ.out HS.out.2.1 hs HS.out.1
  rw [show ((0 : Nat) : Int) = 0 from rfl] at hL
  ((with_reducible refine hL.mono ?_); clear hL; rintro e1 w2 ⟨rfl, h2⟩)
  have HS2 := Lib.hid (HS.out.of_ld h2)
  obtain ⟨hzp, hzb⟩ := HS.out.2.1.ne (by decide) HT.out
  have HT2 := Lib.hid (HT.out.onl h2.2.2 hzp hzb (by simpa using hne))
  clear h2 HS HT HK c0 c1 hzp hzb
  rw [show ((0 : Nat) : Int) = 0 from rfl, HV.out] at HS2
  rw [HV.out]
  have c0 : w2.cell? ⟨z, 0, none⟩ = some (.int .i64 (i : Int)) := HT2.out.cell 0
  have c1 : w2.cell? ⟨z, 1, none⟩ = some (.int .i64 0) := HT2.out.cell 1
  have q0 := HS2.out.1.cell 0
  have q2 := HS2.out.1.free 0
  simp only [TKc, List.getElem?_cons_zero] at q0
  by_cases h0 : v = 0
  · subst h0
    go_wp2_with fail
    have hE := endF (a := (i : Int)) (c := 0) (by have := HI.out; omega) HQ.out HS2.out.2.1 HS2.out.1
    ((with_reducible refine hE.mono ?_); clear hE; rintro e1 w3 ⟨rfl, h3⟩)
    have H3 := Lib.hid (HS2.out.trans h3)
    clear h3 HS2 HT2 c0 c1 q0 q2
    go_wp2_with fail
    ((try simp only [Exit.inBlock, Exit.then]); first | go_end0 | refine bodyPost_ret (results_none rfl _ _ _) rfl ?_)
    rw [show owV (i : Int) 0 N = bgV ((i : Int) + 1) 0 N from if_pos rfl]
    exact ⟨rfl, H3.out⟩
  · have h1 : (v == 0) = false := beq_eq_false_iff_ne.2 h0
    go_wp2_with fail
    ((try simp only [Exit.inBlock, Exit.then]); first | go_end0 | refine bodyPost_ret (results_none rfl _ _ _) rfl ?_)
    rw [show owV (i : Int) v N = mvV 55 (i : Int) 1 from if_neg h0]
    exact ⟨rfl, HS2.out.setF HQ.out _⟩
set_option maxRecDepth 100000 in
set_option maxHeartbeats 4000000 in
/-- Another word's line. -/
theorem otherF {N : Int} (hi : i < 16) (hj : j < 10) (hg : g.length = 16) (hv : M.V (adT (i : Int) (j : Int)) = v) (hq : 0 < q) (F : VX p b M w) (hs : M.s.st < 1000000) (h : Bq q 59 (TKc f N g) w) :
    Calls Tryd.prog 55 #[.agg #[.int .i64 (i : Int), .int .i64 (j : Int)], .pointer (some ⟨q, 0, none⟩), .pointer (some ⟨p, 0, none⟩)] w fun e w' => e = .returned (.tuple #[]) ∧
      TkP q p b (otV (i : Int) j N) N (g.set i ((g.getD i TH.zero).set j v)) (ldM M (adT (i : Int) (j : Int))) w w' := by
  have hA : Below w.heap.size w (w.alloc (.cells #[.int .i64 (i : Int), .int .i64 (j : Int)] 82)) := (Below.refl _ w).alloc (Nat.le_refl _) _
  have HT := Lib.hid (Bq.new w [.int .i64 (i : Int), .int .i64 (j : Int)] 82)
  have HK := Lib.hid (h.below hA)
  have hne : w.heap.size ≠ q := Nat.ne_of_gt h.lt
  have hne' : q ≠ w.heap.size := fun e => hne e.symm
  have HS := Lib.hid ((TkP.start F h).below hA)
  have HQ := Lib.hid hq
  have HV := Lib.hid hv
  have HG := Lib.hid hg
  have HI := Lib.hid hi
  have HJ := Lib.hid hj
  have HZ := Lib.hid (Nat.lt_of_lt_of_le hq (Nat.le_of_lt h.lt))
  have e3 : IntKind.i64.wrap ((j : Int) + 1) = (j : Int) + 1 := by simp [IntKind.wrap, IntKind.bits, IntKind.signed]; omega
  clear hq hA F hv hg hi hj
  go_enter Tryd.func55, Tryd.ntmps55
  go_upto_region 1 with (fail)
  revert HT HK hne hne' HS
  generalize (w.alloc (.cells #[.int .i64 (i : Int), .int .i64 (j : Int)] 82)) = w1
  have hz : ∃ z, z = w.heap.size := ⟨_, rfl⟩
  obtain ⟨z, hz⟩ := hz
  rw [← hz]
  have HZ0 := Lib.hid (Nat.le_of_eq hz.symm)
  intro HT HK hne hne' HS
  clear hz
  have c0 : w1.cell? ⟨z, 0, none⟩ = some (.int .i64 (i : Int)) := HT.out.cell 0
  have c1 : w1.cell? ⟨z, 1, none⟩ = some (.int .i64 (j : Int)) := HT.out.cell 1
  clear h
  go_wp2_with fail
  have hL := loadF HI.out HJ.out HG.out HQ.out HS.out.2.1 hs HS.out.1
  ((with_reducible refine hL.mono ?_); clear hL; rintro e1 w2 ⟨rfl, h2⟩)
  have HS2 := Lib.hid (HS.out.of_ld h2)
  obtain ⟨hzp, hzb⟩ := HS.out.2.1.ne (by decide) HT.out
  have HT2 := Lib.hid (HT.out.onl h2.2.2 hzp hzb (by simpa using hne))
  clear h2 HS HT HK c0 c1
  rw [HV.out] at HS2 ⊢
  have c0 : w2.cell? ⟨z, 0, none⟩ = some (.int .i64 (i : Int)) := HT2.out.cell 0
  have c1 : w2.cell? ⟨z, 1, none⟩ = some (.int .i64 (j : Int)) := HT2.out.cell 1
  have c2 := HT2.out.free 1
  have q0 := HS2.out.1.cell 0
  have q2 := HS2.out.1.free 0
  simp only [TKc, List.getElem?_cons_zero] at q0
  go_upto_region 3 with (fail)
  have HS3 := Lib.hid (show TkP q p b f N (g.set i ((g.getD i TH.zero).set j v)) (ldM M (adT (i : Int) (j : Int))) w (w2.setCell ⟨z, 1, none⟩ (.int .i64 ((j : Int) + 1))) from
    ⟨HS2.out.1.setO hne' 1 _, HS2.out.2.1.setQ hzp hzb (Nat.lt_of_lt_of_le HZ.out HZ0.out) 1 _, HS2.out.2.2.setNew HZ0.out 1 _⟩)
  have HT3 := Lib.hid (HT2.out.set 1 (.int .i64 ((j : Int) + 1)) rfl)
  clear HS2 HT2 c0 c1 c2 hzp hzb q0 q2
  revert HS3 HT3
  generalize w2.setCell ⟨z, 1, none⟩ (.int .i64 ((j : Int) + 1)) = w3
  intro HS3 HT3
  have c0 : w3.cell? ⟨z, 0, none⟩ = some (.int .i64 (i : Int)) := HT3.out.cell 0
  have c1 : w3.cell? ⟨z, 1, none⟩ = some (.int .i64 ((j : Int) + 1)) := HT3.out.cell 1
  have q0 := HS3.out.1.cell 0
  have q2 := HS3.out.1.free 0
  simp only [TKc, List.getElem?_cons_zero] at q0
  by_cases h0 : j + 1 = 10
  · have hj9 : (j : Int) + 1 = 10 := by omega
    have HJ9 := Lib.hid h0
    clear h0
    rw [hj9] at c1
    clear hj9
    go_wp2_with fail
    have hE := endF (a := (i : Int)) (c := 10) (by have := HI.out; omega) HQ.out HS3.out.2.1 HS3.out.1
    ((with_reducible refine hE.mono ?_); clear hE; rintro e1 w4 ⟨rfl, h4⟩)
    have H4 := Lib.hid (HS3.out.trans h4)
    clear h4 HS3 HT3 c0 c1 q0 q2
    go_wp2_with fail
    ((try simp only [Exit.inBlock, Exit.then]); first | go_end0 | refine bodyPost_ret (results_none rfl _ _ _) rfl ?_)
    rw [show otV (i : Int) j N = bgV ((i : Int) + 1) 0 N from if_pos HJ9.out]
    exact ⟨rfl, H4.out⟩
  · have h1 : ((j : Int) + 1 == 10) = false := beq_eq_false_iff_ne.2 (by omega)
    go_wp2_with fail
    ((try simp only [Exit.inBlock, Exit.then]); first | go_end0 | refine bodyPost_ret (results_none rfl _ _ _) rfl ?_)
    rw [show otV (i : Int) j N = mvV 55 (i : Int) ((j : Int) + 1) from if_neg h0]
    exact ⟨rfl, HS3.out.setF HQ.out _⟩
set_option maxRecDepth 100000 in
set_option maxHeartbeats 4000000 in
/-- The first line: how many threads. -/
theorem blocksF {a c N t : Int} (hv : M.V adN = v) (ht : min v 4 = t) (h0 : 0 ≤ v) (hq : 0 < q) (F : VX p b M w) (hs : M.s.st < 1000000) (h : Bq q 59 (TKc f N g) w) :
    Calls Tryd.prog 27 #[.agg #[.int .i64 a, .int .i64 c], .pointer (some ⟨q, 0, none⟩), .pointer (some ⟨p, 0, none⟩)] w fun e w' => e = .returned (.tuple #[]) ∧ TkP q p b (bgV a c (t * 4)) (t * 4) g (ldM M adN) w w' := by
  have hA : Below w.heap.size w (w.alloc (.cells #[.int .i64 a, .int .i64 c] 82)) := (Below.refl _ w).alloc (Nat.le_refl _) _
  have HT := Lib.hid (Bq.new w [.int .i64 a, .int .i64 c] 82)
  have HK := Lib.hid (h.below hA)
  have hne : w.heap.size ≠ q := Nat.ne_of_gt h.lt
  have hne' : q ≠ w.heap.size := fun e => hne e.symm
  have HS := Lib.hid ((TkP.start F h).below hA)
  have HQ := Lib.hid hq
  have HV := Lib.hid hv
  have HM := Lib.hid ht
  clear hq hA F hv ht
  go_enter Tryd.func27, Tryd.ntmps27
  go_upto_region 1 with (fail)
  revert HT HK hne hne' HS
  generalize (w.alloc (.cells #[.int .i64 a, .int .i64 c] 82)) = w1
  have hz : ∃ z, z = w.heap.size := ⟨_, rfl⟩
  obtain ⟨z, hz⟩ := hz
  rw [← hz]
  intro HT HK hne hne' HS
  clear hz
  clear h
  go_wp2_with fail
  obtain ⟨hzp, hzb⟩ := HS.out.2.1.ne (by decide) HT.out
  refine (HS.out.2.1.load hs adN).mono ?_
  rintro e1 w2 ⟨rfl, F1, O1⟩
  have O2 : Onl p b [q] w1 w2 := Onl.of_only O1
  obtain ⟨hqp, hqb⟩ := HS.out.2.1.ne (by decide) HS.out.1
  have HS2 := Lib.hid (show TkP q p b f N g (ldM M adN) w w2 from ⟨HS.out.1.onl (Onl.of_only O1 (E := [])) hqp hqb (by simp), F1, HS.out.2.2.trans O2⟩)
  have HT2 := Lib.hid (HT.out.onl (Onl.of_only O1 (E := [])) hzp hzb (by simp))
  rw [HV.out]
  clear F1 O1 O2 HS HT HK hzp hzb hqp hqb
  have q1 : w2.cell? ⟨q, 1, none⟩ = some (.int .i64 N) := HS2.out.1.cell 1
  have q2 := HS2.out.1.free 1
  have ht0 : 0 ≤ t := by have := HM.out; omega
  have ht4 : t ≤ 4 := by have := HM.out; omega
  have HS3 := Lib.hid (HS2.out.setN HQ.out (t * 4))
  have HT3 := Lib.hid (HT2.out.setO hne 1 (.int .i64 (t * 4)))
  clear HS2 HT2
  rcases (by omega : v ≤ 4 ∨ 4 < v) with h | h
  · obtain rfl : v = t := by have := HM.out; omega
    have w1 : wrap64 v = v := by simp [wrap64]; omega
    have w2 : IntKind.i64.wrap (v * 4) = v * 4 := by simp [IntKind.wrap, IntKind.bits, IntKind.signed]; omega
    go_upto_region 3 with (fail)
    revert HS3 HT3
    generalize World.setCell _ _ _ = w3
    intro HS3 HT3
    have c0 : w3.cell? ⟨z, 0, none⟩ = some (.int .i64 a) := HT3.out.cell 0
    have c1 : w3.cell? ⟨z, 1, none⟩ = some (.int .i64 c) := HT3.out.cell 1
    clear q1 q2
    go_wp2_with fail
    have hB := beginF (a := a) (c := c) HQ.out HS3.out.2.1 HS3.out.1
    ((with_reducible refine hB.mono ?_); clear hB; rintro e1 w4 ⟨rfl, h4⟩)
    have H4 := Lib.hid (HS3.out.trans h4)
    clear h4 HS3 HT3
    go_wp2_with fail
    ((try simp only [Exit.inBlock, Exit.then]); first | go_end0 | refine bodyPost_ret (results_none rfl _ _ _) rfl ?_)
    exact ⟨rfl, H4.out⟩
  · obtain rfl : t = 4 := by have := HM.out; omega
    rw [show (4 : Int) * 4 = 16 from rfl] at HS3 HT3
    go_upto_region 3 with (fail)
    revert HS3 HT3
    generalize World.setCell _ _ _ = w3
    intro HS3 HT3
    have c0 : w3.cell? ⟨z, 0, none⟩ = some (.int .i64 a) := HT3.out.cell 0
    have c1 : w3.cell? ⟨z, 1, none⟩ = some (.int .i64 c) := HT3.out.cell 1
    clear q1 q2
    go_wp2_with fail
    have hB := beginF (a := a) (c := c) HQ.out HS3.out.2.1 HS3.out.1
    ((with_reducible refine hB.mono ?_); clear hB; rintro e1 w4 ⟨rfl, h4⟩)
    have H4 := Lib.hid (HS3.out.trans h4)
    clear h4 HS3 HT3
    go_wp2_with fail
    ((try simp only [Exit.inBlock, Exit.then]); first | go_end0 | refine bodyPost_ret (results_none rfl _ _ _) rfl ?_)
    exact ⟨rfl, H4.out⟩
end
end Go.Proofs.YtapcgikamldchaaDoor
