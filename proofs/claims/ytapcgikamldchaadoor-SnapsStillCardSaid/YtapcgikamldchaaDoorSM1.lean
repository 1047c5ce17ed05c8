/-
  A taker alone over a memory of the call's own; the law's helper taken; condition: the memory lies as it says.
-/
import Derived.Test.YtapcgikamldchaaDoorSJ1
import Derived.Test.YtapcgikamldchaaDoorO0
import Derived.Lib.SmallJoins
import Derived.Deep.RegionWith
import Derived.OwnWalk
namespace Go.Proofs.YtapcgikamldchaaDoor
open Go.RowKit Go.Maps

theorem size_al (w : World) (o : Obj) : (w.alloc o).heap.size = w.heap.size + 1 := by
  show (w.heap.push o).size = _
  simp
theorem results_cell2 {P : Program} {fn : Func} {x y : Tmp} {ty : TypeId} (h : fn.results = #[.cell x ty, .tmp y]) (tmps : Array Value) (w : World) (g : Nat) (t : TypeId) (cs : Array Value) (fr : Nat × Nat) (d : TypeDesc)
    (hp : tmps.getD x undef = .pointer (some ⟨g, 0, none⟩)) (hg : w.heap[g]? = some (.cells cs t fr))
    (hu : P.underlying ty = some d) (hd : (match d with | .struct _ | .array _ _ => true | _ => false) = true) (hi : (P.info? ty).map (·.size) = some cs.size) {v : Value} (hv : tmps.getD y undef = v) :
    (results fn tmps).run P w = .ok (.tuple #[.agg cs, v]) w := by
  have hp' : tmps[x]?.getD undef = .pointer (some ⟨g, 0, none⟩) := by simpa using hp
  have hv' : tmps[y]?.getD undef = v := by simpa using hv
  simp [results, h, hp', hv', asAddr, run_loadVar_row w g t ty cs fr d hg hu hd hi]
section
variable {W w w' X : World} {p b q k : Nat} {P E : List Nat} {v : Value} {s : SG} {M : MV} {R : Nat → Ad → Int} {t0 : Int}
theorem onl_fresh (h : Onl p b [] X w) (k : Onl p b E w w') (hE : ∀ y ∈ E, X.heap.size ≤ y) : Onl p b [] X w' :=
  ⟨k.os.trans h.os, k.tape.trans h.tape, k.output.trans h.output, Nat.le_trans h.size k.size, fun j hj h1 h2 _ => (k.block j (Nat.lt_of_lt_of_le hj h.size) h1 h2 (fun e => by have := hE j e; omega)).trans (h.block j hj h1 h2 (by simp))⟩
theorem VX.ldA (F : VX p b M w) (hs : M.s.st < 1000000) {x : Ad} {k a f v : Int} (hx : x.k = k ∧ x.a = a ∧ x.f = f) (hv : M.V x = v) :
    Calls Tryd.prog 38 #[.pointer (some ⟨p, 0, none⟩), .agg #[.int .u8 k, .int .i64 a, .int .i64 f]] w fun e w' => e = .returned (.int .u64 v) ∧ VX p b (ldM M x) w' ∧ Only p b w w' := by
  obtain ⟨rfl, rfl, rfl⟩ := hx
  subst hv
  exact F.load hs x
theorem VX.stA (F : VX p b M w) (hs : M.s.st < 1000000) {x : Ad} {k a f v : Int} (hx : x.k = k ∧ x.a = a ∧ x.f = f) (hv : U64 v) :
    Calls Tryd.prog 25 #[.pointer (some ⟨p, 0, none⟩), .agg #[.int .u8 k, .int .i64 a, .int .i64 f], .int .u64 v] w fun e w' => e = .returned (.tuple #[]) ∧ VX p b (stM M x v) w' ∧ Only p b w w' := by
  obtain ⟨rfl, rfl, rfl⟩ := hx
  exact F.store hs x v hv
/-- A new memory, of which each word is 0. -/
theorem new_vx (hM : LayM w) : Calls Tryd.prog 21 #[] w fun e w' => ∃ p b M, e = .returned (.pointer (some ⟨p, 0, none⟩)) ∧ VX p b M w' ∧ M.V = (fun _ => 0) ∧ M.s.st = 0 ∧ Below w.heap.size w w' ∧ w.heap.size ≤ b ∧ b < p := by
  refine (new_some w).mono ?_
  rintro e w' ⟨p, b, rfl, hp, hb, h1, h2⟩
  have := hM.1
  exact ⟨p, b, ⟨fun _ => 0, ⟨0, 0, 0, 0, 0, 0, 0, false⟩⟩, rfl, ⟨⟨0, _, by decide, rq_nil, hp, fun _ => rfl⟩, Lay.all w', hM.below hb, by omega, by omega⟩, rfl, rfl, hb, h1, h2⟩
/-- A taker alone, behind k steps; R k: the words at step k. -/
structure TA (W : World) (p b q k : Nat) (P : List Nat) (R : Nat → Ad → Int) (V : Ad → Int) (t0 : Int) (s : SG) (w : World) : Prop where
  mem : ∃ M : MV, M.V = V ∧ M.s.st = t0 + k ∧ VX p b M w
  low : Onl p b [] W w
  w0 : 0 < W.heap.size
  prg : TRep q P s w
  lowP : ∀ y ∈ P, W.heap.size ≤ y
  inv : InvS k s
  run : RunS R k s
theorem TA.below {V : Ad → Int} (h : TA W p b q k P R V t0 s w) (hb : Below w.heap.size w w') : TA W p b q k P R V t0 s w' := by
  obtain ⟨M, h1, h2, h3⟩ := h.mem
  exact ⟨⟨M, h1, h2, h3.below hb⟩, h.low.trans (.of_below hb), h.w0, h.prg.below hb, h.lowP, h.inv, h.run⟩
theorem TA.step {V : Ad → Int} (h : TA W p b q k P R V t0 s w) (hn : s.ln ≠ 0) (hR : R k = V) (hR0 : 0 ≤ R 0 adN) (ht : 0 ≤ t0 ∧ t0 < 900000) :
    Calls Tryd.prog 15 #[.pointer (some ⟨q, 0, none⟩), .pointer (some ⟨p, 0, none⟩)] w fun e w' => e = .returned (.bool (decide ((stepS V s).ln = 0))) ∧ ∃ P', TA W p b q (k + 1) P' R V t0 (stepS V s) w' := by
  obtain ⟨M, rfl, h2, h3⟩ := h.mem
  have hk := h.inv.le hn
  have hw0 := h.w0
  refine (stepT_all (fun y hy => by have := h.lowP y hy; omega) h3 (by omega) h.inv h.prg).mono ?_
  rintro e w' ⟨rfl, P', hsub, Q, F, o⟩
  refine ⟨rfl, P', ⟨memT M s, memT_V M s, by rw [memT_go hn, h2]; push_cast; omega, F⟩, onl_fresh h.low o h.lowP, hw0, Q, fun y hy => ?_, h.inv.step hn h3.u64, ?_⟩
  · rcases hsub y hy with h9 | h9
    · exact h.lowP y h9
    · exact Nat.le_trans h.low.size h9
  · have := h.run.step hn hR0
    rwa [hR] at this
theorem TA.new {V : Ad → Int} {w0 : World} (F : VX p b M w0) (hV : M.V = V) (hst : M.s.st = t0) (o : Onl p b [] W w0) (hw0 : 0 < W.heap.size) (Q : TRep q P SG.new w) (hP : ∀ y ∈ P, w0.heap.size ≤ y) (hb : Below w0.heap.size w0 w) : TA W p b q 0 P R V t0 SG.new w :=
  ⟨⟨M, hV, by rw [hst]; simp, F.below hb⟩, o.trans (.of_below hb), hw0, Q, fun y hy => Nat.le_trans o.size (hP y hy), .new, .new⟩
set_option maxRecDepth 100000 in
set_option maxHeartbeats 8000000 in
/-- A snapshot by one alone: what stands there. -/
theorem taken_all (F : VX p b M w) (hs : M.s.st < 900000) (hw0 : 0 < w.heap.size) :
    Calls Tryd.prog 24 #[.pointer (some ⟨p, 0, none⟩), .int .i64 200] w fun e w' => ∃ (A : Option Addr) (c : Nat) (M' : MV), (c : Int) = 4 * min (M.V adN) 4 ∧ e = .returned (.tuple #[.agg #[.slice A c c, .int .u64 0], .bool true]) ∧ OwnH w' w.heap.size (.slice A c c) (lstR (fun _ => M.V) c) ∧ VX p b M' w' ∧ M'.V = M.V ∧ M'.s.st = M.s.st + ((1 + costL (lstR (fun _ => M.V) c) : Nat) : Int) ∧ Onl p b [] w w' := by
  have hu := (F.u64 adN).1
  have h0 := F.st0
  have hB0 : Below w.heap.size w (w.alloc (.cells #[.slice none 0 0, .int .u64 0] 36)) := (Below.refl _ _).alloc (Nat.le_refl _) _
  have HF := Lib.hid (F.below hB0)
  have HB := Lib.hid hB0
  have HX := Lib.hid (Bq.new w [.slice none 0 0, .int .u64 0] 36)
  have hp0 := F.lt
  clear F hB0
  go_enter Tryd.func24, Tryd.ntmps24
  go_wp2_with fail
  revert HF HB HX
  generalize w.alloc (.cells #[.slice none 0 0, .int .u64 0] 36) = w1
  intro HF HB HX
  ((with_reducible refine (newT_all w1).mono ?_); rintro e w2 ⟨q, P0, rfl, hq, hP, hb⟩)
  have hpl := HF.out.lt
  have HT := Lib.hid (TA.new (W := w1) (R := fun _ => M.V) HF.out rfl rfl (.refl _) (by have := HX.out.lt; omega) hq hP hb)
  have HG := Lib.hid (show w.heap.size < w1.heap.size from HX.out.lt)
  have HPB := Lib.hid (show p ≠ w.heap.size ∧ b ≠ w.heap.size from ⟨by have := hp0.1; omega, by have := hp0.2; omega⟩)
  clear hq hP hb HF hpl hp0
  go_wp2_with fail
  go_loopw [7] (fun j wr => ∃ (k : Nat) (P : List Nat) (s : SG), j = .int .i64 (k : Int) ∧ k ≤ 161 ∧ Hid (TA w1 p b q k P (fun _ => M.V) M.V M.s.st s wr)) (fun j _ => 200 - (intOf j).toNat)
  case atStart => exact ⟨0, P0, SG.new, rfl, by decide, HT.out⟩
  case round =>
    obtain ⟨k, P, s, rfl, hk, HA⟩ := hrel
    rename World => wr
    clear HT
    have hk0 : (0 : Int) ≤ (k : Int) := by omega
    have hk2 : (k : Int) < 200 := by omega
    by_cases hn : s.ln = 0
    · have HNN := Lib.hid hn
      have hd := decide_eq_true hn
      have HD := Lib.hid hd
      clear hd hn
      go_wp2_with fail
      ((with_reducible refine (overT_all HA.out.prg).mono ?_); rintro e w3 ⟨rfl, hb⟩)
      rw [HD.out]
      have HA3 := Lib.hid (HA.out.below hb)
      clear hb HA
      go_wp2_with fail
      ((with_reducible refine (gotT_all HA3.out.inv HA3.out.prg).mono ?_); rintro e w4 ⟨A, rfl, ho, hb⟩)
      have HA4 := Lib.hid (HA3.out.below hb)
      have HO4 := Lib.hid ho
      have HS4 := Lib.hid HA3.out.low.size
      clear ho hb HA3
      go_wp2_with fail
      ((with_reducible refine (overT_all HA4.out.prg).mono ?_); rintro e w5 ⟨rfl, hb⟩)
      rw [HD.out]
      have HA5 := Lib.hid (HA4.out.below hb)
      have HO5 := Lib.hid (HO4.out.below hb)
      have HY := Lib.hid (HX.out.same (HA5.out.low.block _ HX.out.lt (Ne.symm HPB.out.1) (Ne.symm HPB.out.2) (by simp)))
      have y0 := HY.out.cell 0
      have y1 := HY.out.cell 1
      have z0 := HY.out.free 0
      have z1 := HY.out.free 1
      simp only [List.getElem?_cons_zero, List.getElem?_cons_succ] at y0 y1
      clear hb HA4 HO4
      go_wp2_with fail
      have HY2 := Lib.hid (show Bq w.heap.size 36 [.slice A (gotL s).length (gotL s).length, .int .u64 0] _ from (HY.out.set 0 (.slice A (gotL s).length (gotL s).length) rfl).set 1 (.int .u64 0) rfl)
      have far : ∀ y, y ≠ w.heap.size → ((w5.setCell ⟨w.heap.size, 0, none⟩ (.slice A (gotL s).length (gotL s).length)).setCell ⟨w.heap.size, 1, none⟩ (.int .u64 0)).heap[y]? = w5.heap[y]? := fun y hy => (Below.heap_setCell _ ⟨w.heap.size, 1, none⟩ _ y hy).trans (Below.heap_setCell w5 ⟨w.heap.size, 0, none⟩ _ y hy)
      refine bodyPost_ret (v := .tuple #[.agg #[.slice A (gotL s).length (gotL s).length, .int .u64 0], .bool true]) (results_cell2 Tryd.results24 _ _ w.heap.size 36 #[.slice A (gotL s).length (gotL s).length, .int .u64 0] (0, 0) _ rfl HY2.out Tryd.underlying36 rfl (by kernel_rfl) rfl) rfl ?_
      obtain ⟨M', hM1, hM2, hM3⟩ := HA5.out.mem
      obtain ⟨c, hc1, hc2, hc3⟩ := HA5.out.run.last HNN.out
      have hg : gotL s = s.l := if_pos HNN.out
      rw [hg, hc2] at HO5 far ⊢
      rw [lst_len] at HO5 far ⊢
      have hw := HG.out
      have hs4 := HS4.out
      have r1 := (HO5.out.same fun y hy => far y fun e => by have := (HO5.out.bq hy).1; omega).mono (B' := w.heap.size) (by omega)
      have r2 := (hM3.setQ (Ne.symm HPB.out.1) (Ne.symm HPB.out.2) hw0 0 (.slice A c c)).setQ (Ne.symm HPB.out.1) (Ne.symm HPB.out.2) hw0 1 (.int .u64 0)
      have o1 : Onl p b [w.heap.size] w w5 := (Onl.of_below HB.out).trans (HA5.out.low.more (by simp))
      have o2 := ((o1.trans (Onl.setCell (q := w.heap.size) (E := [w.heap.size]) _ (by simp) 0 (.slice A c c))).trans (Onl.setCell (q := w.heap.size) (E := [w.heap.size]) _ (by simp) 1 (.int .u64 0))).fresh (Nat.le_refl _)
      exact ⟨A, c, M', hc1, rfl, r1, r2, hM1, by rw [hM2, hc3, cost_pos], o2⟩
    · have hnn : decide (s.ln = 0) = false := decide_eq_false hn
      have HD := Lib.hid hnn
      have HNN := Lib.hid hn
      clear hnn hn
      go_wp2_with fail
      ((with_reducible refine (overT_all HA.out.prg).mono ?_); rintro e w3 ⟨rfl, hb⟩)
      rw [HD.out]
      have HA3 := Lib.hid (HA.out.below hb)
      clear hb HA
      go_wp2_with fail
      ((with_reducible refine (HA3.out.step HNN.out rfl hu ⟨h0, hs⟩).mono ?_); rintro e w4 ⟨rfl, P', h4⟩)
      have HA4 := Lib.hid h4
      have HK := Lib.hid (HA3.out.inv.le HNN.out)
      clear h4 HA3
      go_wp2_with fail
      go_roundw
      case rel => exact ⟨k + 1, P', _, by go_num, by have := HK.out; omega, HA4⟩
      case measure => simp [intOf]; omega
end
end Go.Proofs.YtapcgikamldchaaDoor
