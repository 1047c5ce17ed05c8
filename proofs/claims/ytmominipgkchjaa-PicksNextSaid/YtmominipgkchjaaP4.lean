/-
  The program's Fair of layer 4: does each one rest less; condition: the picks and the bools lie as it says.
-/
import Derived.Test.YtmominipgkchjaaP3
import Derived.Test.YtmominipgkchjaaP1
import Derived.Test.YtmominipgkchjaaQ1
import Derived.Sort.QuietIn
namespace Go.Proofs.Ytmominipgkchjaa
open Go.RowKit Go.Shelf

/-- What stands between two rounds of Fair's loop. -/
structure FAt (w : World) (S : Value) (ps : List Int) (within : Int) (pre : List Nat) (W : World) : Prop where
  picks : Boxed W w.heap.size 27 S
  with_ : Boxed W (w.heap.size + 1) 3 (.int .i64 within)
  res : Boxed W (w.heap.size + 2) 4 (.bool false)
  low : Below w.heap.size w W
  less : ∀ y ∈ pre, (restC ps (y : Int) : Int) < within
/-- What stands where a round has left. -/
structure FOut (w : World) (ps : List Int) (within : Int) (c : Code) (pre : List Nat) (W : World) : Prop where
  code : c = .ret
  res : Boxed W (w.heap.size + 2) 4 (.bool false)
  low : Below w.heap.size w W
  more : ∃ y ∈ pre, within ≤ (restC ps (y : Int) : Int)
theorem FAt.own (w : World) (S : Value) (ps : List Int) (within : Int) (B : Nat) (hB : w.heap.size ≤ B) : OwnFrom B (FAt w S ps within) := fun _ X Y row hs hg hrow =>
  ⟨(boxed_own w.heap.size 27 (fun _ : Unit => S)).from B () X Y row hs.picks hg hrow, (boxed_own (w.heap.size + 1) 3 (fun _ : Unit => Value.int .i64 within)).from B () X Y row hs.with_ hg hrow,
    (boxed_own (w.heap.size + 2) 4 (fun _ : Unit => Value.bool false)).from B () X Y row hs.res hg hrow, ownFrom_below (Nat.le_refl _) hB () X Y row hs.low hg hrow, hs.less⟩
theorem FOut.own (w : World) (ps : List Int) (within : Int) (c : Code) (B : Nat) (hB : w.heap.size ≤ B) : OwnFrom B (FOut w ps within c) := fun _ X Y row hs hg hrow =>
  ⟨hs.code, (boxed_own (w.heap.size + 2) 4 (fun _ : Unit => Value.bool false)).from B () X Y row hs.res hg hrow, ownFrom_below (Nat.le_refl _) hB () X Y row hs.low hg hrow, hs.more⟩
theorem fair_yes {ps : List Int} {who : List Bool} {within : Int} (h : ∀ y ∈ goers who, (restC ps (y : Int) : Int) < within) : fairC ps who within = true :=
  (fair_iff ps who within).2 fun i hi hw => h i (goers_mem.2 ⟨hi, hw⟩)
theorem fair_out {ps : List Int} {who : List Bool} {within : Int} {pre r : List Nat} (hr : pre ++ r = goers who) (h : ∃ y ∈ pre, within ≤ (restC ps (y : Int) : Int)) : fairC ps who within = false := by
  obtain ⟨y, hy, hw⟩ := h
  obtain ⟨h1, h2⟩ := goers_mem.1 (show y ∈ goers who by rw [← hr]; exact List.mem_append_left _ hy)
  exact fair_no h1 h2 hw
theorem f16_results : Try.f16.results = #[.cell 6 4] := by kernel_rfl
/-- Fair's result lies in a block of its own. -/
theorem res16 (tmps : Array Value) (w : World) (b : Bool) (g : Nat) (hp : tmps.getD 6 undef = .pointer (some ⟨g, 0, none⟩)) (hg : Boxed w g 4 (.bool b)) : (results Try.f16 tmps).run Try.prog w = .ok (.bool b) w := by
  have y := hg.cell
  have hp' : tmps[6]?.getD undef = .pointer (some ⟨g, 0, none⟩) := by simpa using hp
  simp only [results, f16_results]
  go_simp
set_option maxRecDepth 100000 in
set_option maxHeartbeats 2000000 in
theorem fair_in (n : Nat) (within : Int) (A B : Option Addr) (ca cb : Nat) (ps : List Int) (who : List Bool) (w : World) (hs : Row w A (ps.map iV)) (hb : Row w B (who.map bV)) (hl : ps.length ≤ 1000) (hm : who.length ≤ 1000) (hn : 3 ≤ n) :
    CallsIn Fence.wide n Try.prog 16 #[.slice A ps.length ca, .slice B who.length cb, .int .i64 within] w fun e w' => e = .returned (.bool (fairC ps who within)) ∧ Below w.heap.size w w' := by
  have h1 : 1 ≤ n := by omega
  have HS := Lib.hid hs
  have HB := Lib.hid hb
  clear hs hb
  refine callsIn_of_wp_marks Try.func16 rfl trivial ?_ rfl
  simp only [Try.ntmps16, List.size_toArray, List.length_cons, List.length_nil, Nat.reduceAdd, Nat.reduceSub, Array.replicate_succ, Array.replicate_zero, List.push_toArray, List.append_toArray, List.nil_append, List.cons_append]
  gi_wp2_with (refine ⟨trivial, ?_⟩; gi_at_call 19; refine (callsIn_wide.2 (those_any _ _ _ _)).mono ?_; rintro e w1 ⟨rfl, rfl⟩)
  have bA0 := Boxed.new w 27 (.slice A ps.length ca)
  have bW0 := Boxed.new (w.alloc (.cells #[.slice A ps.length ca] 27)) 3 (.int .i64 within)
  have bR0 := Boxed.new ((w.alloc (.cells #[.slice A ps.length ca] 27)).alloc (.cells #[.int .i64 within] 3)) 4 (.bool false)
  rw [World.size_alloc] at bW0
  rw [World.size_alloc, World.size_alloc] at bR0
  have hB0 : Below w.heap.size w ((((w.alloc (.cells #[.slice A ps.length ca] 27)).alloc (.cells #[.int .i64 within] 3)).alloc (.cells #[.bool false] 4)).alloc (.cells #[.slice B who.length cb] 22)) :=
    ((((Below.refl _ w).alloc (Nat.le_refl _) _).alloc (by simp) _).alloc (by simp; omega) _).alloc (by simp; omega) _
  have hsz : ((((w.alloc (.cells #[.slice A ps.length ca] 27)).alloc (.cells #[.int .i64 within] 3)).alloc (.cells #[.bool false] 4)).alloc (.cells #[.slice B who.length cb] 22)).heap.size = w.heap.size + 4 := by simp
  have bS := Boxed.new (((w.alloc (.cells #[.slice A ps.length ca] 27)).alloc (.cells #[.int .i64 within] 3)).alloc (.cells #[.bool false] 4)) 22 (.slice B who.length cb)
  rw [World.size_alloc, World.size_alloc, World.size_alloc] at bS
  have bA := ((bA0.alloc (.cells #[.int .i64 within] 3)).alloc (.cells #[.bool false] 4)).alloc (.cells #[.slice B who.length cb] 22)
  have bW := (bW0.alloc (.cells #[.bool false] 4)).alloc (.cells #[.slice B who.length cb] 22)
  have bR := bR0.alloc (.cells #[.slice B who.length cb] 22)
  obtain ⟨W0, hW0⟩ : ∃ W0, (((w.alloc (.cells #[.slice A ps.length ca] 27)).alloc (.cells #[.int .i64 within] 3)).alloc (.cells #[.bool false] 4)).alloc (.cells #[.slice B who.length cb] 22) = W0 := ⟨_, rfl⟩
  rw [hW0] at hB0 hsz bS bA bW bR ⊢
  clear hW0 bA0 bW0 bR0
  have hst := those_stops (n - 1) w.heap.size (w.heap.size + 1 + 1 + 1) cb B who (by omega) W0 bS.cell (HB.out.below hB0) HB.out.lt (by omega)
  have h0 : FAt w (.slice A ps.length ca) ps within [] W0 := ⟨bA, bW, bR, hB0, fun y h => by cases h⟩
  clear bA bW bR bS
  refine wpIn_rangeFunc_ownG rfl h1 (gf := 22) (lb := #[.pointer (some ⟨w.heap.size + 1 + 1 + 1, 0, none⟩)]) rfl trivial (enters_of Try.func22 (by kernel_rfl) rfl)
    hst belowK_t (belowK_b (by omega)) (Below.refl _ _) (fun _ => rfl) (FAt w (.slice A ps.length ca) ps within) (FOut w ps within) (FAt.own w _ ps within _ (by omega)) (fun c => FOut.own w ps within c _ (by omega)) h0
    (fun x => { tmps := #[.slice A ps.length ca, .slice B who.length cb, .int .i64 within, .pointer (some ⟨w.heap.size, 0, none⟩), undef, .pointer (some ⟨w.heap.size + 1, 0, none⟩), .pointer (some ⟨w.heap.size + 1 + 1, 0, none⟩), nV x, .slice B who.length cb, .func (.func 22) #[] #[.pointer (some ⟨w.heap.size + 1 + 1 + 1, 0, none⟩)], nV x, undef, undef, undef, undef, undef], defers := [] })
    ?assign ?body ?done ?stop
  case assign =>
    rintro y x W K hK
    simp only [nV] at hK ⊢
    gi_wp2_with (rw [Oper.semAt_eq _ _ _ (fun c h => by cases h)]; go_simp; try go_bits)
    exact hK
  case body =>
    rintro y pre x W hI hlt
    have HI := Lib.hid hI
    have yp := hI.picks.cell
    have yw := hI.with_.cell
    have yr := hI.res.cell
    have yf := hI.res.frozen
    have HBW := Lib.hid (fun v => (Below.refl w.heap.size W).setCell (p := ⟨w.heap.size + 1 + 1, 0, none⟩) (by show w.heap.size ≤ w.heap.size + 1 + 1; omega) v)
    have HC := Lib.hid (fun k => rest_any (x : Int) A ca ps (W.drewN k) (HS.out.below (below_drewN' hI.low k)) (by omega))
    have HE := Lib.hid hI.less
    simp only [nV]
    clear hI h0 hst
    obtain ⟨r, hr⟩ : ∃ r : Int, (restC ps (x : Int) : Int) = r := ⟨_, rfl⟩
    rw [hr] at HC
    have HR := Lib.hid hr
    clear hr
    have hstep : r < within → ∀ z ∈ pre ++ [x], (restC ps (z : Int) : Int) < within := fun h z hz => by
      rcases List.mem_append.1 hz with h1 | h1
      · exact HE.out z h1
      · rw [List.mem_singleton.1 h1, HR.out]
        exact h
    have HST := Lib.hid hstep
    clear hstep
    have HCQ := Lib.hid (fun k => (callsIn_wide (n := n - 1 - 1 - 1).2 (HC.out k)).mono (fun e w1 (h : e = Ending.returned (.int .i64 r) ∧ W.drewN k = w1) => (⟨h.1, k, h.2.symm⟩ : e = Ending.returned (.int .i64 r) ∧ ∃ m, w1 = W.drewN m)))
    clear HC
    have hd2 : ∀ k, KeepsOthers W (W.drewN k) := fun _ => ⟨Nat.le_refl _, fun _ _ h _ => h⟩
    have hb2 : ∀ k, Below w.heap.size W (W.drewN k) := fun k => below_drewN' (Below.refl _ W) k
    have HI2 := Lib.hid (fun k => (⟨HI.out.picks, HI.out.with_, HI.out.res⟩ : Boxed (W.drewN k) w.heap.size 27 (.slice A ps.length ca) ∧ Boxed (W.drewN k) (w.heap.size + 1) 3 (.int .i64 within) ∧ Boxed (W.drewN k) (w.heap.size + 2) 4 (.bool false)))
    have HD2 := Lib.hid hd2
    have HB2 := Lib.hid hb2
    clear hd2 hb2
    by_cases hx : r < within
    · have hx' : ¬ within ≤ r := by omega
      gi_wp2
      refine region_round_quiet rfl (by kernel_rfl) (by kernel_rfl) (by kernel_rfl) ?_
      gi_big_quiet_step (fail)
      gi_big_quiet_step (fail)
      refine BigFrame.wpQuietIn_want (fun _ _ _ _ => trivial) rfl ?_
      intro K hK
      gi_big_quiet_op
      gi_big_quiet_call (((first | (refine ⟨trivial, ?_⟩) | (refine ⟨fun _ => by omega, ?_⟩) | skip); gi_at_call 14; exact HCQ.out _))
      gi_big_quiet_step (fail)
      gi_big_quiet_step (fail)
      refine wpQuietIn_nil ?_
      rintro w' ⟨nq, rfl⟩
      gi_wp2
      exact ⟨(HD2.out nq).from _, HB2.out nq, (HI2.out nq).1, (HI2.out nq).2.1, (HI2.out nq).2.2, HI.out.low.trans (HB2.out nq), HST.out hx⟩
    · have hx' : within ≤ r := by omega
      gi_wp2
      refine region_round_quiet rfl (by kernel_rfl) (by kernel_rfl) (by kernel_rfl) ?_
      gi_big_quiet_step (fail)
      gi_big_quiet_step (fail)
      refine BigFrame.wpQuietIn_want (fun _ _ _ _ => trivial) rfl ?_
      intro K hK
      gi_big_quiet_op
      gi_big_quiet_call (((first | (refine ⟨trivial, ?_⟩) | (refine ⟨fun _ => by omega, ?_⟩) | skip); gi_at_call 14; exact HCQ.out _))
      gi_big_quiet_step (fail)
      gi_big_quiet_step (fail)
      refine wpQuietIn_nil ?_
      rintro w' ⟨nq, rfl⟩
      gi_wp2_with (rw [Oper.semAt_eq _ _ _ (fun c h => by cases h)]; go_simp; try go_bits)
      have hs1 : Below w.heap.size (W.drewN nq) ((W.drewN nq).setCell ⟨w.heap.size + 1 + 1, 0, none⟩ (.bool false)) := (Below.refl _ _).setCell (p := ⟨w.heap.size + 1 + 1, 0, none⟩) (by show w.heap.size ≤ w.heap.size + 1 + 1; omega) _
      exact ⟨((HD2.out nq).trans (KeepsOthers.setCell _ _ _)).from _, rfl, (HI2.out nq).2.2.set _, (HI.out.low.trans (HB2.out nq)).trans hs1, x, List.mem_append_right _ (List.mem_singleton.2 rfl), by rw [HR.out]; exact hx'⟩
  case done =>
    rintro D ys W hD hS hI hK
    have yr := hI.res.cell
    have yf := hI.res.frozen
    have hS' := hI.less
    rw [hS] at hS'
    have HF := Lib.hid (fair_yes hS')
    have HL := Lib.hid (show Below w.heap.size w (W.setCell ⟨w.heap.size + 2, 0, none⟩ (.bool true)) from hI.low.trans ((Below.refl _ _).setCell (p := ⟨w.heap.size + 2, 0, none⟩) (by show w.heap.size ≤ w.heap.size + 2; omega) _))
    have HK := Lib.hid (show (W.setCell ⟨w.heap.size + 2, 0, none⟩ (.bool true)).heap[D]? = some (.deferred (some [])) from (Below.heap_setCell W ⟨w.heap.size + 2, 0, none⟩ _ D (by show D ≠ w.heap.size + 2; omega)).trans hK)
    have HN := Lib.hid (hI.res.set (.bool true))
    clear hI hS hS' hK
    gi_wp2
    refine ⟨by simp, .inl ⟨_, _, rfl, run_takeDeferred HK.out, ?_⟩⟩
    refine ⟨.bool true, res16 _ _ _ (w.heap.size + 2) rfl ((World.putObj_heap_other (by omega)).trans HN.out), ret_bool HF.out.symm, HL.out.trans (belowK_b (w := w) (Nat.le_refl _) _ D _ _ (by omega) HK.out rfl rfl)⟩
  case stop =>
    rintro D c pre W hD ⟨r, hr⟩ ⟨rfl, hres, hlow, hmore⟩ hK
    gi_wp2
    refine ⟨by simp, .inl ⟨_, _, rfl, run_takeDeferred hK, ?_⟩⟩
    exact ⟨.bool false, res16 _ _ _ (w.heap.size + 2) rfl ((World.putObj_heap_other (by omega)).trans hres), ret_bool (fair_out hr hmore).symm, hlow.trans (belowK_b (w := w) (Nat.le_refl _) W D _ _ (by omega) hK rfl rfl)⟩
theorem pfair_any (within : Int) (A B : Option Addr) (ca cb : Nat) (ps : List Int) (who : List Bool) (w : World) (hs : Row w A (ps.map iV)) (hb : Row w B (who.map bV)) (hl : ps.length ≤ 1000) (hm : who.length ≤ 1000) :
    Calls Try.prog 16 #[.slice A ps.length ca, .slice B who.length cb, .int .i64 within] w fun e w' => e = .returned (.bool (fairC ps who within)) ∧ Below w.heap.size w w' :=
  callsIn_wide.1 (fair_in 3 within A B ca cb ps who w hs hb hl hm (Nat.le_refl _))
end Go.Proofs.Ytmominipgkchjaa
