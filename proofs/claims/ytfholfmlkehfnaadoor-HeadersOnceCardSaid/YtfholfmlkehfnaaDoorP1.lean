/-
  The program's Of of layer 5: the change from a header to another one; conditions: the tables read as the program lays them; the arguments are numbers of their kinds.
-/
import Derived.Test.YtfholfmlkehfnaaDoorG2
namespace Go.Proofs.YtfholfmlkehfnaaDoor
open Go.RowKit Go.Shelf

/-- Is it that header? -/
def isHd (t h : Int) (y : Hd) : Prop := y.s = t ∧ y.g = h
/-- What stands between two rounds of Of's loop. -/
structure OfAt (w : World) (q7 : Nat) (t h : Int) (pre : List Hd) (W : World) : Prop where
  res : Boxed W w.heap.size 26 (.int .u8 0)
  behind : W.heap[q7]? = some (.cells #[.int .u8 t, .int .u64 h] 48 (0, 0))
  low : Below w.heap.size w W
  no : ∀ y ∈ pre, ¬ isHd t h y
/-- What stands where a round has left. -/
structure OfOut (w : World) (t h : Int) (c : Code) (pre : List Hd) (W : World) : Prop where
  code : c = .ret
  found : ∃ p y, pre = p ++ [y] ∧ (∀ z ∈ p, ¬ isHd t h z) ∧ isHd t h y ∧ Boxed W w.heap.size 26 (.int .u8 y.c)
  low : Below w.heap.size w W
theorem OfAt.own (w : World) (q7 : Nat) (t h : Int) (B : Nat) (hB : w.heap.size ≤ B) : OwnFrom B (OfAt w q7 t h) := fun _ X Y row hs hg hrow =>
  ⟨(boxed_own w.heap.size 26 (fun _ : Unit => Value.int .u8 0)).from B () X Y row hs.res hg hrow, cells_own B q7 _ rfl () X Y row hs.behind hg hrow, ownFrom_below (Nat.le_refl _) hB () X Y row hs.low hg hrow, hs.no⟩
theorem OfOut.own (w : World) (t h : Int) (c : Code) (B : Nat) (hB : w.heap.size ≤ B) : OwnFrom B (OfOut w t h c) := fun _ X Y row hs hg hrow => by
  obtain ⟨p, y, h1, h2, h3, h4⟩ := hs.found
  exact ⟨hs.code, ⟨p, y, h1, h2, h3, (boxed_own w.heap.size 26 (fun _ : Unit => Value.int .u8 y.c)).from B () X Y row h4 hg hrow⟩, ownFrom_below (Nat.le_refl _) hB () X Y row hs.low hg hrow⟩
theorem OfAt.grown {w : World} {q7 : Nat} {t h : Int} {pre : List Hd} {W W' : World} (hI : OfAt w q7 t h pre W) (hb : Below W.heap.size W W') : OfAt w q7 t h pre W' :=
  ⟨(hb.block _ hI.res.lt).trans hI.res, (hb.block _ (Array.getElem?_eq_some_iff.1 hI.behind).1).trans hI.behind, below_next hI.low hb, hI.no⟩
theorem find_here {l p r : List Hd} {y : Hd} {t h : Int} (hl : (p ++ [y]) ++ r = l) (hp : ∀ z ∈ p, ¬ isHd t h z) (hy : isHd t h y) : ((l.find? fun z => decide (z.s = t ∧ z.g = h)).map (·.c)).getD 0 = y.c := by
  rw [← hl, List.append_assoc, List.find?_append, List.find?_eq_none.2 (fun z hz => by simpa [isHd] using hp z hz)]
  simp [show y.s = t ∧ y.g = h from hy]
theorem find_not {l : List Hd} {t h : Int} (hp : ∀ z ∈ l, ¬ isHd t h z) : ((l.find? fun z => decide (z.s = t ∧ z.g = h)).map (·.c)).getD 0 = 0 := by
  rw [List.find?_eq_none.2 (fun z hz => by simpa [isHd] using hp z hz)]
  rfl
theorem f9_results : Tryd.f9.results = #[.cell 6 26] := by kernel_rfl
theorem isz26 : (Tryd.prog.info? 26).map (·.size) = some 1 := by kernel_rfl
/-- Of's result lies in a block of its own. -/
theorem res9 (tmps : Array Value) (w : World) (v : Int) (g : Nat) (hp : tmps.getD 6 undef = .pointer (some ⟨g, 0, none⟩)) (hg : Boxed w g 26 (.int .u8 v)) : (results Tryd.f9 tmps).run Tryd.prog w = .ok (.int .u8 v) w := by
  have y := hg.cell
  have hp' : tmps[6]?.getD undef = .pointer (some ⟨g, 0, none⟩) := by simpa using hp
  simp only [results, f9_results]
  go_simp
set_option maxRecDepth 100000 in
set_option maxHeartbeats 2000000 in
theorem of_in (n : Nat) (x to most : Int) (w : World) (hl : Lay w) (hll : LayL w) (hx : U64 x) (ht : U64 to) (hm' : U32 most) (hn : 3 ≤ n) :
    CallsIn Fence.wide n Tryd.prog 9 #[.int .u64 x, .int .u64 to, .int .u32 most] w fun e w' => e = .returned (.int .u8 (ofH x to most)) ∧ Below w.heap.size w w' := by
  have h1 : 1 ≤ n := by omega
  have hA : Below w.heap.size w (w.alloc (.cells #[.int .u8 0] 26)) := (Below.refl _ w).alloc (Nat.le_refl _) _
  have HRD := Lib.hid (read_any to most (w.alloc (.cells #[.int .u8 0] 26)) (hl.below hA) ht hm')
  simp only [hV] at HRD
  have HL := Lib.hid hl
  have HLL := Lib.hid hll
  have HX := Lib.hid hx
  have HT := Lib.hid ht
  have HM' := Lib.hid hm'
  have HA := Lib.hid hA
  clear hl hll hx ht hm' hA
  refine callsIn_of_wp_marks Tryd.func9 rfl trivial ?_ rfl
  simp only [Tryd.ntmps9, List.size_toArray, List.length_cons, List.length_nil, Nat.reduceAdd, Nat.reduceSub, Array.replicate_succ, Array.replicate_zero, List.push_toArray, List.append_toArray, List.nil_append, List.cons_append]
  obtain ⟨b, hb⟩ : ∃ b, mayH to most = b := ⟨_, rfl⟩
  rw [hb] at HRD
  have bR0 := Boxed.new w 26 (.int .u8 0)
  have hz : (w.alloc (.cells #[.int .u8 0] 26)).heap.size = w.heap.size + 1 := by simp
  cases b with
  | false =>
    have HN := Lib.hid (of_none HX.out HM'.out hb)
    have BR0 := Lib.hid bR0
    clear bR0
    gi_wp2_with (first
      | (refine ⟨trivial, ?_⟩; gi_at_call 19; refine (callsIn_wide.2 HRD.out).mono ?_; rintro e w1 ⟨rfl, hb1⟩; have hb2 : Below w.heap.size w w1 := below_next HA.out hb1; have br1 : Boxed w1 w.heap.size 26 (.int .u8 0) := (hb1.block _ BR0.out.lt).trans BR0.out; have br2 := br1.alloc (.cells #[.int .u8 (sOf to), .int .u64 (gOf to)] 48); have y6 := br2.cell; have f6 := br2.frozen)
      | (rw [Oper.semAt_eq _ _ _ (fun c h => by cases h)]; go_simp; try go_bits))
    exact ⟨_, res9 _ _ 0 w.heap.size rfl (br2.set _), by rw [HN.out], (hb2.alloc hb2.size _).setCell (p := ⟨w.heap.size, 0, none⟩) (Nat.le_refl _) _⟩
  | true =>
    have HN := Lib.hid (next_ofH HX.out HT.out HM'.out hb)
    have BR0 := Lib.hid bR0
    clear bR0 hb
    generalize sOf to = t at *
    generalize gOf to = h at *
    gi_wp2_with (first
      | (refine ⟨trivial, ?_⟩; gi_at_call 19; refine (callsIn_wide.2 HRD.out).mono ?_; rintro e w1 ⟨rfl, hb1⟩; have hb2 : Below w.heap.size w w1 := below_next HA.out hb1; have br1 : Boxed w1 w.heap.size 26 (.int .u8 0) := (hb1.block _ BR0.out.lt).trans BR0.out)
      | (refine ⟨trivial, ?_⟩; gi_at_call 21; refine (callsIn_wide.2 (next_any x most _)).mono ?_; rintro e w3 ⟨rfl, rfl⟩))
    have hb3 : Below w.heap.size w (((w1.alloc (.cells #[.int .u8 t, .int .u64 h] 48)).alloc (.cells #[.int .u64 x] 22)).alloc (.cells #[.int .u32 most] 24)) :=
      below_next (below_next (below_next hb2 ((Below.refl _ _).alloc (Nat.le_refl _) _)) ((Below.refl _ _).alloc (Nat.le_refl _) _)) ((Below.refl _ _).alloc (Nat.le_refl _) _)
    have br3 : Boxed (((w1.alloc (.cells #[.int .u8 t, .int .u64 h] 48)).alloc (.cells #[.int .u64 x] 22)).alloc (.cells #[.int .u32 most] 24)) w.heap.size 26 (.int .u8 0) := ((br1.alloc _).alloc _).alloc _
    have b7 : (((w1.alloc (.cells #[.int .u8 t, .int .u64 h] 48)).alloc (.cells #[.int .u64 x] 22)).alloc (.cells #[.int .u32 most] 24)).heap[w1.heap.size]? = some (.cells #[.int .u8 t, .int .u64 h] 48 (0, 0)) :=
      (Below.heap_alloc _ _ _ (by simp; omega)).trans ((Below.heap_alloc _ _ _ (by simp)).trans (heap_alloc_new w1 _))
    have bx : Boxed (((w1.alloc (.cells #[.int .u8 t, .int .u64 h] 48)).alloc (.cells #[.int .u64 x] 22)).alloc (.cells #[.int .u32 most] 24)) (w1.heap.size + 1) 22 (.int .u64 x) := by
      have := (Boxed.new (w1.alloc (.cells #[.int .u8 t, .int .u64 h] 48)) 22 (.int .u64 x)).alloc (.cells #[.int .u32 most] 24)
      rw [World.size_alloc] at this
      exact this
    have bm : (((w1.alloc (.cells #[.int .u8 t, .int .u64 h] 48)).alloc (.cells #[.int .u64 x] 22)).alloc (.cells #[.int .u32 most] 24)).heap[w1.heap.size + 1 + 1]? = some (.cells #[.int .u32 most] 24 (0, 0)) := by
      have := heap_alloc_new ((w1.alloc (.cells #[.int .u8 t, .int .u64 h] 48)).alloc (.cells #[.int .u64 x] 22)) (.cells #[.int .u32 most] 24)
      rw [World.size_alloc, World.size_alloc] at this
      exact this
    have hsz : (((w1.alloc (.cells #[.int .u8 t, .int .u64 h] 48)).alloc (.cells #[.int .u64 x] 22)).alloc (.cells #[.int .u32 most] 24)).heap.size = w1.heap.size + 3 := by simp
    have hw1 := hb2.size
    have hrl : w.heap.size < w1.heap.size := br1.lt
    revert hb3 br3 b7 bx bm hsz
    generalize ((w1.alloc (.cells #[.int .u8 t, .int .u64 h] 48)).alloc (.cells #[.int .u64 x] 22)).alloc (.cells #[.int .u32 most] 24) = W0
    intro hb3 br3 b7 bx bm hsz
    clear hb1 hb2 br1 HRD HA BR0 hz
    have hst := next_stops (n - 1) (w1.heap.size + 1) (w1.heap.size + 1 + 1) x most (by omega) Cs.fair W0 (HL.out.below hb3) (HLL.out.below HLL.out.lt hb3) HX.out HM'.out bx.cell bm trivial trivial
    have h0 : OfAt w w1.heap.size t h [] W0 := ⟨br3, b7, hb3, fun y hy => by cases hy⟩
    clear bm bx b7 br3 hb3
    generalize w1.heap.size = q7 at *
    refine wpIn_rangeFunc_ownH rfl h1 (gf := 32) (lb := #[.pointer (some ⟨q7 + 1, 0, none⟩), .pointer (some ⟨q7 + 1 + 1, 0, none⟩)]) rfl trivial (enters_of Tryd.func32 (by kernel_rfl) rfl)
      hst Cs.trans (fun W l o o' _ ho hc _ => Cs.put ho hc) (Below.refl _ _) (fun _ => rfl) (OfAt w q7 t h) (OfOut w t h) (OfAt.own w q7 t h _ (by omega)) (fun c => OfOut.own w t h c _ (by omega)) h0
      (fun y a' W => ∃ Bx, Bx ≠ w.heap.size ∧ W.heap[Bx]? = some (.cells #[.int .u8 y.s, .int .u64 y.g] 48 (0, 0)) ∧ a' = { tmps := #[.int .u64 x, .int .u64 to, .int .u32 most, undef, undef, undef, .pointer (some ⟨w.heap.size, 0, none⟩), .pointer (some ⟨q7, 0, none⟩), .bool true, .int .u8 y.c, .pointer (some ⟨Bx, 0, none⟩), .tuple #[.agg #[.int .u8 t, .int .u64 h], .bool true], .int .u64 to, .int .u32 most, .tuple #[.agg #[.int .u8 t, .int .u64 h], .bool true], .agg #[.int .u8 t, .int .u64 h], .bool true, .bool true, .bool false, .int .u64 x, .int .u32 most, .func (.func 32) #[] #[.pointer (some ⟨q7 + 1, 0, none⟩), .pointer (some ⟨q7 + 1 + 1, 0, none⟩)], .int .u8 y.c, .agg #[.int .u8 y.s, .int .u64 y.g], undef, undef, undef, undef], defers := [] })
      (fun y a' _ X Y row hs hg hrow => by obtain ⟨Bx, h1, h2, h3⟩ := hs; exact ⟨Bx, h1, cells_own _ Bx _ rfl () X Y row h2 hg hrow, h3⟩)
      ?assign ?body ?done ?stop
    case assign =>
      rintro l pre y W K hI hK
      simp only [Hd.vs, hV] at hK ⊢
      gi_wp2_with (rw [Oper.semAt_eq _ _ _ (fun c h => by cases h)]; go_simp; try go_bits)
      have hg : Below W.heap.size W (W.alloc (.cells #[.int .u8 y.s, .int .u64 y.g] 48)) := (Below.refl _ _).alloc (Nat.le_refl _) _
      exact hK _ _ (keeps_grown _ hg) (Cs.grown hg) (hI.grown hg) ⟨W.heap.size, by have := hI.res.lt; omega, heap_alloc_new W _, rfl⟩
    case body =>
      rintro l pre y a' W hl ⟨r, hr⟩ hI ⟨Bx, hx1, hbx, rfl⟩ hlt
      have HI := Lib.hid hI
      have y6 := hI.res.cell
      have f6 := hI.res.frozen
      have c70 : W.cell? ⟨q7, 0, none⟩ = some (.int .u8 t) := by rw [cell_of_row _ _ _ _ _ _ hI.behind]; rfl
      have c71 : W.cell? ⟨q7, 1, none⟩ = some (.int .u64 h) := by rw [cell_of_row _ _ _ _ _ _ hI.behind]; rfl
      have d0 : W.cell? ⟨Bx, 0, none⟩ = some (.int .u8 y.s) := by rw [cell_of_row _ _ _ _ _ _ hbx]; rfl
      have d1 : W.cell? ⟨Bx, 1, none⟩ = some (.int .u64 y.g) := by rw [cell_of_row _ _ _ _ _ _ hbx]; rfl
      clear hI h0 hst hr hbx hlt
      obtain ⟨c, s, g⟩ := y
      simp only at d0 d1 ⊢
      by_cases he : s = t ∧ g = h
      · obtain ⟨rfl, rfl⟩ := he
        have e48 := (eql48 s g s g W).trans (by rw [decide_eq_true (show s = s ∧ g = g from ⟨rfl, rfl⟩)])
        gi_wp2_with (rw [Oper.semAt_eq _ _ _ (fun c h => by cases h)]; go_simp; try go_bits)
        exact ⟨(KeepsOthers.setCell _ _ _).from _, rfl, ⟨pre, ⟨c, s, g⟩, rfl, HI.out.no, ⟨rfl, rfl⟩, HI.out.res.set _⟩, HI.out.low.trans ((Below.refl _ _).setCell (p := ⟨w.heap.size, 0, none⟩) (Nat.le_refl _) _)⟩
      · have e48 := (eql48 s g t h W).trans (by rw [decide_eq_false he])
        have hend : KeepsFrom W0.heap.size W W ∧ Cs W W ∧ OfAt w q7 t h (pre ++ [⟨c, s, g⟩]) W := ⟨KeepsFrom.refl _ _, Cs.grown (Below.refl _ _), HI.out.res, HI.out.behind, HI.out.low, fun z hz => by
          rcases List.mem_append.1 hz with hz | hz
          · exact HI.out.no z hz
          · rw [List.mem_singleton.1 hz]; exact he⟩
        have HE := Lib.hid he
        have HEND := Lib.hid hend
        clear he hend
        gi_wp2_with (rw [Oper.semAt_eq _ _ _ (fun c h => by cases h)]; go_simp; try go_bits)
        · exact absurd ⟨by assumption, by assumption⟩ HE.out
        · exact HEND.out
        · exact HEND.out
    case done =>
      rintro D ys W hD hS hI hK
      have y6 := hI.res.cell
      have f6 := hI.res.frozen
      have HI := Lib.hid hI
      have HRES := Lib.hid (show ofH x to most = 0 by rw [← HN.out, ← hS]; exact find_not hI.no)
      have HK := Lib.hid (show (W.setCell ⟨w.heap.size, 0, none⟩ (.int .u8 0)).heap[D]? = some (.deferred (some [])) from (Below.heap_setCell W ⟨w.heap.size, 0, none⟩ _ D (by show D ≠ w.heap.size; omega)).trans hK)
      have hD' : w.heap.size ≠ D := by omega
      clear hI h0 hst hS hK
      gi_wp2
      refine ⟨by simp, .inl ⟨_, _, rfl, run_takeDeferred HK.out, ?_⟩⟩
      refine ⟨_, res9 _ _ 0 w.heap.size rfl ((World.putObj_heap_other hD').trans (HI.out.res.set _)), by rw [HRES.out], ?_⟩
      exact (HI.out.low.trans ((Below.refl _ _).setCell (p := ⟨w.heap.size, 0, none⟩) (Nat.le_refl _) _)).trans (belowK_b (w := w) (Nat.le_refl _) _ D _ _ (by omega) HK.out rfl rfl)
    case stop =>
      rintro D c pre W hD ⟨r, hr⟩ ⟨rfl, ⟨p, y, rfl, hp, hy, hb⟩, hlow⟩ hK
      have HRES := Lib.hid (show ofH x to most = y.c by rw [← HN.out]; exact find_here hr hp hy)
      have hD' : w.heap.size ≠ D := by omega
      gi_wp2
      refine ⟨by simp, .inl ⟨_, _, rfl, run_takeDeferred hK, ?_⟩⟩
      exact ⟨_, res9 _ _ _ w.heap.size rfl ((World.putObj_heap_other hD').trans hb), by rw [HRES.out], hlow.trans (belowK_b (w := w) (Nat.le_refl _) W D _ _ (by omega) hK rfl rfl)⟩
theorem of_any' (x to most : Int) (w : World) (hl : Lay w) (hll : LayL w) (hx : U64 x) (ht : U64 to) (hm' : U32 most) :
    Calls Tryd.prog 9 #[.int .u64 x, .int .u64 to, .int .u32 most] w fun e w' => e = .returned (.int .u8 (ofH x to most)) ∧ Below w.heap.size w w' :=
  callsIn_wide.1 (of_in 3 x to most w hl hll hx ht hm' (Nat.le_refl _))
end Go.Proofs.YtfholfmlkehfnaaDoor
