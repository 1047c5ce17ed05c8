/-
  The program's Done of layer 5: the header behind a change; conditions: the tables read as the program lays them; the arguments are numbers of their kinds.
-/
import Derived.Test.YtfholfmlkehfnaaDoorG2
namespace Go.Proofs.YtfholfmlkehfnaaDoor
open Go.RowKit Go.Shelf

/-- What stands between two rounds of Done's loop. -/
structure DnAt (w : World) (c most : Int) (pre : List {z : Hd // HOk z.s z.g most}) (W : World) : Prop where
  chg : Boxed W w.heap.size 26 (.int .u8 c)
  res0 : Boxed W (w.heap.size + 1) 22 (.int .u64 0)
  res1 : Boxed W (w.heap.size + 2) 4 (.bool false)
  low : Below w.heap.size w W
  no : ∀ y ∈ pre, ¬ y.1.c = c
/-- What stands where a round has left. -/
structure DnOut (w : World) (c most : Int) (k : Code) (pre : List {z : Hd // HOk z.s z.g most}) (W : World) : Prop where
  code : k = .ret
  found : ∃ p y, pre = p ++ [y] ∧ (∀ z ∈ p, ¬ z.1.c = c) ∧ y.1.c = c ∧ Boxed W (w.heap.size + 1) 22 (.int .u64 (hw y.1.s y.1.g))
  res1 : Boxed W (w.heap.size + 2) 4 (.bool true)
  low : Below w.heap.size w W
theorem DnAt.own (w : World) (c most : Int) (B : Nat) (hB : w.heap.size ≤ B) : OwnFrom B (DnAt w c most) := fun _ X Y row hs hg hrow =>
  ⟨(boxed_own w.heap.size 26 (fun _ : Unit => Value.int .u8 c)).from B () X Y row hs.chg hg hrow, (boxed_own (w.heap.size + 1) 22 (fun _ : Unit => Value.int .u64 0)).from B () X Y row hs.res0 hg hrow,
    (boxed_own (w.heap.size + 2) 4 (fun _ : Unit => Value.bool false)).from B () X Y row hs.res1 hg hrow, ownFrom_below (Nat.le_refl _) hB () X Y row hs.low hg hrow, hs.no⟩
theorem DnOut.own (w : World) (c most : Int) (k : Code) (B : Nat) (hB : w.heap.size ≤ B) : OwnFrom B (DnOut w c most k) := fun _ X Y row hs hg hrow => by
  obtain ⟨p, y, h1, h2, h3, h4⟩ := hs.found
  exact ⟨hs.code, ⟨p, y, h1, h2, h3, (boxed_own (w.heap.size + 1) 22 (fun _ : Unit => Value.int .u64 (hw y.1.s y.1.g))).from B () X Y row h4 hg hrow⟩, (boxed_own (w.heap.size + 2) 4 (fun _ : Unit => Value.bool true)).from B () X Y row hs.res1 hg hrow, ownFrom_below (Nat.le_refl _) hB () X Y row hs.low hg hrow⟩
theorem DnAt.grown {w : World} {c most : Int} {pre : List {z : Hd // HOk z.s z.g most}} {W W' : World} (hI : DnAt w c most pre W) (hb : Below W.heap.size W W') : DnAt w c most pre W' :=
  ⟨(hb.block _ hI.chg.lt).trans hI.chg, (hb.block _ hI.res0.lt).trans hI.res0, (hb.block _ hI.res1.lt).trans hI.res1, below_next hI.low hb, hI.no⟩
theorem fdone_here {l r : List Hd} {most : Int} {p : List {z : Hd // HOk z.s z.g most}} {y : {z : Hd // HOk z.s z.g most}} {c : Int} (hl : (p ++ [y]).map (·.1) ++ r = l) (hp : ∀ z ∈ p, ¬ z.1.c = c) (hy : y.1.c = c) : (l.find? fun z => decide (z.c = c)).map (fun z => hw z.s z.g) = some (hw y.1.s y.1.g) := by
  rw [← hl, List.map_append, List.append_assoc, List.find?_append, List.find?_eq_none.2 (fun z hz => by obtain ⟨q, hq, rfl⟩ := List.mem_map.1 hz; simpa using hp q hq)]
  simp [hy]
theorem fdone_not {l : List Hd} {most : Int} {p : List {z : Hd // HOk z.s z.g most}} {c : Int} (hl : p.map (·.1) = l) (hp : ∀ z ∈ p, ¬ z.1.c = c) : (l.find? fun z => decide (z.c = c)).map (fun z => hw z.s z.g) = none := by
  rw [← hl, List.find?_eq_none.2 (fun z hz => by obtain ⟨q, hq, rfl⟩ := List.mem_map.1 hz; simpa using hp q hq)]
  rfl
theorem f11_results : Tryd.f11.results = #[.cell 6 22, .cell 7 4] := by kernel_rfl
/-- Done's results lie in blocks of their own. -/
theorem res11 (tmps : Array Value) (w : World) (v : Int) (b : Bool) (g : Nat) (hp : tmps.getD 6 undef = .pointer (some ⟨g, 0, none⟩)) (hp2 : tmps.getD 7 undef = .pointer (some ⟨g + 1, 0, none⟩)) (hg : Boxed w g 22 (.int .u64 v)) (hg2 : Boxed w (g + 1) 4 (.bool b)) :
    (results Tryd.f11 tmps).run Tryd.prog w = .ok (.tuple #[.int .u64 v, .bool b]) w := by
  have y := hg.cell
  have y2 := hg2.cell
  have hp' : tmps[6]?.getD undef = .pointer (some ⟨g, 0, none⟩) := by simpa using hp
  have hp2' : tmps[7]?.getD undef = .pointer (some ⟨g + 1, 0, none⟩) := by simpa using hp2
  simp only [results, f11_results]
  go_simp
set_option maxRecDepth 100000 in
set_option maxHeartbeats 2000000 in
theorem done_in (n : Nat) (x c most : Int) (w : World) (hl : Lay w) (hll : LayL w) (hx : U64 x) (hm' : U32 most) (hn : 3 ≤ n) :
    CallsIn Fence.wide n Tryd.prog 11 #[.int .u64 x, .int .u8 c, .int .u32 most] w fun e w' => e = .returned (toldW (doneH x c most)) ∧ Below w.heap.size w w' := by
  have h1 : 1 ≤ n := by omega
  have HL := Lib.hid hl
  have HLL := Lib.hid hll
  have HX := Lib.hid hx
  have HM' := Lib.hid hm'
  have HN := Lib.hid (next_doneH (c := c) (most := most) hx)
  clear hl hll hx hm'
  refine callsIn_of_wp_marks Tryd.func11 rfl trivial ?_ rfl
  simp only [Tryd.ntmps11, List.size_toArray, List.length_cons, List.length_nil, Nat.reduceAdd, Nat.reduceSub, Array.replicate_succ, Array.replicate_zero, List.push_toArray, List.append_toArray, List.nil_append, List.cons_append]
  gi_wp2_with (refine ⟨trivial, ?_⟩; gi_at_call 21; refine (callsIn_wide.2 (next_any x most _)).mono ?_; rintro e w3 ⟨rfl, rfl⟩)
  have b0 : Boxed (((((w.alloc (.cells #[.int .u8 c] 26)).alloc (.cells #[.int .u64 0] 22)).alloc (.cells #[.bool false] 4)).alloc (.cells #[.int .u64 x] 22)).alloc (.cells #[.int .u32 most] 24)) w.heap.size 26 (.int .u8 c) := ((((Boxed.new w 26 (.int .u8 c)).alloc _).alloc _).alloc _).alloc _
  have b1 : Boxed (((((w.alloc (.cells #[.int .u8 c] 26)).alloc (.cells #[.int .u64 0] 22)).alloc (.cells #[.bool false] 4)).alloc (.cells #[.int .u64 x] 22)).alloc (.cells #[.int .u32 most] 24)) (w.heap.size + 1) 22 (.int .u64 0) := by
    have := (((Boxed.new (w.alloc (.cells #[.int .u8 c] 26)) 22 (.int .u64 0)).alloc (.cells #[.bool false] 4)).alloc (.cells #[.int .u64 x] 22)).alloc (.cells #[.int .u32 most] 24)
    simpa only [World.size_alloc] using this
  have b2 : Boxed (((((w.alloc (.cells #[.int .u8 c] 26)).alloc (.cells #[.int .u64 0] 22)).alloc (.cells #[.bool false] 4)).alloc (.cells #[.int .u64 x] 22)).alloc (.cells #[.int .u32 most] 24)) (w.heap.size + 2) 4 (.bool false) := by
    have := ((Boxed.new ((w.alloc (.cells #[.int .u8 c] 26)).alloc (.cells #[.int .u64 0] 22)) 4 (.bool false)).alloc (.cells #[.int .u64 x] 22)).alloc (.cells #[.int .u32 most] 24)
    simpa only [World.size_alloc] using this
  have b3 : Boxed (((((w.alloc (.cells #[.int .u8 c] 26)).alloc (.cells #[.int .u64 0] 22)).alloc (.cells #[.bool false] 4)).alloc (.cells #[.int .u64 x] 22)).alloc (.cells #[.int .u32 most] 24)) (w.heap.size + 1 + 1 + 1) 22 (.int .u64 x) := by
    have := (Boxed.new (((w.alloc (.cells #[.int .u8 c] 26)).alloc (.cells #[.int .u64 0] 22)).alloc (.cells #[.bool false] 4)) 22 (.int .u64 x)).alloc (.cells #[.int .u32 most] 24)
    simpa only [World.size_alloc] using this
  have b4 : (((((w.alloc (.cells #[.int .u8 c] 26)).alloc (.cells #[.int .u64 0] 22)).alloc (.cells #[.bool false] 4)).alloc (.cells #[.int .u64 x] 22)).alloc (.cells #[.int .u32 most] 24)).heap[w.heap.size + 1 + 1 + 1 + 1]? = some (.cells #[.int .u32 most] 24 (0, 0)) := by
    have := heap_alloc_new ((((w.alloc (.cells #[.int .u8 c] 26)).alloc (.cells #[.int .u64 0] 22)).alloc (.cells #[.bool false] 4)).alloc (.cells #[.int .u64 x] 22)) (.cells #[.int .u32 most] 24)
    simpa only [World.size_alloc] using this
  have hlow : Below w.heap.size w (((((w.alloc (.cells #[.int .u8 c] 26)).alloc (.cells #[.int .u64 0] 22)).alloc (.cells #[.bool false] 4)).alloc (.cells #[.int .u64 x] 22)).alloc (.cells #[.int .u32 most] 24)) :=
    below_next (below_next (below_next (below_next ((Below.refl _ _).alloc (Nat.le_refl _) _) ((Below.refl _ _).alloc (Nat.le_refl _) _)) ((Below.refl _ _).alloc (Nat.le_refl _) _)) ((Below.refl _ _).alloc (Nat.le_refl _) _)) ((Below.refl _ _).alloc (Nat.le_refl _) _)
  have hsz : (((((w.alloc (.cells #[.int .u8 c] 26)).alloc (.cells #[.int .u64 0] 22)).alloc (.cells #[.bool false] 4)).alloc (.cells #[.int .u64 x] 22)).alloc (.cells #[.int .u32 most] 24)).heap.size = w.heap.size + 5 := by simp
  revert b0 b1 b2 b3 b4 hlow hsz
  generalize (((((w.alloc (.cells #[.int .u8 c] 26)).alloc (.cells #[.int .u64 0] 22)).alloc (.cells #[.bool false] 4)).alloc (.cells #[.int .u64 x] 22)).alloc (.cells #[.int .u32 most] 24)) = W0
  intro b0 b1 b2 b3 b4 hlow hsz
  have hst := next_stops_of (n - 1) (w.heap.size + 1 + 1 + 1) (w.heap.size + 1 + 1 + 1 + 1) x most (by omega) Cs.fair (fun z => HOk z.s z.g most) (fun z hz => mem_next HX.out hz) W0 (HL.out.below hlow) (HLL.out.below HLL.out.lt hlow) HX.out HM'.out b3.cell b4 trivial trivial
  have h0 : DnAt w c most [] W0 := ⟨b0, b1, b2, hlow, fun y hy => by cases hy⟩
  clear b0 b1 b2 b3 b4 hlow
  refine wpIn_rangeFunc_ownH rfl h1 (gf := 32) (lb := #[.pointer (some ⟨w.heap.size + 1 + 1 + 1, 0, none⟩), .pointer (some ⟨w.heap.size + 1 + 1 + 1 + 1, 0, none⟩)]) rfl trivial (enters_of Tryd.func32 (by kernel_rfl) rfl)
    hst Cs.trans (fun W l o o' _ ho hc _ => Cs.put ho hc) (Below.refl _ _) (fun _ => rfl) (DnAt w c most) (DnOut w c most) (DnAt.own w c most _ (by omega)) (fun k => DnOut.own w c most k _ (by omega)) h0
    (fun y a' W => ∃ Bx, W.heap[Bx]? = some (.cells #[.int .u8 y.1.s, .int .u64 y.1.g] 48 (0, 0)) ∧ a' = { tmps := #[.int .u64 x, .int .u8 c, .int .u32 most, undef, .pointer (some ⟨w.heap.size, 0, none⟩), undef, .pointer (some ⟨w.heap.size + 1, 0, none⟩), .pointer (some ⟨w.heap.size + 1 + 1, 0, none⟩), .int .u8 y.1.c, .pointer (some ⟨Bx, 0, none⟩), .int .u64 x, .int .u32 most, .func (.func 32) #[] #[.pointer (some ⟨w.heap.size + 1 + 1 + 1, 0, none⟩), .pointer (some ⟨w.heap.size + 1 + 1 + 1 + 1, 0, none⟩)], .int .u8 y.1.c, .agg #[.int .u8 y.1.s, .int .u64 y.1.g], undef, undef, undef, undef, undef, undef, undef, undef, undef], defers := [] })
    (fun y a' _ X Y row hs hg hrow => by obtain ⟨Bx, h2, h3⟩ := hs; exact ⟨Bx, cells_own _ Bx _ rfl () X Y row h2 hg hrow, h3⟩)
    ?assign ?body ?done ?stop
  case assign =>
    rintro l pre y W K hI hK
    simp only [Hd.vs, hV] at hK ⊢
    gi_wp2_with (rw [Oper.semAt_eq _ _ _ (fun c h => by cases h)]; go_simp; try go_bits)
    have hg : Below W.heap.size W (W.alloc (.cells #[.int .u8 y.1.s, .int .u64 y.1.g] 48)) := (Below.refl _ _).alloc (Nat.le_refl _) _
    exact hK _ _ (keeps_grown _ hg) (Cs.grown hg) (hI.grown hg) ⟨W.heap.size, heap_alloc_new W _, rfl⟩
  case body =>
    rintro l pre y a' W hl ⟨r, hr⟩ hI ⟨Bx, hbx, rfl⟩ hlt
    have HI := Lib.hid hI
    have y4 := hI.chg.cell
    have d0 : W.cell? ⟨Bx, 0, none⟩ = some (.int .u8 y.1.s) := by rw [cell_of_row _ _ _ _ _ _ hbx]; rfl
    have d1 : W.cell? ⟨Bx, 1, none⟩ = some (.int .u64 y.1.g) := by rw [cell_of_row _ _ _ _ _ _ hbx]; rfl
    clear hI h0 hst hr hbx hlt hsz
    obtain ⟨⟨k, s, g⟩, hok⟩ := y
    have HOKK := Lib.hid hok
    have hg32 : U32 g := by have h1 := HM'.out; have h2 := hok.g0; have h3 := hok.gm; simp only at h2 h3; unfold U32 at h1 ⊢; omega
    have hg64 : U64 g := by unfold U32 at hg32; unfold U64; omega
    have hs0 : 0 ≤ s := hok.s0
    have HH := Lib.hid (header_any s g W (HL.out.below HI.out.low) hs0 hg64)
    rw [headerW_hw hs0 hok.s4 hg32] at HH
    have e1 : IntKind.u32.wrap g = g := by rw [IntKind.wrap_u32]; unfold U32 at hg32; omega
    simp only at d0 d1 ⊢
    by_cases he : k = c
    · subst he
      clear hg32 hg64 hs0
      gi_wp2_with (rw [Oper.semAt_eq _ _ _ (fun c h => by cases h)]; go_simp; try go_bits)
      refine ⟨trivial, fun e => (by cases e), ?_⟩
      refine CallsIn.mono (show CallsIn (Fence.wide.inRound l) _ _ _ _ _ _ from callsIn_wide.2 HH.out) ?_
      rintro e w5 ⟨rfl, hn5⟩
      have hb5 : Below W.heap.size W w5 := by obtain ⟨j, rfl⟩ := hn5; exact drewN_below W j
      have hI5 := HI.out.grown hb5
      have y6 := hI5.res0.cell
      have f6 := hI5.res0.frozen
      have y7 := hI5.res1.cell
      have f7 := hI5.res1.frozen
      have HI5 := Lib.hid hI5
      have HB5 := Lib.hid hb5
      clear hn5 hI5 hb5 HH
      gi_wp2_with (rw [Oper.semAt_eq _ _ _ (fun c h => by cases h)]; go_simp; try go_bits)
      have hk : KeepsFrom W0.heap.size W ((w5.setCell ⟨w.heap.size + 1, 0, none⟩ (.int .u64 (hw s g))).setCell ⟨w.heap.size + 1 + 1, 0, none⟩ (.bool true)) :=
        (keeps_grown _ HB5.out).trans ((KeepsOthers.setCell _ _ _).trans (KeepsOthers.setCell _ _ _) |>.from _)
      exact ⟨hk, rfl, ⟨pre, ⟨⟨k, s, g⟩, hok⟩, rfl, HI.out.no, rfl, (HI5.out.res0.set _).other (by omega) _⟩, (HI5.out.res1.other (by omega) _).set _,
        HI5.out.low.trans (((Below.refl _ _).setCell (p := ⟨w.heap.size + 1, 0, none⟩) (by show w.heap.size ≤ w.heap.size + 1; omega) _).setCell (p := ⟨w.heap.size + 1 + 1, 0, none⟩) (by show w.heap.size ≤ w.heap.size + 1 + 1; omega) _)⟩
    · have hke : (k == c) = false := beq_eq_false_iff_ne.2 he
      have hend : KeepsFrom W0.heap.size W W ∧ Cs W W ∧ DnAt w c most (pre ++ [⟨⟨k, s, g⟩, hok⟩]) W := ⟨KeepsFrom.refl _ _, Cs.grown (Below.refl _ _), HI.out.chg, HI.out.res0, HI.out.res1, HI.out.low, fun z hz => by
        rcases List.mem_append.1 hz with hz | hz
        · exact HI.out.no z hz
        · rw [List.mem_singleton.1 hz]; exact he⟩
      have HEND := Lib.hid hend
      clear hend he hg32 hg64 hs0 HH
      gi_wp2_with (rw [Oper.semAt_eq _ _ _ (fun c h => by cases h)]; go_simp; try go_bits)
      exact HEND.out
  case done =>
    rintro D ys W hD hS hI hK
    have y6 := hI.res0.cell
    have f6 := hI.res0.frozen
    have y7 := hI.res1.cell
    have f7 := hI.res1.frozen
    have HI := Lib.hid hI
    have HRES := Lib.hid (show doneH x c most = none by rw [← HN.out]; exact fdone_not hS hI.no)
    have HK := Lib.hid hK
    clear hI h0 hst hS hK
    have hset : ∀ v b, Boxed ((W.setCell ⟨w.heap.size + 1, 0, none⟩ v).setCell ⟨w.heap.size + 1 + 1, 0, none⟩ b) (w.heap.size + 1) 22 v ∧ Boxed ((W.setCell ⟨w.heap.size + 1, 0, none⟩ v).setCell ⟨w.heap.size + 1 + 1, 0, none⟩ b) (w.heap.size + 1 + 1) 4 b := fun v b =>
      ⟨(HI.out.res0.set v).other (by omega) b, (HI.out.res1.other (by omega) v).set b⟩
    have HS := Lib.hid hset
    have HKK := Lib.hid (show ((W.setCell ⟨w.heap.size + 1, 0, none⟩ (.int .u64 0)).setCell ⟨w.heap.size + 1 + 1, 0, none⟩ (.bool false)).heap[D]? = some (.deferred (some [])) from
      (Below.heap_setCell _ ⟨w.heap.size + 1 + 1, 0, none⟩ _ D (by show D ≠ w.heap.size + 1 + 1; omega)).trans ((Below.heap_setCell W ⟨w.heap.size + 1, 0, none⟩ _ D (by show D ≠ w.heap.size + 1; omega)).trans HK.out))
    have HB := Lib.hid (show Below w.heap.size w ((W.setCell ⟨w.heap.size + 1, 0, none⟩ (.int .u64 0)).setCell ⟨w.heap.size + 1 + 1, 0, none⟩ (.bool false)) from
      HI.out.low.trans (((Below.refl _ _).setCell (p := ⟨w.heap.size + 1, 0, none⟩) (by show w.heap.size ≤ w.heap.size + 1; omega) _).setCell (p := ⟨w.heap.size + 1 + 1, 0, none⟩) (by show w.heap.size ≤ w.heap.size + 1 + 1; omega) _))
    have hD1 : w.heap.size + 1 ≠ D := by omega
    have hD2 : w.heap.size + 1 + 1 ≠ D := by omega
    clear hset
    gi_wp2
    refine ⟨by simp, .inl ⟨_, _, rfl, run_takeDeferred HKK.out, ?_⟩⟩
    exact ⟨_, res11 _ _ 0 false (w.heap.size + 1) rfl rfl ((World.putObj_heap_other hD1).trans (HS.out _ _).1) ((World.putObj_heap_other hD2).trans (HS.out _ _).2), by rw [HRES.out]; rfl, HB.out.trans (belowK_b (w := w) (Nat.le_refl _) _ D _ _ (by omega) HKK.out rfl rfl)⟩
  case stop =>
    rintro D k pre W hD ⟨r, hr⟩ ⟨rfl, ⟨p, y, rfl, hp, hy, hb⟩, hb1, hlow⟩ hK
    have HRES := Lib.hid (show doneH x c most = some (hw y.1.s y.1.g) by rw [← HN.out]; exact fdone_here hr hp hy)
    have hD1 : w.heap.size + 1 ≠ D := by omega
    have hD2 : w.heap.size + 1 + 1 ≠ D := by omega
    gi_wp2
    refine ⟨by simp, .inl ⟨_, _, rfl, run_takeDeferred hK, ?_⟩⟩
    exact ⟨_, res11 _ _ _ _ (w.heap.size + 1) rfl rfl ((World.putObj_heap_other hD1).trans hb) ((World.putObj_heap_other hD2).trans hb1), by rw [HRES.out]; rfl, hlow.trans (belowK_b (w := w) (Nat.le_refl _) W D _ _ (by omega) hK rfl rfl)⟩
theorem done_any (x c most : Int) (w : World) (hl : Lay w) (hll : LayL w) (hx : U64 x) (hm' : U32 most) :
    Calls Tryd.prog 11 #[.int .u64 x, .int .u8 c, .int .u32 most] w fun e w' => e = .returned (toldW (doneH x c most)) ∧ Below w.heap.size w w' :=
  callsIn_wide.1 (done_in 3 x c most w hl hll hx hm' (Nat.le_refl _))
end Go.Proofs.YtfholfmlkehfnaaDoor
