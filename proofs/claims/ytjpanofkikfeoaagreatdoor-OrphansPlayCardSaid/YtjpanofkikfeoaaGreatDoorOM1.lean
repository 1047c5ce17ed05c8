/-
  A memory that the call made, and what the law's helper of does to it; condition: the tables as laid, numbers of their kinds.
-/
import Derived.Test.YtjpanofkikfeoaaGreatDoorOP1
import Derived.Test.YtjpanofkikfeoaaGreatDoorOE1
import Derived.Test.YtjpanofkikfeoaaGreatDoorTB1
import Derived.Deep.RegionHeld3
import Derived.Deep.DeepCutAuto
namespace Go.Proofs.YtjpanofkikfeoaaGreatDoor
open Go.RowKit Go.Maps

theorem results_cellE {P : Program} {fn : Func} {p : Tmp} {ty : TypeId} (h : fn.results = #[.cell p ty]) (tmps : Array Value) (w : World) (g : Nat) (t : TypeId) (cs : Array Value) (fr : Nat × Nat) (d : TypeDesc)
    (hp : tmps.getD p undef = .pointer (some ⟨g, 0, none⟩)) (hg : w.heap[g]? = some (.cells cs t fr))
    (hu : P.underlying ty = some d) (hd : (match d with | .struct _ | .array _ _ => true | _ => false) = true) (hi : (P.info? ty).map (·.size) = some cs.size) :
    (results fn tmps).run P w = .ok (.agg cs) w := by
  have hp' : tmps[p]?.getD undef = .pointer (some ⟨g, 0, none⟩) := by simpa using hp
  simp [results, h, hp', asAddr, run_loadVar_row w g t ty cs fr d hg hu hd hi]
/-- A memory of the call's own, its words, at most so many steps. -/
structure Me (W : World) (p b : Nat) (V : Ad → Int) (k : Int) (w : World) : Prop where
  mem : ∃ M : MV, M.V = V ∧ M.s.st ≤ k ∧ VX p b M w
  low : Below W.heap.size W w
  b0 : W.heap.size ≤ b
  p0 : W.heap.size ≤ p
section
variable {p b : Nat} {V V' : Ad → Int} {k k' v : Int} {W w w' : World}
theorem Me.mono (h : Me W p b V k w) (hk : k ≤ k') : Me W p b V k' w := by
  obtain ⟨⟨M, h1, h2, h3⟩, a, b, c⟩ := h
  exact ⟨⟨M, h1, by omega, h3⟩, a, b, c⟩
theorem Me.below (h : Me W p b V k w) (hb : Below w.heap.size w w') : Me W p b V k w' := by
  obtain ⟨⟨M, h1, h2, h3⟩, a, b, c⟩ := h
  exact ⟨⟨M, h1, h2, h3.below hb⟩, a.trans (hb.mono a.size), b, c⟩
theorem Me.u64 (h : Me W p b V k w) (x : Ad) : U64 (V x) := by
  obtain ⟨⟨M, h1, h2, h3⟩, _⟩ := h
  rw [← h1]; exact h3.u64 x
theorem Me.lay (h : Me W p b V k w) : Lay w ∧ LayM w := by
  obtain ⟨⟨M, h1, h2, h3⟩, _⟩ := h
  exact ⟨h3.lay, h3.laym⟩
theorem Me.onl {M : MV} (h : Me W p b V k w) (hV : M.V = V') (hs : M.s.st ≤ k') (F : VX p b M w') (o : Onl p b [] w w') : Me W p b V' k' w' :=
  ⟨⟨M, hV, hs, F⟩, h.low.trans (o.below h.p0 h.b0 (fun x hx => by cases hx) h.low.size), h.b0, h.p0⟩
theorem Me.load (h : Me W p b V k w) (hk : k < 900000) {x : Ad} {c a f : Int} (hx : x.k = c ∧ x.a = a ∧ x.f = f) (hv : V x = v) :
    Calls Tryz.prog 93 #[.pointer (some ⟨p, 0, none⟩), .agg #[.int .u8 c, .int .i64 a, .int .i64 f]] w fun e w' => e = .returned (.int .u64 v) ∧ Me W p b V (k + 1) w' := by
  obtain ⟨M, h1, h2, h3⟩ := h.mem
  refine (h3.ldA (v := v) (by omega) hx ((congrFun h1 x).trans hv)).mono ?_
  rintro e w' ⟨rfl, F, o⟩
  exact ⟨rfl, h.onl (M := ldM M x) h1 (by show M.s.st + 1 ≤ _; omega) F (.of_only o)⟩
theorem Me.store (h : Me W p b V k w) (hk : k < 900000) {x : Ad} {c a f : Int} (hx : x.k = c ∧ x.a = a ∧ x.f = f) (hv : U64 v) :
    Calls Tryz.prog 23 #[.pointer (some ⟨p, 0, none⟩), .agg #[.int .u8 c, .int .i64 a, .int .i64 f], .int .u64 v] w fun e w' => e = .returned (.tuple #[]) ∧ Me W p b (setV V x v) (k + 1) w' := by
  obtain ⟨M, h1, h2, h3⟩ := h.mem
  refine (h3.stA (by omega) hx hv).mono ?_
  rintro e w' ⟨rfl, F, o⟩
  exact ⟨rfl, h.onl (M := stM M x v) (by show setV M.V x v = _; rw [h1]) (by show M.s.st + 1 ≤ _; omega) F (.of_only o)⟩
/-- What stands while an entry's words are stored. -/
structure OfS (p b A C : Nat) (s : Int) (M : MV) (w0 w : World) : Prop where
  f : VX p b M w
  a : Bq A 3 [.int .i64 s] w
  c : Bq C 62 (entS s).cells w
  z : Bq (A + 1) 62 [.int .i64 0, .int .u32 0, .bool false, .int .u64 0, .int .u64 0, .int .u64 0] w
  o : Onl p b [] w0 w
theorem OfS.below {A C : Nat} {s : Int} {M : MV} {w0 : World} (h : OfS p b A C s M w0 w) (hb : Below w.heap.size w w') : OfS p b A C s M w0 w' := ⟨h.f.below hb, h.a.below hb, h.c.below hb, h.z.below hb, h.o.trans (.of_below hb)⟩
theorem OfS.mem {A C : Nat} {s : Int} {M M' : MV} {w0 : World} (h : OfS p b A C s M w0 w) (F : VX p b M' w') (o : Only p b w w') : OfS p b A C s M' w0 w' := by
  have n1 := h.f.ne (by decide) h.a
  have n2 := h.f.ne (by decide) h.c
  have n3 := h.f.ne (by decide) h.z
  exact ⟨F, h.a.same (o.block A h.a.lt n1.1 n1.2), h.c.same (o.block C h.c.lt n2.1 n2.2), h.z.same (o.block _ h.z.lt n3.1 n3.2), h.o.trans (.of_only o)⟩
theorem OfS.c4 {A C : Nat} {s : Int} {M : MV} {w0 : World} (h : OfS p b A C s M w0 w) : w.cell? ⟨C, 1, none⟩ = some (.int .u32 (s + 3)) ∧ w.cell? ⟨C, 3, none⟩ = some (.int .u64 (s + 1)) ∧ w.cell? ⟨C, 4, none⟩ = some (.int .u64 (s + 5)) ∧ w.cell? ⟨C, 5, none⟩ = some (.int .u64 (s + 9)) := ⟨h.c.cell 1, h.c.cell 3, h.c.cell 4, h.c.cell 5⟩
theorem six_set {q : Nat} {M : MV} {w0 : World} (F : VX p b M w) (o : Onl p b [] w0 w) (hp : q ≠ p) (hb : q ≠ b) (hq : 1 < q) (hf : w0.heap.size ≤ q) (v0 v1 v2 v3 v4 v5 : Value) :
    VX p b M ((((((w.setCell ⟨q, 0, none⟩ v0).setCell ⟨q, 1, none⟩ v1).setCell ⟨q, 2, none⟩ v2).setCell ⟨q, 3, none⟩ v3).setCell ⟨q, 4, none⟩ v4).setCell ⟨q, 5, none⟩ v5) ∧ Onl p b [] w0 ((((((w.setCell ⟨q, 0, none⟩ v0).setCell ⟨q, 1, none⟩ v1).setCell ⟨q, 2, none⟩ v2).setCell ⟨q, 3, none⟩ v3).setCell ⟨q, 4, none⟩ v4).setCell ⟨q, 5, none⟩ v5) := by
  have g := fun (X : World) (h : Onl p b [q] w0 X) (i : Nat) (v : Value) => h.trans (.setCell X (List.mem_singleton.2 rfl) i v)
  exact ⟨(((((F.setQ hp hb hq 0 v0).setQ hp hb hq 1 v1).setQ hp hb hq 2 v2).setQ hp hb hq 3 v3).setQ hp hb hq 4 v4).setQ hp hb hq 5 v5, (g _ (g _ (g _ (g _ (g _ (g _ (o.more (fun _ h => by cases h)) 0 v0) 1 v1) 2 v2) 3 v3) 4 v4) 5 v5).fresh hf⟩
theorem at_any {A : Nat} {s f : Int} (h : Bq A 3 [.int .i64 s] w) : Calls Tryz.prog 35 #[.int .i64 f, .pointer (some ⟨A, 0, none⟩)] w fun e w' => e = .returned (.agg #[.int .u8 9, .int .i64 s, .int .i64 f]) ∧ Below w.heap.size w w' := by
  have c0 := (h.below ((Below.refl _ w).alloc (Nat.le_refl _) (.cells #[.int .u8 0, .int .i64 0, .int .i64 0] 34))).cell 0
  simp only [List.getElem?_cons_zero] at c0
  clear h
  go_enter Tryz.func35, Tryz.ntmps35
  go_wp2
  exact bodyPost_ret (v := .agg #[.int .u8 9, .int .i64 s, .int .i64 f]) (by simp [results, Tryz.results35, go_sem]) rfl ⟨rfl, (Below.refl _ _).alloc (Nat.le_refl _) _⟩
set_option maxRecDepth 100000 in
set_option maxHeartbeats 8000000 in
theorem of_vx {s : Int} {M : MV} (F : VX p b M w) (hk : M.s.st < 900000) (hs : 0 ≤ s ∧ s < 256) :
    Calls Tryz.prog 18 #[.pointer (some ⟨p, 0, none⟩), .int .i64 s] w fun e w' => e = .returned (.agg (entS s).cells.toArray) ∧ ∃ M', VX p b M' w' ∧ M'.V = ofV M.V s ∧ M'.s.st ≤ M.s.st + 4 ∧ Onl p b [] w w' := by
  have hw1 : IntKind.u32.wrap s = s := by simp [IntKind.wrap, IntKind.bits, IntKind.signed]; omega
  have hw2 : IntKind.u32.wrap (s + 3) = s + 3 := by simp [IntKind.wrap, IntKind.bits, IntKind.signed]; omega
  have hw3 : IntKind.u64.wrap s = s := by simp [IntKind.wrap, IntKind.bits, IntKind.signed]; omega
  have hw4 : IntKind.u64.wrap (s + 1) = s + 1 := by simp [IntKind.wrap, IntKind.bits, IntKind.signed]; omega
  have hw5 : IntKind.u64.wrap (s + 5) = s + 5 := by simp [IntKind.wrap, IntKind.bits, IntKind.signed]; omega
  have hw6 : IntKind.u64.wrap (s + 9) = s + 9 := by simp [IntKind.wrap, IntKind.bits, IntKind.signed]; omega
  have hu3 : U64 (s + 3) := ⟨by omega, by omega⟩
  have hv0 : U64 (headerW 2 (s + 3)) := headerW_u64 2 (s + 3) (by decide) ⟨by omega, by omega⟩
  have hv1 : U64 (s + 1) := ⟨by omega, by omega⟩
  have hv2 : U64 (s + 5) := ⟨by omega, by omega⟩
  have hv3 : U64 (s + 9) := ⟨by omega, by omega⟩
  have hst : ∀ j : Int, 0 ≤ j → j ≤ 4 → M.s.st + j < 1000000 := fun j _ h => by omega
  have hA0 : Below w.heap.size w (((w.alloc (.cells #[.int .i64 s] 3)).alloc (.cells #[.int .i64 0, .int .u32 0, .bool false, .int .u64 0, .int .u64 0, .int .u64 0] 62)).alloc (.cells #[.int .i64 s, .int .u32 (s + 3), .bool false, .int .u64 (s + 1), .int .u64 (s + 5), .int .u64 (s + 9)] 62)) := (((Below.refl _ _).alloc (Nat.le_refl _) _).alloc (by simp) _).alloc (by simp; omega) _
  have k0 : Bq w.heap.size 3 [.int .i64 s] (((w.alloc (.cells #[.int .i64 s] 3)).alloc (.cells #[.int .i64 0, .int .u32 0, .bool false, .int .u64 0, .int .u64 0, .int .u64 0] 62)).alloc (.cells #[.int .i64 s, .int .u32 (s + 3), .bool false, .int .u64 (s + 1), .int .u64 (s + 5), .int .u64 (s + 9)] 62)) := ((Bq.new w [.int .i64 s] _).below ((Below.refl _ _).alloc (by simp) _)).below ((Below.refl _ _).alloc (by simp) _)
  have k1 : Bq (w.heap.size + 1) 62 [.int .i64 0, .int .u32 0, .bool false, .int .u64 0, .int .u64 0, .int .u64 0] (((w.alloc (.cells #[.int .i64 s] 3)).alloc (.cells #[.int .i64 0, .int .u32 0, .bool false, .int .u64 0, .int .u64 0, .int .u64 0] 62)).alloc (.cells #[.int .i64 s, .int .u32 (s + 3), .bool false, .int .u64 (s + 1), .int .u64 (s + 5), .int .u64 (s + 9)] 62)) := by
    have := (Bq.new (w.alloc (.cells #[.int .i64 s] 3)) [.int .i64 0, .int .u32 0, .bool false, .int .u64 0, .int .u64 0, .int .u64 0] 62).below ((Below.refl _ _).alloc (Nat.le_refl _) (.cells #[.int .i64 s, .int .u32 (s + 3), .bool false, .int .u64 (s + 1), .int .u64 (s + 5), .int .u64 (s + 9)] 62))
    rw [World.size_alloc] at this
    exact this
  have k2 : Bq (w.heap.size + 1 + 1) 62 (entS s).cells (((w.alloc (.cells #[.int .i64 s] 3)).alloc (.cells #[.int .i64 0, .int .u32 0, .bool false, .int .u64 0, .int .u64 0, .int .u64 0] 62)).alloc (.cells #[.int .i64 s, .int .u32 (s + 3), .bool false, .int .u64 (s + 1), .int .u64 (s + 5), .int .u64 (s + 9)] 62)) := by
    have := Bq.new ((w.alloc (.cells #[.int .i64 s] 3)).alloc (.cells #[.int .i64 0, .int .u32 0, .bool false, .int .u64 0, .int .u64 0, .int .u64 0] 62)) (entS s).cells 62
    rw [World.size_alloc, World.size_alloc] at this
    exact this
  have HX := Lib.hid (show OfS p b w.heap.size (w.heap.size + 1 + 1) s M w (((w.alloc (.cells #[.int .i64 s] 3)).alloc (.cells #[.int .i64 0, .int .u32 0, .bool false, .int .u64 0, .int .u64 0, .int .u64 0] 62)).alloc (.cells #[.int .i64 s, .int .u32 (s + 3), .bool false, .int .u64 (s + 1), .int .u64 (s + 5), .int .u64 (s + 9)] 62)) from ⟨F.below hA0, k0, k2, k1, .of_below hA0⟩)
  have HK := Lib.hid hk
  have HW1 := Lib.hid (show 1 < w.heap.size + 1 from by have := F.lt; have := F.p1; omega)
  clear F hA0 k0 k1 k2 hk
  go_enter Tryz.func18, Tryz.ntmps18
  go_upto_region 3 with (fail)
  revert HX
  generalize (((w.alloc (.cells #[.int .i64 s] 3)).alloc (.cells #[.int .i64 0, .int .u32 0, .bool false, .int .u64 0, .int .u64 0, .int .u64 0] 62)).alloc (.cells #[.int .i64 s, .int .u32 (s + 3), .bool false, .int .u64 (s + 1), .int .u64 (s + 5), .int .u64 (s + 9)] 62)) = X
  intro HX
  have hsz : ∀ x : Nat, x = x := fun _ => rfl
  clear hsz
  have hq0 : (M).s.st < 1000000 := by
    have := HK.out
    show M.s.st < 1000000
    omega
  have HD0 := Lib.hid (HX.out.below (Below.refl _ _).drew)
  have hs0a := Lib.hid HD0.out.c4.1
  go_region_held3 (fun w9 => w9.cell? ⟨w.heap.size + 1 + 1, 1, none⟩ = some (.int .u32 (s + 3)))
    (first | exact hs0a.out | exact hs0b.out | exact hs0c.out | exact hs0d.out | fail)
    (first
      | (go_at_call 35; (with_reducible refine (at_any (f := 0) HD0.out.a).mono ?_); rintro ee wA ⟨rfl, bA⟩; have HE0 := Lib.hid (HD0.out.below bA); have hs0b := Lib.hid HE0.out.c4.1; clear bA)
      | (go_at_call 36; (with_reducible refine (header_any 2 (s + 3) _ HE0.out.f.lay (by decide) hu3).mono ?_); rintro ee wB ⟨rfl, iB, rfl⟩; have HG0 := Lib.hid (HE0.out.below (below_drewN' (Below.refl _ _) iB)); have hs0c := Lib.hid HG0.out.c4.1)
      | (go_at_call 23; (with_reducible refine (HG0.out.f.stA hq0 (adS_at hs (by decide)) (hv0)).mono ?_); rintro ee wC ⟨rfl, F5, o5⟩; have HX1 := Lib.hid (HG0.out.mem F5 o5); have hs0d := Lib.hid HX1.out.c4.1; clear F5 o5)
      | fail)
  all_goals (go_wp2_with fail)
  have hq1 : ((stM M (adS s 0) (headerW 2 (s + 3)))).s.st < 1000000 := by
    have := HK.out
    show M.s.st + 1 < 1000000
    omega
  have HD1 := Lib.hid (HX1.out.below (Below.refl _ _).drew)
  have hs1a := Lib.hid HD1.out.c4.2.1
  go_region_held3 (fun w9 => w9.cell? ⟨w.heap.size + 1 + 1, 3, none⟩ = some (.int .u64 (s + 1)))
    (first | exact hs1a.out | exact hs1b.out | exact hs1d.out | fail)
    (first
      | (go_at_call 35; (with_reducible refine (at_any (f := 1) HD1.out.a).mono ?_); rintro ee wA ⟨rfl, bA⟩; have HE1 := Lib.hid (HD1.out.below bA); have hs1b := Lib.hid HE1.out.c4.2.1; clear bA)
      | (go_at_call 23; (with_reducible refine (HE1.out.f.stA hq1 (adS_at hs (by decide)) (hv1)).mono ?_); rintro ee wC ⟨rfl, F5, o5⟩; have HX2 := Lib.hid (HE1.out.mem F5 o5); have hs1d := Lib.hid HX2.out.c4.2.1; clear F5 o5)
      | fail)
  all_goals (go_wp2_with fail)
  have hq2 : ((stM (stM M (adS s 0) (headerW 2 (s + 3))) (adS s 1) (s + 1))).s.st < 1000000 := by
    have := HK.out
    show M.s.st + 1 + 1 < 1000000
    omega
  have HD2 := Lib.hid (HX2.out.below (Below.refl _ _).drew)
  have hs2a := Lib.hid HD2.out.c4.2.2.1
  go_region_held3 (fun w9 => w9.cell? ⟨w.heap.size + 1 + 1, 4, none⟩ = some (.int .u64 (s + 5)))
    (first | exact hs2a.out | exact hs2b.out | exact hs2d.out | fail)
    (first
      | (go_at_call 35; (with_reducible refine (at_any (f := 3) HD2.out.a).mono ?_); rintro ee wA ⟨rfl, bA⟩; have HE2 := Lib.hid (HD2.out.below bA); have hs2b := Lib.hid HE2.out.c4.2.2.1; clear bA)
      | (go_at_call 23; (with_reducible refine (HE2.out.f.stA hq2 (adS_at hs (by decide)) (hv2)).mono ?_); rintro ee wC ⟨rfl, F5, o5⟩; have HX3 := Lib.hid (HE2.out.mem F5 o5); have hs2d := Lib.hid HX3.out.c4.2.2.1; clear F5 o5)
      | fail)
  all_goals (go_wp2_with fail)
  have hq3 : ((stM (stM (stM M (adS s 0) (headerW 2 (s + 3))) (adS s 1) (s + 1)) (adS s 3) (s + 5))).s.st < 1000000 := by
    have := HK.out
    show M.s.st + 1 + 1 + 1 < 1000000
    omega
  have HD3 := Lib.hid (HX3.out.below (Below.refl _ _).drew)
  have hs3a := Lib.hid HD3.out.c4.2.2.2
  go_region_held3 (fun w9 => w9.cell? ⟨w.heap.size + 1 + 1, 5, none⟩ = some (.int .u64 (s + 9)))
    (first | exact hs3a.out | exact hs3b.out | exact hs3d.out | fail)
    (first
      | (go_at_call 35; (with_reducible refine (at_any (f := 4) HD3.out.a).mono ?_); rintro ee wA ⟨rfl, bA⟩; have HE3 := Lib.hid (HD3.out.below bA); have hs3b := Lib.hid HE3.out.c4.2.2.2; clear bA)
      | (go_at_call 23; (with_reducible refine (HE3.out.f.stA hq3 (adS_at hs (by decide)) (hv3)).mono ?_); rintro ee wC ⟨rfl, F5, o5⟩; have HX4 := Lib.hid (HE3.out.mem F5 o5); have hs3d := Lib.hid HX4.out.c4.2.2.2; clear F5 o5)
      | fail)
  skip
  obtain ⟨x0, x1, x2, x3, x4, x5⟩ := (show wC.cell? ⟨w.heap.size + 1 + 1, 0, none⟩ = some (.int .i64 s) ∧ wC.cell? ⟨w.heap.size + 1 + 1, 1, none⟩ = some (.int .u32 (s + 3)) ∧ wC.cell? ⟨w.heap.size + 1 + 1, 2, none⟩ = some (.bool false) ∧ wC.cell? ⟨w.heap.size + 1 + 1, 3, none⟩ = some (.int .u64 (s + 1)) ∧ wC.cell? ⟨w.heap.size + 1 + 1, 4, none⟩ = some (.int .u64 (s + 5)) ∧ wC.cell? ⟨w.heap.size + 1 + 1, 5, none⟩ = some (.int .u64 (s + 9)) from ⟨HX4.out.c.cell 0, HX4.out.c.cell 1, HX4.out.c.cell 2, HX4.out.c.cell 3, HX4.out.c.cell 4, HX4.out.c.cell 5⟩)
  have y0 := HX4.out.z.cell 0
  have y1 := HX4.out.z.cell 1
  have y2 := HX4.out.z.cell 2
  have y3 := HX4.out.z.cell 3
  have y4 := HX4.out.z.cell 4
  have y5 := HX4.out.z.cell 5
  have z0 := HX4.out.z.free 0
  have z1 := HX4.out.z.free 1
  have z2 := HX4.out.z.free 2
  have z3 := HX4.out.z.free 3
  have z4 := HX4.out.z.free 4
  have z5 := HX4.out.z.free 5
  simp only [List.getElem?_cons_zero, List.getElem?_cons_succ] at y0 y1 y2 y3 y4 y5
  have h6 := ((((((HX4.out.z.set 0 (.int .i64 s) rfl).set 1 (.int .u32 (s + 3)) rfl).set 2 (.bool false) rfl).set 3 (.int .u64 (s + 1)) rfl).set 4 (.int .u64 (s + 5)) rfl).set 5 (.int .u64 (s + 9)) rfl)
  have HH6 := Lib.hid h6
  have HSS := Lib.hid (six_set HX4.out.f HX4.out.o (HX4.out.f.ne (by decide) HX4.out.z).1 (HX4.out.f.ne (by decide) HX4.out.z).2 (by have := HX4.out.f.lay.1; have := HW1.out; omega) (by omega) (.int .i64 s) (.int .u32 (s + 3)) (.bool false) (.int .u64 (s + 1)) (.int .u64 (s + 5)) (.int .u64 (s + 9)))
  clear h6
  go_wp2_with fail
  refine bodyPost_ret (results_cellE Tryz.results18 _ _ _ _ _ _ _ rfl HH6.out Tryz.underlying62 rfl (by kernel_rfl)) rfl ⟨rfl, (stM (stM (stM (stM M (adS s 0) (headerW 2 (s + 3))) (adS s 1) (s + 1)) (adS s 3) (s + 5)) (adS s 4) (s + 9)), HSS.out.1, rfl, by show M.s.st + 1 + 1 + 1 + 1 ≤ _; omega, HSS.out.2⟩
theorem of_any {s : Int} (h : Me W p b V k w) (hk : k < 900000) (hs : 0 ≤ s ∧ s < 256) :
    Calls Tryz.prog 18 #[.pointer (some ⟨p, 0, none⟩), .int .i64 s] w fun e w' => e = .returned (.agg (entS s).cells.toArray) ∧ Me W p b (ofV V s) (k + 4) w' := by
  obtain ⟨M, h1, h2, h3⟩ := h.mem
  refine (of_vx h3 (by omega) hs).mono ?_
  rintro e w' ⟨he, M', F, hV, hst, o⟩
  exact ⟨he, h.onl (hV.trans (by rw [h1])) (by omega) F o⟩
end
end Go.Proofs.YtjpanofkikfeoaaGreatDoor
