/-
  The tied card of the law SnapsAny is proved, for every input; condition: the table of rooms holds what the program's text lays (the card ties it).
-/
import Derived.Test.YtapcgikamldchaaDoorFSto
import Derived.Test.YtapcgikamldchaaDoorLSAny
import Derived.Test.YtapcgikamldchaaDoorSFT
import Derived.Test.YtapcgikamldchaaDoorCards
namespace Go.Proofs.YtapcgikamldchaaDoor
open Go.ChangeShapes Go.WideShapes Go.ChangeAt Go.WideMaps Go.WideElems Go.RowKit Go.Joins

section
variable {H : Type} {enc : TypeId × Value → H} {W : World} {r : Reach} {b0 base : Nat} {sp : Nat → Bool} {v0 v1 : Value} {d0 : DataW H} {p0 : List MemPlace} {d1 : DataW H} {p1 : List MemPlace}
theorem u32_ofT {a : Int} (h : (Lit.int .u32 a).wf = true) : 0 ≤ a ∧ a < 4294967296 := by
  simp [Lit.wf, IntKind.min, IntKind.max, IntKind.signed, IntKind.bits] at h
  exact ⟨by omega, by omega⟩
theorem u64_ofT {a : Int} (h : (Lit.int .u64 a).wf = true) : U64 a := by
  simp [Lit.wf, IntKind.min, IntKind.max, IntKind.signed, IntKind.bits] at h
  exact ⟨by omega, by omega⟩
set_option maxRecDepth 100000 in
theorem lawAny_any (hv0 : Value.okWide Tryd.prog W r b0 33 v0) (h0 : DataW.Trod enc Tryd.prog W base sp true 33 v0 d0 p0) (hv1 : Value.okWide Tryd.prog W r b0 22 v1) (h1 : DataW.Trod enc Tryd.prog W base sp true 22 v1 d1 p1) (hl : LayH W) :
    Calls Tryd.prog 4 #[v0, v1] W fun e W' => e = .returned (.bool true) ∧ Below W.heap.size W W' := by
  obtain ⟨A0, n0, cap0, es0, rfl, hl0, hs0, hk0⟩ := open_ths hv0 h0
  rcases open_stos hv1 h1 with rfl | ⟨g, off, nn1, cap1, c, rfl, hc⟩
  · by_cases h : n0 ≤ 100
    · exact sany_good A0 n0 cap0 es0 Option.none 0 0 W hl.2 hs0 h (by decide) (fun X _ hX => begin_none X hX)
    · exact sany_long A0 n0 cap0 Option.none 0 0 W hl.2 (by omega)
  · by_cases h : n0 ≤ 100 ∧ nn1 ≤ 300
    · exact sany_good A0 n0 cap0 es0 _ nn1 cap1 W hl.2 hs0 h.1 h.2 (fun X hb hX => (begin_any g off cap1 nn1 c X hX (hc.below hb) h.2).mono (by
        rintro e W' ⟨p, m, b, he, k1, k2, k3⟩
        exact ⟨p, m, b, he, k1, Nat.le_of_lt k2, k3⟩))
    · exact sany_long A0 n0 cap0 _ nn1 cap1 W hl.2 h
end
set_option maxRecDepth 100000 in
theorem lifted4 (os : Os) (started : os.Started) (H : Type) (enc : TypeId × Value → H) :
    ReturnsInHanded {} Tryd.checked os 4 .any (fun w args => (Rows.snapsAnySpec.pre enc Tryd.prog Tryd.f4 [] false w args ∧ laidMetH Tryd.prog laidL w) ∧ sizedMet enc Tryd.prog Tryd.f4 (OpenSpec.ofChange Rows.snapsAnySpec) false w args)
      (Rows.snapsAnySpec.post enc Tryd.prog Tryd.f4 false true false false) := by
  refine returnsInHanded_of_change_and (C := Tryd.checked) (X := fun w _ => laidMetH Tryd.prog laidL w) (fun _ _ _ hh h => h.of_heap hh) own started (by kernel_rfl) Tryd.func4
    (ChangeSpec.witness_shaped (enc := enc) (C := Tryd.checked) (os := os) (X := fun w _ => laidMetH Tryd.prog laidL w) false (World.doorLaid Tryd.prog 400 os) #[.slice none 0 0, .slice none 0 0] 8 rfl (World.shaped_of_RefB (by kernel_rfl) (by kernel_rfl)) (by kernel_rfl) (by kernel_rfl) (by kernel_rfl) (door_met os _)) ?_
  intro W base args ds gs before hval0 hW _ _ hL _
  have hval : ∀ (j : Nat) t v, Tryd.f4.params[j]? = some t → args[j]? = some v → Value.okWide Tryd.prog W .any base t v := hval0
  have hW' := hW
  obtain ⟨p, q, hA0, hV, rfl, hfz, hnd⟩ := hW
  have hA : DataW.TrodAll enc Tryd.prog W 0 (fun _ => true) true Tryd.f4.params.toList args.toList ds p := hA0
  rw [Tryd.params4] at hA hval
  obtain ⟨v0, v1, d0, d1, p0, p1, rfl, rfl, rfl, h0, h1⟩ := trodAll_two hA
  obtain ⟨rfl, rfl⟩ := trodVars_none hV
  clear hA0 hval0
  have hlt : ∀ x ∈ p0 ++ p1, x.block < W.heap.size := fun x hx => hW'.lt x (List.mem_append_left _ hx)
  refine (lawAny_any (hval 0 33 v0 rfl rfl) h0 (hval 1 22 v1 rfl rfl) h1 (lay_of_laid hL)).mono fun e W' ⟨he, hb⟩ => ?_
  subst he
  refine ⟨_, rfl, _, _, _, [], (p0 ++ p1), [], hW', trodAll_mk1 (shut_bool Tryd.underlying4 _), ?_, rfl, hb.frame _, fun h => by cases h⟩
  exact trodAll_mk2 (Below.trod laid_out (by kernel_rfl) (of_decide_eq_true (by kernel_rfl)) h0 hb (fun x hx => hlt x (List.mem_append_left _ hx))) (Below.trod laid_out (by kernel_rfl) (of_decide_eq_true (by kernel_rfl)) h1 hb (fun x hx => hlt x (List.mem_append_right _ hx)))

theorem snapsAny_holds : Rows.SnapsAnySaid :=
  OpenClaim.holds_of_wide 4 Tryd.f4 rfl rfl rfl rfl rfl rfl rfl ⟨rfl, rfl, rfl, rfl, rfl⟩ rfl rfl rfl rfl rfl (by kernel_rfl) Tryd.func4 (by kernel_rfl)
    (of_decide_eq_true (by kernel_rfl)) (by unfold Func.isWrapper; rw [if_neg (of_decide_eq_false (by kernel_rfl))]; exact ⟨rfl, rfl⟩)
    (fun os started H enc _ => lifted4 os started H enc)

theorem snapsAny_card : Rows.SnapsAnyCardSaid :=
  Claim7.holds_tied_plain_at .later [] [.data] true (true, "dfd2cd19e9b4c8177e608d10af18a1be17818bdba7ca920830b111b36a385b95") false
    snapsAny_holds (fun _ h => by cases h) (by kernel_rfl) (fun _ h => by cases h) snapsAny_row_tie rfl ⟨rfl, rfl⟩ (by kernel_rfl) rfl
    (fun f fn hf hfn => by
      obtain rfl : f = 4 := Option.some.inj ((show Tryd.prog.funcNamed "ragpicker/ragpickerlaw14.SnapsAny" = some 4 by kernel_rfl).symm.trans hf) |>.symm
      obtain rfl : fn = Tryd.f4 := (Option.some.inj (Tryd.func4.symm.trans hfn)).symm
      exact ⟨by kernel_rfl, fun j t ht => by
        rw [Tryd.params4] at ht
        have hm : t ∈ [33, 22] := by simpa using Array.mem_of_getElem? ht
        have hall : ([33, 22].all fun u => !Tryd.prog.wantsStandIn u) = true := by kernel_rfl
        exact (show Tryd.prog.wantsStandIn t = false by simpa using List.all_eq_true.1 hall t hm)⟩)
    (by kernel_rfl)
#print axioms snapsAny_card
end Go.Proofs.YtapcgikamldchaaDoor
