/-
  The tied card of the law SegsCount is proved, for every input; condition: the table of fields and the table of turns hold what the program's text lays (the card ties them).
-/
import Derived.Test.YtelehpegnjbcaaaDoorGBase
import Derived.Test.YtelehpegnjbcaaaDoorCards
namespace Go.Proofs.YtelehpegnjbcaaaDoor
open Go.ChangeShapes Go.WideShapes Go.ChangeAt Go.WideMaps Go.WideElems Go.RowKit Go.Joins

section
variable {H : Type} {enc : TypeId × Value → H} {W : World} {r : Reach} {b0 base : Nat} {sp : Nat → Bool} {v0 v1 : Value} {d0 : DataW H} {p0 : List MemPlace} {d1 : DataW H} {p1 : List MemPlace}
set_option maxRecDepth 100000 in
theorem lawCount_any (hv0 : Value.okWide Tryd.prog W r b0 34 v0) (h0 : DataW.Trod enc Tryd.prog W base sp true 34 v0 d0 p0) (hv1 : Value.okWide Tryd.prog W r b0 36 v1) (h1 : DataW.Trod enc Tryd.prog W base sp true 36 v1 d1 p1) (hl : LayH W) :
    Calls Tryd.prog 5 #[v0, v1] W fun e W' => e = .returned (.bool true) ∧ Below W.heap.size W W' := by
  obtain ⟨A0, l0, cap0, rfl, _, _, hs0, hw0, hn0⟩ := open_nums Tryd.underlying34 Tryd.underlying31 cells31' hv0 h0
  obtain ⟨a1, b1, c1, e1, f1, rfl⟩ := open_counts hv1 h1
  by_cases hn : l0.length ≤ 300 ∧ (0 ≤ e1 ∧ e1 ≤ 1099511627776) ∧ (0 ≤ f1 ∧ f1 ≤ 1099511627776)
  · exact lawCount prg A0 cap0 l0 a1 b1 c1 e1 f1 W hl hs0 (fun z hz => u64_of (hw0 z hz)) hn0 hn.1 hn.2.1 hn.2.2
  · exact lawCount_out prg A0 _ cap0 a1 b1 c1 e1 f1 W hl hn
end
set_option maxRecDepth 100000 in
theorem lifted5 (os : Os) (started : os.Started) (H : Type) (enc : TypeId × Value → H) :
    ReturnsInHanded {} Tryd.checked os 5 .any (fun w args => (Rows.segsCountSpec.pre enc Tryd.prog Tryd.f5 [] false w args ∧ laidMetH Tryd.prog laidL w) ∧ sizedMet enc Tryd.prog Tryd.f5 (OpenSpec.ofChange Rows.segsCountSpec) false w args)
      (Rows.segsCountSpec.post enc Tryd.prog Tryd.f5 false true false false) := by
  refine returnsInHanded_of_change_and (C := Tryd.checked) (X := fun w _ => laidMetH Tryd.prog laidL w) (fun _ _ _ hh h => h.of_heap hh) own started (by kernel_rfl) Tryd.func5
    (ChangeSpec.witness_shaped (enc := enc) (C := Tryd.checked) (os := os) (X := fun w _ => laidMetH Tryd.prog laidL w) false (World.doorLaid Tryd.prog 400 os) #[.slice none 0 0, .agg #[.int .i64 0, .int .i64 0, .int .i64 0, .int .i64 0, .int .i64 0]] 8 rfl (World.shaped_of_RefB (by kernel_rfl) (by kernel_rfl)) (by kernel_rfl) (by kernel_rfl) (by kernel_rfl) (door_met os _)) ?_
  intro W base args ds gs before hval0 hW _ _ hL _
  have hval : ∀ (j : Nat) t v, Tryd.f5.params[j]? = some t → args[j]? = some v → Value.okWide Tryd.prog W .any base t v := hval0
  have hW' := hW
  obtain ⟨p, q, hA0, hV, rfl, hfz, hnd⟩ := hW
  have hA : DataW.TrodAll enc Tryd.prog W 0 (fun _ => true) true Tryd.f5.params.toList args.toList ds p := hA0
  rw [Tryd.params5] at hA hval
  obtain ⟨v0, v1, d0, d1, p0, p1, rfl, rfl, rfl, h0, h1⟩ := trodAll_two hA
  obtain ⟨rfl, rfl⟩ := trodVars_none hV
  clear hA0 hval0
  have hlt : ∀ x ∈ p0 ++ p1, x.block < W.heap.size := fun x hx => hW'.lt x (List.mem_append_left _ hx)
  refine (lawCount_any (hval 0 34 v0 rfl rfl) h0 (hval 1 36 v1 rfl rfl) h1 (lay_of_laid hL)).mono fun e W' ⟨he, hb⟩ => ?_
  subst he
  refine ⟨_, rfl, _, _, _, [], (p0 ++ p1), [], hW', trodAll_mk1 (shut_bool Tryd.underlying4 _), ?_, rfl, hb.frame _, fun h => by cases h⟩
  exact trodAll_mk2 (Below.trod laid_out (by kernel_rfl) (of_decide_eq_true (by kernel_rfl)) h0 hb (fun x hx => hlt x (List.mem_append_left _ hx))) (Below.trod laid_out (by kernel_rfl) (of_decide_eq_true (by kernel_rfl)) h1 hb (fun x hx => hlt x (List.mem_append_right _ hx)))

theorem segsCount_holds : Rows.SegsCountSaid :=
  OpenClaim.holds_of_wide 5 Tryd.f5 rfl rfl rfl rfl rfl rfl rfl ⟨rfl, rfl, rfl, rfl, rfl⟩ rfl rfl rfl rfl rfl (by kernel_rfl) Tryd.func5 (by kernel_rfl)
    (of_decide_eq_true (by kernel_rfl)) (by unfold Func.isWrapper; rw [if_neg (of_decide_eq_false (by kernel_rfl))]; exact ⟨rfl, rfl⟩)
    (fun os started H enc _ => lifted5 os started H enc)

theorem segsCount_card : Rows.SegsCountCardSaid :=
  Claim7.holds_tied_plain_at .later [] [.data, .data] true (true, "ec9cd4f3cdd80c17ef48e08dd655e302e41f103adceca96126322acc9cbe31b7") false
    (segsCount_holds ) (fun _ h => by cases h) (by kernel_rfl) (fun _ h => by cases h) segsCount_row_tie rfl ⟨rfl, rfl⟩ (by kernel_rfl) rfl
    (fun f fn hf hfn => by
      obtain rfl : f = 5 := Option.some.inj ((show Tryd.prog.funcNamed "ragpicker/ragpickerlaw06.SegsCount" = some 5 by kernel_rfl).symm.trans hf) |>.symm
      obtain rfl : fn = Tryd.f5 := (Option.some.inj (Tryd.func5.symm.trans hfn)).symm
      exact ⟨by kernel_rfl, fun j t ht => by
        rw [Tryd.params5] at ht
        have hm : t ∈ [34, 36] := by simpa using Array.mem_of_getElem? ht
        have hall : ([34, 36].all fun u => !Tryd.prog.wantsStandIn u) = true := by kernel_rfl
        exact (show Tryd.prog.wantsStandIn t = false by simpa using List.all_eq_true.1 hall t hm)⟩)
    (by kernel_rfl)
#print axioms segsCount_card
end Go.Proofs.YtelehpegnjbcaaaDoor
