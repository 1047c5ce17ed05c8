/-
  The tied card of the law ScriptsJoin is proved, for every input; condition: the table of sizes holds what the program's text lays (the card ties it).
-/
import Derived.Test.YtlgfdemggkiojaaDoorL7
import Derived.Test.YtlgfdemggkiojaaDoorBase
import Derived.Test.YtlgfdemggkiojaaDoorCards
namespace Go.Proofs.YtlgfdemggkiojaaDoor
open Go.ChangeShapes Go.WideShapes Go.ChangeAt Go.WideMaps Go.WideElems Go.RowKit Go.Joins

section
variable {H : Type} {enc : TypeId × Value → H} {W : World} {r : Reach} {b0 base : Nat} {sp : Nat → Bool} {v0 v1 : Value} {d0 : DataW H} {p0 : List MemPlace} {d1 : DataW H} {p1 : List MemPlace}
set_option maxRecDepth 100000 in
theorem lawJoin_any (hv0 : Value.okWide Tryd.prog W r b0 22 v0) (h0 : DataW.Trod enc Tryd.prog W base sp true 22 v0 d0 p0) (hv1 : Value.okWide Tryd.prog W r b0 22 v1) (h1 : DataW.Trod enc Tryd.prog W base sp true 22 v1 d1 p1) (hl : Lay W) :
    Calls Tryd.prog 7 #[v0, v1] W fun e W' => e = .returned (.bool true) ∧ Below W.heap.size W W' := by
  obtain ⟨A0, l0, cap0, rfl, hc0, hm0, hs0, hn0⟩ := open_byts hv0 h0
  obtain ⟨A1, l1, cap1, rfl, hc1, hm1, hs1, hn1⟩ := open_byts hv1 h1
  by_cases hx : l0.length ≤ 1500
  · by_cases hy : l1.length ≤ 1500
    · exact lawJoin A0 A1 cap0 cap1 l0 l1 W hl hs0 hc0 hm0 hn0 hs1 hc1 hm1 hn1 hx hy
    · exact lawJoin_long A0 A1 _ _ cap0 cap1 W hl (.inr ⟨hx, by omega⟩)
  · exact lawJoin_long A0 A1 _ _ cap0 cap1 W hl (.inl (by omega))
end
set_option maxRecDepth 100000 in
theorem lifted7 (os : Os) (started : os.Started) (H : Type) (enc : TypeId × Value → H) :
    ReturnsInHanded {} Tryd.checked os 7 .any (fun w args => (Rows.scriptsJoinSpec.pre enc Tryd.prog Tryd.f7 [] false w args ∧ laidMetH Tryd.prog laidL w) ∧ sizedMet enc Tryd.prog Tryd.f7 (OpenSpec.ofChange Rows.scriptsJoinSpec) false w args)
      (Rows.scriptsJoinSpec.post enc Tryd.prog Tryd.f7 false true false false) := by
  refine returnsInHanded_of_change_and (C := Tryd.checked) (X := fun w _ => laidMetH Tryd.prog laidL w) (fun _ _ _ hh h => h.of_heap hh) own started (by kernel_rfl) Tryd.func7
    (ChangeSpec.witness_shaped (enc := enc) (C := Tryd.checked) (os := os) (X := fun w _ => laidMetH Tryd.prog laidL w) false (World.doorLaid Tryd.prog 400 os) #[.slice none 0 0, .slice none 0 0] 8 rfl (World.shaped_of_RefB (by kernel_rfl) (by kernel_rfl)) (by kernel_rfl) (by kernel_rfl) (by kernel_rfl) (door_met os _)) ?_
  intro W base args ds gs before hval0 hW _ _ hL _
  have hval : ∀ (j : Nat) t v, Tryd.f7.params[j]? = some t → args[j]? = some v → Value.okWide Tryd.prog W .any base t v := hval0
  have hW' := hW
  obtain ⟨p, q, hA0, hV, rfl, hfz, hnd⟩ := hW
  have hA : DataW.TrodAll enc Tryd.prog W 0 (fun _ => true) true Tryd.f7.params.toList args.toList ds p := hA0
  rw [Tryd.params7] at hA hval
  obtain ⟨v0, v1, d0, d1, p0, p1, rfl, rfl, rfl, h0, h1⟩ := trodAll_two hA
  obtain ⟨rfl, rfl⟩ := trodVars_none hV
  clear hA0 hval0
  have hlt : ∀ x ∈ p0 ++ p1, x.block < W.heap.size := fun x hx => hW'.lt x (List.mem_append_left _ hx)
  refine (lawJoin_any (hval 0 22 v0 rfl rfl) h0 (hval 1 22 v1 rfl rfl) h1 (lay_of_laid hL)).mono fun e W' ⟨he, hb⟩ => ?_
  subst he
  refine ⟨_, rfl, _, _, _, [], (p0 ++ p1), [], hW', trodAll_mk1 (shut_bool Tryd.underlying4 _), ?_, rfl, hb.frame _, fun h => by cases h⟩
  exact trodAll_mk2 (Below.trod laid_out (by kernel_rfl) (of_decide_eq_true (by kernel_rfl)) h0 hb (fun x hx => hlt x (List.mem_append_left _ hx))) (Below.trod laid_out (by kernel_rfl) (of_decide_eq_true (by kernel_rfl)) h1 hb (fun x hx => hlt x (List.mem_append_right _ hx)))

theorem scriptsJoin_holds : Rows.ScriptsJoinSaid :=
  OpenClaim.holds_of_wide 7 Tryd.f7 rfl rfl rfl rfl rfl rfl rfl ⟨rfl, rfl, rfl, rfl, rfl⟩ rfl rfl rfl rfl rfl (by kernel_rfl) Tryd.func7 (by kernel_rfl)
    (of_decide_eq_true (by kernel_rfl)) (by unfold Func.isWrapper; rw [if_neg (of_decide_eq_false (by kernel_rfl))]; exact ⟨rfl, rfl⟩)
    (fun os started H enc _ => lifted7 os started H enc)

theorem scriptsJoin_card : Rows.ScriptsJoinCardSaid :=
  Claim7.holds_tied_plain_at .later [] [.data] true (true, "5fe3c69f0272eb8ec76d8b146ec7ecd3d013b93e67ad556143f864cad3e9e9dc") false
    scriptsJoin_holds (fun _ h => by cases h) (by kernel_rfl) (fun _ h => by cases h) scriptsJoin_row_tie rfl ⟨rfl, rfl⟩ (by kernel_rfl) rfl
    (fun f fn hf hfn => by
      obtain rfl : f = 7 := Option.some.inj ((show Tryd.prog.funcNamed "ragpicker/ragpickerlaw03.ScriptsJoin" = some 7 by kernel_rfl).symm.trans hf) |>.symm
      obtain rfl : fn = Tryd.f7 := (Option.some.inj (Tryd.func7.symm.trans hfn)).symm
      exact ⟨by kernel_rfl, fun j t ht => by
        rw [Tryd.params7] at ht
        have hm : t ∈ [22, 22] := by simpa using Array.mem_of_getElem? ht
        have hall : ([22, 22].all fun u => !Tryd.prog.wantsStandIn u) = true := by kernel_rfl
        exact (show Tryd.prog.wantsStandIn t = false by simpa using List.all_eq_true.1 hall t hm)⟩)
    (by kernel_rfl)
#print axioms scriptsJoin_card
end Go.Proofs.YtlgfdemggkiojaaDoor
