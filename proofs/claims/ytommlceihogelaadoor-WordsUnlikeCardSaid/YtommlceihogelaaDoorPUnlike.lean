/-
  The tied card of the law WordsUnlike is proved, for every input; condition: the table of fields holds what the program's text lays (the card ties it).
-/
import Derived.Test.YtommlceihogelaaDoorLUnlike
import Derived.Test.YtommlceihogelaaDoorBase
import Derived.Test.YtommlceihogelaaDoorShut
import Derived.Test.YtommlceihogelaaDoorCards
namespace Go.Proofs.YtommlceihogelaaDoor
open Go.ChangeShapes Go.WideShapes Go.ChangeAt Go.WideMaps Go.WideElems Go.RowKit Go.Joins

set_option maxRecDepth 100000 in
theorem lifted8 (os : Os) (started : os.Started) (H : Type) (enc : TypeId × Value → H) :
    ReturnsInHanded {} Tryd.checked os 8 .any (fun w args => (Rows.wordsUnlikeSpec.pre enc Tryd.prog Tryd.f8 [] false w args ∧ laidMetH Tryd.prog laidL w) ∧ sizedMet enc Tryd.prog Tryd.f8 (OpenSpec.ofChange Rows.wordsUnlikeSpec) false w args)
      (Rows.wordsUnlikeSpec.post enc Tryd.prog Tryd.f8 false true false false) := by
  refine returnsInHanded_of_change_and (C := Tryd.checked) (X := fun w _ => laidMetH Tryd.prog laidL w) (fun _ _ _ hh h => h.of_heap hh) own started (by kernel_rfl) Tryd.func8
    (ChangeSpec.witness_shaped (enc := enc) (C := Tryd.checked) (os := os) (X := fun w _ => laidMetH Tryd.prog laidL w) false (World.doorLaid Tryd.prog 400 os) #[.agg #[.int .i64 0, .int .u32 0, .bool false], .agg #[.int .i64 0, .int .u32 0, .bool false], .agg #[.int .u64 0, .int .u64 0]] 8 rfl (World.shaped_of_RefB (by kernel_rfl) (by kernel_rfl)) (by kernel_rfl) (by kernel_rfl) (by kernel_rfl) (door_met os _)) ?_
  intro W base args ds gs before hval0 hW _ _ hL _
  have hval : ∀ (j : Nat) t v, Tryd.f8.params[j]? = some t → args[j]? = some v → Value.okWide Tryd.prog W .any base t v := hval0
  have hW' := hW
  obtain ⟨p, q, hA0, hV, rfl, hfz, hnd⟩ := hW
  have hA : DataW.TrodAll enc Tryd.prog W 0 (fun _ => true) true Tryd.f8.params.toList args.toList ds p := hA0
  rw [Tryd.params8] at hA hval
  obtain ⟨v0, v1, v2, d0, d1, d2, p0, p1, p2, rfl, rfl, rfl, h0, h1, h2⟩ := trodAll_three hA
  obtain ⟨rfl, rfl⟩ := trodVars_none hV
  obtain ⟨rs, rg, rm, rfl, rfl, rfl, w_rs, w_rg⟩ := open_ref (hval 0 24 v0 rfl rfl) h0
  have b_rs := bounds_i64 w_rs
  have b_rg := bounds_u32 w_rg
  obtain ⟨cs, cg, cm, rfl, rfl, rfl, w_cs, w_cg⟩ := open_ref (hval 1 24 v1 rfl rfl) h1
  have b_cs := bounds_i64 w_cs
  have b_cg := bounds_u32 w_cg
  obtain ⟨t0, t1, rfl, rfl, rfl, w_t0, w_t1⟩ := open_pair (hval 2 54 v2 rfl rfl) h2
  have b_t0 := bounds_u64 w_t0
  have b_t1 := bounds_u64 w_t1
  clear hA0 hval0
  simp only [List.append_nil] at hW'
  refine (lawUnlike rs rg rm cs cg cm t0 t1 W (lay_of_laid hL) ⟨b_rg.1, by omega⟩ ⟨b_cg.1, by omega⟩ ⟨b_t0.1, by omega⟩ ⟨b_t1.1, by omega⟩).mono fun e W' ⟨he, hb⟩ => ?_
  subst he
  refine ⟨_, rfl, _, _, _, [], [], [], hW', trodAll_mk1 (shut_bool Tryd.underlying4 _), ?_, rfl, hb.frame _, fun h => by cases h⟩
  exact trodAll_mk3 (shut_ref rm w_rs w_rg) (shut_ref cm w_cs w_cg) (shut_pair w_t0 w_t1)

theorem wordsUnlike_holds : Rows.WordsUnlikeSaid :=
  OpenClaim.holds_of_wide 8 Tryd.f8 rfl rfl rfl rfl rfl rfl rfl ⟨rfl, rfl, rfl, rfl, rfl⟩ rfl rfl rfl rfl rfl (by kernel_rfl) Tryd.func8 (by kernel_rfl)
    (of_decide_eq_true (by kernel_rfl)) (by unfold Func.isWrapper; rw [if_neg (of_decide_eq_false (by kernel_rfl))]; exact ⟨rfl, rfl⟩)
    (fun os started H enc _ => lifted8 os started H enc)

theorem wordsUnlike_card : Rows.WordsUnlikeCardSaid :=
  Claim7.holds_tied_plain_at .later [] [.data] true (true, "8e97e8499dd7471037f82cd5b7f5d66a193c4129e79d8839f49330d01bf056d8") false
    wordsUnlike_holds (fun _ h => by cases h) (by kernel_rfl) (fun _ h => by cases h) wordsUnlike_row_tie rfl ⟨rfl, rfl⟩ (by kernel_rfl) rfl
    (fun f fn hf hfn => by
      obtain rfl : f = 8 := Option.some.inj ((show Tryd.prog.funcNamed "ragpicker/ragpickerlaw01.WordsUnlike" = some 8 by kernel_rfl).symm.trans hf) |>.symm
      obtain rfl : fn = Tryd.f8 := (Option.some.inj (Tryd.func8.symm.trans hfn)).symm
      exact ⟨by kernel_rfl, fun j t ht => by
        rw [Tryd.params8] at ht
        have hm : t ∈ [24, 24, 54] := by simpa using Array.mem_of_getElem? ht
        have hall : ([24, 24, 54].all fun u => !Tryd.prog.wantsStandIn u) = true := by kernel_rfl
        exact (show Tryd.prog.wantsStandIn t = false by simpa using List.all_eq_true.1 hall t hm)⟩)
    (by kernel_rfl)
#print axioms wordsUnlike_card
end Go.Proofs.YtommlceihogelaaDoor
