/-
  The tied card of the law WordsBack is proved, for every input; condition: the table of fields holds what the program's text lays (the card ties it).
-/
import Derived.Test.YtommlceihogelaaDoorLBack
import Derived.Test.YtommlceihogelaaDoorBase
import Derived.Test.YtommlceihogelaaDoorShut
import Derived.Test.YtommlceihogelaaDoorCards
namespace Go.Proofs.YtommlceihogelaaDoor
open Go.ChangeShapes Go.WideShapes Go.ChangeAt Go.WideMaps Go.WideElems Go.RowKit Go.Joins

set_option maxRecDepth 100000 in
theorem lifted6 (os : Os) (started : os.Started) (H : Type) (enc : TypeId × Value → H) :
    ReturnsInHanded {} Tryd.checked os 6 .any (fun w args => (Rows.wordsBackSpec.pre enc Tryd.prog Tryd.f6 [] false w args ∧ laidMetH Tryd.prog laidL w) ∧ sizedMet enc Tryd.prog Tryd.f6 (OpenSpec.ofChange Rows.wordsBackSpec) false w args)
      (Rows.wordsBackSpec.post enc Tryd.prog Tryd.f6 false true false false) := by
  refine returnsInHanded_of_change_and (C := Tryd.checked) (X := fun w _ => laidMetH Tryd.prog laidL w) (fun _ _ _ hh h => h.of_heap hh) own started (by kernel_rfl) Tryd.func6
    (ChangeSpec.witness_shaped (enc := enc) (C := Tryd.checked) (os := os) (X := fun w _ => laidMetH Tryd.prog laidL w) false (World.doorLaid Tryd.prog 400 os) #[.agg #[.int .i64 0, .int .u32 0, .bool false], .int .u64 0, .agg #[.int .u8 0, .int .u8 0, .int .u8 0, .int .u64 0]] 8 rfl (World.shaped_of_RefB (by kernel_rfl) (by kernel_rfl)) (by kernel_rfl) (by kernel_rfl) (by kernel_rfl) (door_met os _)) ?_
  intro W base args ds gs before hval0 hW _ _ hL _
  have hval : ∀ (j : Nat) t v, Tryd.f6.params[j]? = some t → args[j]? = some v → Value.okWide Tryd.prog W .any base t v := hval0
  have hW' := hW
  obtain ⟨p, q, hA0, hV, rfl, hfz, hnd⟩ := hW
  have hA : DataW.TrodAll enc Tryd.prog W 0 (fun _ => true) true Tryd.f6.params.toList args.toList ds p := hA0
  rw [Tryd.params6] at hA hval
  obtain ⟨v0, v1, v2, d0, d1, d2, p0, p1, p2, rfl, rfl, rfl, h0, h1, h2⟩ := trodAll_three hA
  obtain ⟨rfl, rfl⟩ := trodVars_none hV
  obtain ⟨rs, rg, rm, rfl, rfl, rfl, w_rs, w_rg⟩ := open_ref (hval 0 24 v0 rfl rfl) h0
  have b_rs := bounds_i64 w_rs
  have b_rg := bounds_u32 w_rg
  obtain ⟨t, rfl, rfl, rfl, w_t⟩ := open_int Tryd.underlying25 (hval 1 25 v1 rfl rfl) h1
  have b_t := bounds_u64 w_t
  obtain ⟨cp, co, cm, ck, rfl, rfl, rfl, w_cp, w_co, w_cm, w_ck⟩ := open_phase (hval 2 48 v2 rfl rfl) h2
  have b_cp := bounds_u8 w_cp
  have b_co := bounds_u8 w_co
  have b_cm := bounds_u8 w_cm
  have b_ck := bounds_u64 w_ck
  clear hA0 hval0
  simp only [List.append_nil] at hW'
  refine (lawBack rs rg rm t cp co cm ck W (lay_of_laid hL) ⟨b_rg.1, by omega⟩ ⟨b_t.1, by omega⟩ ⟨b_cp.1, by omega⟩ ⟨b_co.1, by omega⟩ ⟨b_cm.1, by omega⟩ ⟨b_ck.1, by omega⟩).mono fun e W' ⟨he, hb⟩ => ?_
  subst he
  refine ⟨_, rfl, _, _, _, [], [], [], hW', trodAll_mk1 (shut_bool Tryd.underlying4 _), ?_, rfl, hb.frame _, fun h => by cases h⟩
  exact trodAll_mk3 (shut_ref rm w_rs w_rg) (shut_int Tryd.underlying25 w_t) (shut_phase w_cp w_co w_cm w_ck)

theorem wordsBack_holds : Rows.WordsBackSaid :=
  OpenClaim.holds_of_wide 6 Tryd.f6 rfl rfl rfl rfl rfl rfl rfl ⟨rfl, rfl, rfl, rfl, rfl⟩ rfl rfl rfl rfl rfl (by kernel_rfl) Tryd.func6 (by kernel_rfl)
    (of_decide_eq_true (by kernel_rfl)) (by unfold Func.isWrapper; rw [if_neg (of_decide_eq_false (by kernel_rfl))]; exact ⟨rfl, rfl⟩)
    (fun os started H enc _ => lifted6 os started H enc)

theorem wordsBack_card : Rows.WordsBackCardSaid :=
  Claim7.holds_tied_plain_at .later [] [.data] true (true, "8e97e8499dd7471037f82cd5b7f5d66a193c4129e79d8839f49330d01bf056d8") false
    wordsBack_holds (fun _ h => by cases h) (by kernel_rfl) (fun _ h => by cases h) wordsBack_row_tie rfl ⟨rfl, rfl⟩ (by kernel_rfl) rfl
    (fun f fn hf hfn => by
      obtain rfl : f = 6 := Option.some.inj ((show Tryd.prog.funcNamed "ragpicker/ragpickerlaw01.WordsBack" = some 6 by kernel_rfl).symm.trans hf) |>.symm
      obtain rfl : fn = Tryd.f6 := (Option.some.inj (Tryd.func6.symm.trans hfn)).symm
      exact ⟨by kernel_rfl, fun j t ht => by
        rw [Tryd.params6] at ht
        have hm : t ∈ [24, 25, 48] := by simpa using Array.mem_of_getElem? ht
        have hall : ([24, 25, 48].all fun u => !Tryd.prog.wantsStandIn u) = true := by kernel_rfl
        exact (show Tryd.prog.wantsStandIn t = false by simpa using List.all_eq_true.1 hall t hm)⟩)
    (by kernel_rfl)
#print axioms wordsBack_card
end Go.Proofs.YtommlceihogelaaDoor
