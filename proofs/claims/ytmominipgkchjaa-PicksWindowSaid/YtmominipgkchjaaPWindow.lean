/-
  The law PicksWindow is proved, for every input; no condition.
-/
import Derived.Test.YtmominipgkchjaaE4
import Derived.Test.YtmominipgkchjaaBase
import Derived.Test.YtmominipgkchjaaRows
namespace Go.Proofs.Ytmominipgkchjaa
open Go.ChangeShapes Go.WideShapes Go.ChangeAt Go.WideMaps Go.WideElems Go.RowKit

section
variable {H : Type} {enc : TypeId × Value → H} {W : World} {r : Reach} {b0 base : Nat} {v0 v1 v2 : Value} {d0 : DataW H} {p0 : List MemPlace} {d1 : DataW H} {p1 : List MemPlace} {d2 : DataW H} {p2 : List MemPlace}
set_option maxRecDepth 100000 in
theorem lawWindow_any (hv0 : Value.okWide Try.prog W r b0 27 v0) (h0 : DataW.Trod enc Try.prog W base (fun _ => true) true 27 v0 d0 p0) (hv1 : Value.okWide Try.prog W r b0 5 v1) (h1 : DataW.Trod enc Try.prog W base (fun _ => true) true 5 v1 d1 p1) (hv2 : Value.okWide Try.prog W r b0 5 v2) (h2 : DataW.Trod enc Try.prog W base (fun _ => true) true 5 v2 d2 p2) :
    Calls Try.prog 7 #[v0, v1, v2] W fun e W' => e = .returned (.bool true) ∧ Below W.heap.size W W' := by
  obtain ⟨A0, l0, cap0, rfl, hc0, hm0, hs0, _⟩ := open_ints_arg hv0 h0
  obtain ⟨z1, rfl, _, _, w1⟩ := open_int Try.underlying5 hv1 h1
  obtain ⟨z2, rfl, _, _, w2⟩ := open_int Try.underlying5 hv2 h2
  by_cases hx : l0.length ≤ 100
  · obtain ⟨a, rfl⟩ : ∃ m : Nat, z1 = (m : Int) := ⟨z1.toNat, by have := u8_of w1; omega⟩
    obtain ⟨b, rfl⟩ : ∃ m : Nat, z2 = (m : Int) := ⟨z2.toNat, by have := u8_of w2; omega⟩
    exact lawWindow prg a b A0 cap0 l0 W (by have := u8_of w1; omega) (by have := u8_of w2; omega) hs0 hc0 hm0 hx
  · exact lawWindow_long prg z1 z2 A0 _ cap0 W (by omega)
end
set_option maxRecDepth 100000 in
theorem lifted7 (os : Os) (started : os.Started) (H : Type) (enc : TypeId × Value → H) :
    ReturnsInHanded {} Try.checked os 7 .any (Rows.picksWindowSpec.pre6 enc Try.prog Try.f7 Rows.picksWindowRow.domain false) (Rows.picksWindowSpec.post enc Try.prog Try.f7 false true false false) := by
  refine returnsInHanded_of_change (C := Try.checked) own started (by kernel_rfl) Try.func7
    (ChangeSpec.witness6 (enc := enc) (C := Try.checked) false ⟨#[], #[.slice none 0 0, .int .u8 0, .int .u8 0], []⟩ 8 (by kernel_rfl) (by kernel_rfl) (by kernel_rfl) (by kernel_rfl)) ?_
  intro W base args ds gs before hval0 hW _ _
  have hval : ∀ (j : Nat) t v, Try.f7.params[j]? = some t → args[j]? = some v → Value.okWide Try.prog W .any base t v := hval0
  have hW' := hW
  obtain ⟨p, q, hA0, hV, rfl, hfz, hnd⟩ := hW
  have hA : DataW.TrodAll enc Try.prog W 0 (fun _ => true) true Try.f7.params.toList args.toList ds p := hA0
  rw [Try.params7] at hA hval
  obtain ⟨v0, v1, v2, d0, d1, d2, p0, p1, p2, rfl, rfl, rfl, h0, h1, h2⟩ := trodAll_three hA
  obtain ⟨rfl, rfl⟩ := trodVars_none hV
  clear hA0 hval0
  have hlt : ∀ x ∈ (p0 ++ p1 ++ p2), x.block < W.heap.size := fun x hx => hW'.lt x (List.mem_append_left _ hx)
  refine (lawWindow_any (hval 0 27 v0 rfl rfl) h0 (hval 1 5 v1 rfl rfl) h1 (hval 2 5 v2 rfl rfl) h2).mono fun e W' ⟨he, hb⟩ => ?_
  subst he
  refine ⟨_, rfl, _, _, _, [], (p0 ++ p1 ++ p2), [], hW', trodAll_mk1 (shut_bool Try.underlying4 _), ?_, rfl, hb.frame _, fun h => by cases h⟩
  have hmk := trodAll_mk3 (Below.trod laid_out (by kernel_rfl) (of_decide_eq_true (by kernel_rfl)) h0 hb (fun x hx => hlt x (List.mem_append_left _ (List.mem_append_left _ hx)))) (Below.trod laid_out (by kernel_rfl) (of_decide_eq_true (by kernel_rfl)) h1 hb (fun x hx => hlt x (List.mem_append_left _ (List.mem_append_right _ hx)))) (Below.trod laid_out (by kernel_rfl) (of_decide_eq_true (by kernel_rfl)) h2 hb (fun x hx => hlt x (List.mem_append_right _ hx)))
  rw [← List.append_assoc] at hmk
  exact hmk

theorem picksWindow_holds : Rows.PicksWindowSaid :=
  OpenClaim.holds_of_wide 7 Try.f7 rfl rfl rfl rfl rfl rfl rfl ⟨rfl, rfl, rfl, rfl, rfl⟩ rfl rfl rfl rfl rfl (by kernel_rfl) Try.func7 (by kernel_rfl)
    (of_decide_eq_true (by kernel_rfl)) (by unfold Func.isWrapper; rw [if_neg (of_decide_eq_false (by kernel_rfl))]; exact ⟨rfl, rfl⟩)
    (fun os started H enc _ => lifted7 os started H enc)
#print axioms picksWindow_holds
end Go.Proofs.Ytmominipgkchjaa
