/-
  The law PicksFair is proved, for every input; no condition.
-/
import Derived.Test.YtmominipgkchjaaE2
import Derived.Test.YtmominipgkchjaaBase
import Derived.Test.YtmominipgkchjaaRows
namespace Go.Proofs.Ytmominipgkchjaa
open Go.ChangeShapes Go.WideShapes Go.ChangeAt Go.WideMaps Go.WideElems Go.RowKit

section
variable {H : Type} {enc : TypeId × Value → H} {W : World} {r : Reach} {b0 base : Nat} {v0 v1 v2 : Value} {d0 : DataW H} {p0 : List MemPlace} {d1 : DataW H} {p1 : List MemPlace} {d2 : DataW H} {p2 : List MemPlace}
set_option maxRecDepth 100000 in
theorem lawFair_any (hv0 : Value.okWide Try.prog W r b0 27 v0) (h0 : DataW.Trod enc Try.prog W base (fun _ => true) true 27 v0 d0 p0) (hv1 : Value.okWide Try.prog W r b0 22 v1) (h1 : DataW.Trod enc Try.prog W base (fun _ => true) true 22 v1 d1 p1) (hv2 : Value.okWide Try.prog W r b0 3 v2) (h2 : DataW.Trod enc Try.prog W base (fun _ => true) true 3 v2 d2 p2) :
    Calls Try.prog 4 #[v0, v1, v2] W fun e W' => e = .returned (.bool true) ∧ Below W.heap.size W W' := by
  obtain ⟨A0, l0, cap0, rfl, _, _, hs0, hn0⟩ := open_ints_arg hv0 h0
  obtain ⟨A1, l1, cap1, rfl, _, _, hs1, hn1⟩ := open_bools_arg hv1 h1
  obtain ⟨z2, rfl, _, _, w2⟩ := open_int Try.underlying3 hv2 h2
  by_cases hx : l0.length ≤ 300
  · by_cases hy : l1.length ≤ 50
    · exact lawFair prg z2 A0 A1 cap0 cap1 l0 l1 W (i64_of w2) hs0 hs1 hn0 hn1 hx hy
    · exact lawFair_long prg z2 A0 A1 _ _ cap0 cap1 W (.inr ⟨hx, by omega⟩)
  · exact lawFair_long prg z2 A0 A1 _ _ cap0 cap1 W (.inl (by omega))
end
set_option maxRecDepth 100000 in
theorem lifted4 (os : Os) (started : os.Started) (H : Type) (enc : TypeId × Value → H) :
    ReturnsInHanded {} Try.checked os 4 .any (Rows.picksFairSpec.pre6 enc Try.prog Try.f4 Rows.picksFairRow.domain false) (Rows.picksFairSpec.post enc Try.prog Try.f4 false true false false) := by
  refine returnsInHanded_of_change (C := Try.checked) own started (by kernel_rfl) Try.func4
    (ChangeSpec.witness6 (enc := enc) (C := Try.checked) false ⟨#[], #[.slice none 0 0, .slice none 0 0, .int .i64 0], []⟩ 8 (by kernel_rfl) (by kernel_rfl) (by kernel_rfl) (by kernel_rfl)) ?_
  intro W base args ds gs before hval0 hW _ _
  have hval : ∀ (j : Nat) t v, Try.f4.params[j]? = some t → args[j]? = some v → Value.okWide Try.prog W .any base t v := hval0
  have hW' := hW
  obtain ⟨p, q, hA0, hV, rfl, hfz, hnd⟩ := hW
  have hA : DataW.TrodAll enc Try.prog W 0 (fun _ => true) true Try.f4.params.toList args.toList ds p := hA0
  rw [Try.params4] at hA hval
  obtain ⟨v0, v1, v2, d0, d1, d2, p0, p1, p2, rfl, rfl, rfl, h0, h1, h2⟩ := trodAll_three hA
  obtain ⟨rfl, rfl⟩ := trodVars_none hV
  clear hA0 hval0
  have hlt : ∀ x ∈ (p0 ++ p1 ++ p2), x.block < W.heap.size := fun x hx => hW'.lt x (List.mem_append_left _ hx)
  refine (lawFair_any (hval 0 27 v0 rfl rfl) h0 (hval 1 22 v1 rfl rfl) h1 (hval 2 3 v2 rfl rfl) h2).mono fun e W' ⟨he, hb⟩ => ?_
  subst he
  refine ⟨_, rfl, _, _, _, [], (p0 ++ p1 ++ p2), [], hW', trodAll_mk1 (shut_bool Try.underlying4 _), ?_, rfl, hb.frame _, fun h => by cases h⟩
  have hmk := trodAll_mk3 (Below.trod laid_out (by kernel_rfl) (of_decide_eq_true (by kernel_rfl)) h0 hb (fun x hx => hlt x (List.mem_append_left _ (List.mem_append_left _ hx)))) (Below.trod laid_out (by kernel_rfl) (of_decide_eq_true (by kernel_rfl)) h1 hb (fun x hx => hlt x (List.mem_append_left _ (List.mem_append_right _ hx)))) (Below.trod laid_out (by kernel_rfl) (of_decide_eq_true (by kernel_rfl)) h2 hb (fun x hx => hlt x (List.mem_append_right _ hx)))
  rw [← List.append_assoc] at hmk
  exact hmk

theorem picksFair_holds : Rows.PicksFairSaid :=
  OpenClaim.holds_of_wide 4 Try.f4 rfl rfl rfl rfl rfl rfl rfl ⟨rfl, rfl, rfl, rfl, rfl⟩ rfl rfl rfl rfl rfl (by kernel_rfl) Try.func4 (by kernel_rfl)
    (of_decide_eq_true (by kernel_rfl)) (by unfold Func.isWrapper; rw [if_neg (of_decide_eq_false (by kernel_rfl))]; exact ⟨rfl, rfl⟩)
    (fun os started H enc _ => lifted4 os started H enc)
#print axioms picksFair_holds
end Go.Proofs.Ytmominipgkchjaa
