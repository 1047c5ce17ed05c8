/-
  The law RetiresOnce is proved, for every input; no condition.
-/
import Derived.Test.YthcclgnadhcndaaLOnce
import Derived.Test.YthcclgnadhcndaaRA
import Derived.Test.YthcclgnadhcndaaRows
namespace Go.Proofs.Ythcclgnadhcndaa
open Go.ChangeShapes Go.WideShapes Go.ChangeAt Go.WideMaps Go.WideElems Go.RowKit

section
variable {H : Type} {enc : TypeId × Value → H} {W : World} {r : Reach} {b0 base : Nat} {v0 v1 v2 : Value} {d0 : DataW H} {p0 : List MemPlace} {d1 : DataW H} {p1 : List MemPlace} {d2 : DataW H} {p2 : List MemPlace}
set_option maxRecDepth 100000 in
theorem lawOnce_any (hv0 : Value.okWide Try.prog W r b0 26 v0) (h0 : DataW.Trod enc Try.prog W base (fun _ => true) true 26 v0 d0 p0) (hv1 : Value.okWide Try.prog W r b0 32 v1) (h1 : DataW.Trod enc Try.prog W base (fun _ => true) true 32 v1 d1 p1) (hv2 : Value.okWide Try.prog W r b0 32 v2) (h2 : DataW.Trod enc Try.prog W base (fun _ => true) true 32 v2 d2 p2) :
    Calls Try.prog 6 #[v0, v1, v2] W fun e W' => e = .returned (.bool true) ∧ Below W.heap.size W W' := by
  obtain ⟨A0, n0, c0, es, rfl, _, hs0, hk0⟩ := open_ents hv0 h0
  obtain ⟨z1, rfl, _, _, _⟩ := open_int Try.underlying32 hv1 h1
  obtain ⟨z2, rfl, _, _, _⟩ := open_int Try.underlying32 hv2 h2
  by_cases hx : n0 ≤ 100
  · exact once_good A0 n0 c0 z1 z2 es W hx hs0 hk0
  · exact once_long A0 n0 c0 z1 z2 W hx
end
set_option maxRecDepth 100000 in
theorem liftedOnce (os : Os) (started : os.Started) (H : Type) (enc : TypeId × Value → H) :
    ReturnsInHanded {} Try.checked os 6 .any (Rows.retiresOnceSpec.pre6 enc Try.prog Try.f6 Rows.retiresOnceRow.domain false) (Rows.retiresOnceSpec.post enc Try.prog Try.f6 false true false false) := by
  refine returnsInHanded_of_change (C := Try.checked) own started (by kernel_rfl) Try.func6
    (ChangeSpec.witness6 (enc := enc) (C := Try.checked) false ⟨#[], #[.slice none 0 0, .int .u64 0, .int .u64 0], []⟩ 8 (by kernel_rfl) (by kernel_rfl) (by kernel_rfl) (by kernel_rfl)) ?_
  intro W base args ds gs before hval0 hW _ _
  have hval : ∀ (j : Nat) t v, Try.f6.params[j]? = some t → args[j]? = some v → Value.okWide Try.prog W .any base t v := hval0
  have hW' := hW
  obtain ⟨p, q, hA0, hV, rfl, hfz, hnd⟩ := hW
  have hA : DataW.TrodAll enc Try.prog W 0 (fun _ => true) true Try.f6.params.toList args.toList ds p := hA0
  rw [Try.params6] at hA hval
  obtain ⟨v0, v1, v2, d0, d1, d2, p0, p1, p2, rfl, rfl, rfl, h0, h1, h2⟩ := trodAll_three hA
  obtain ⟨rfl, rfl⟩ := trodVars_none hV
  clear hA0 hval0
  have hlt : ∀ x ∈ (p0 ++ p1 ++ p2), x.block < W.heap.size := fun x hx => hW'.lt x (List.mem_append_left _ hx)
  refine (lawOnce_any (hval 0 26 v0 rfl rfl) h0 (hval 1 32 v1 rfl rfl) h1 (hval 2 32 v2 rfl rfl) h2).mono fun e W' ⟨he, hb⟩ => ?_
  subst he
  refine ⟨_, rfl, _, _, _, [], (p0 ++ p1 ++ p2), [], hW', trodAll_mk1 (shut_bool Try.underlying4 _), ?_, rfl, hb.frame _, fun h => by cases h⟩
  have hmk := trodAll_mk3 (Below.trod laid_out (by kernel_rfl) (of_decide_eq_true (by kernel_rfl)) h0 hb (fun x hx => hlt x (List.mem_append_left _ (List.mem_append_left _ hx)))) (Below.trod laid_out (by kernel_rfl) (of_decide_eq_true (by kernel_rfl)) h1 hb (fun x hx => hlt x (List.mem_append_left _ (List.mem_append_right _ hx)))) (Below.trod laid_out (by kernel_rfl) (of_decide_eq_true (by kernel_rfl)) h2 hb (fun x hx => hlt x (List.mem_append_right _ hx)))
  rw [← List.append_assoc] at hmk
  exact hmk

theorem retiresOnce_holds : Rows.RetiresOnceSaid :=
  OpenClaim.holds_of_wide 6 Try.f6 rfl rfl rfl rfl rfl rfl rfl ⟨rfl, rfl, rfl, rfl, rfl⟩ rfl rfl rfl rfl rfl (by kernel_rfl) Try.func6 (by kernel_rfl)
    (of_decide_eq_true (by kernel_rfl)) (by unfold Func.isWrapper; rw [if_neg (of_decide_eq_false (by kernel_rfl))]; exact ⟨rfl, rfl⟩)
    (fun os started H enc _ => liftedOnce os started H enc)
#print axioms retiresOnce_holds
end Go.Proofs.Ythcclgnadhcndaa
