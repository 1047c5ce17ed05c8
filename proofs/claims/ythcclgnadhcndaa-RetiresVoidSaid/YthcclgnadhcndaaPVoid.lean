/-
  The law RetiresVoid is proved, for every input; no condition.
-/
import Derived.Test.YthcclgnadhcndaaLVoid
import Derived.Test.YthcclgnadhcndaaRA
import Derived.Test.YthcclgnadhcndaaRows
namespace Go.Proofs.Ythcclgnadhcndaa
open Go.ChangeShapes Go.WideShapes Go.ChangeAt Go.WideMaps Go.WideElems Go.RowKit

section
variable {H : Type} {enc : TypeId × Value → H} {W : World} {r : Reach} {b0 base : Nat} {v0 v1 : Value} {d0 : DataW H} {p0 : List MemPlace} {d1 : DataW H} {p1 : List MemPlace}
set_option maxRecDepth 100000 in
theorem lawVoid_any (hv0 : Value.okWide Try.prog W r b0 34 v0) (h0 : DataW.Trod enc Try.prog W base (fun _ => true) true 34 v0 d0 p0) (hv1 : Value.okWide Try.prog W r b0 35 v1) (h1 : DataW.Trod enc Try.prog W base (fun _ => true) true 35 v1 d1 p1) :
    Calls Try.prog 4 #[v0, v1] W fun e W' => e = .returned (.bool true) ∧ Below W.heap.size W W' := by
  obtain ⟨s, g, b, c, e, k, rfl, hk0⟩ := open_ent_arg hv0 h0
  obtain ⟨A1, n1, c1, l1, rfl, hs1⟩ := open_boolV hv1 h1
  by_cases hx : n1 ≤ 100
  · exact void_good s g b c e k A1 n1 c1 l1 W hx hs1 hk0
  · exact void_long s g b c e k A1 n1 c1 W hx
end
set_option maxRecDepth 100000 in
theorem liftedVoid (os : Os) (started : os.Started) (H : Type) (enc : TypeId × Value → H) :
    ReturnsInHanded {} Try.checked os 4 .any (Rows.retiresVoidSpec.pre6 enc Try.prog Try.f4 Rows.retiresVoidRow.domain false) (Rows.retiresVoidSpec.post enc Try.prog Try.f4 false true false false) := by
  refine returnsInHanded_of_change (C := Try.checked) own started (by kernel_rfl) Try.func4
    (ChangeSpec.witness6 (enc := enc) (C := Try.checked) false ⟨#[], #[.agg #[.int .i64 0, .int .u32 0, .bool false, .int .u64 0, .int .u64 0, .int .u64 0], .slice none 0 0], []⟩ 8 (by kernel_rfl) (by kernel_rfl) (by kernel_rfl) (by kernel_rfl)) ?_
  intro W base args ds gs before hval0 hW _ _
  have hval : ∀ (j : Nat) t v, Try.f4.params[j]? = some t → args[j]? = some v → Value.okWide Try.prog W .any base t v := hval0
  have hW' := hW
  obtain ⟨p, q, hA0, hV, rfl, hfz, hnd⟩ := hW
  have hA : DataW.TrodAll enc Try.prog W 0 (fun _ => true) true Try.f4.params.toList args.toList ds p := hA0
  rw [Try.params4] at hA hval
  obtain ⟨v0, v1, d0, d1, p0, p1, rfl, rfl, rfl, h0, h1⟩ := trodAll_two hA
  obtain ⟨rfl, rfl⟩ := trodVars_none hV
  clear hA0 hval0
  have hlt : ∀ x ∈ (p0 ++ p1), x.block < W.heap.size := fun x hx => hW'.lt x (List.mem_append_left _ hx)
  refine (lawVoid_any (hval 0 34 v0 rfl rfl) h0 (hval 1 35 v1 rfl rfl) h1).mono fun e W' ⟨he, hb⟩ => ?_
  subst he
  refine ⟨_, rfl, _, _, _, [], (p0 ++ p1), [], hW', trodAll_mk1 (shut_bool Try.underlying4 _), ?_, rfl, hb.frame _, fun h => by cases h⟩
  exact trodAll_mk2 (Below.trod laid_out (by kernel_rfl) (of_decide_eq_true (by kernel_rfl)) h0 hb (fun x hx => hlt x (List.mem_append_left _ hx))) (Below.trod laid_out (by kernel_rfl) (of_decide_eq_true (by kernel_rfl)) h1 hb (fun x hx => hlt x (List.mem_append_right _ hx)))

theorem retiresVoid_holds : Rows.RetiresVoidSaid :=
  OpenClaim.holds_of_wide 4 Try.f4 rfl rfl rfl rfl rfl rfl rfl ⟨rfl, rfl, rfl, rfl, rfl⟩ rfl rfl rfl rfl rfl (by kernel_rfl) Try.func4 (by kernel_rfl)
    (of_decide_eq_true (by kernel_rfl)) (by unfold Func.isWrapper; rw [if_neg (of_decide_eq_false (by kernel_rfl))]; exact ⟨rfl, rfl⟩)
    (fun os started H enc _ => liftedVoid os started H enc)
#print axioms retiresVoid_holds
end Go.Proofs.Ythcclgnadhcndaa
