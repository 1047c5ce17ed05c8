/-
  The tied card of the law TablesFull is proved, for every input; condition: the table of fields and the table of rooms hold what the program's text lays (the card ties them).
-/
import Derived.Test.YtodfjnpnfalioaaDoorFCore
import Derived.Test.YtodfjnpnfalioaaDoorLFull
import Derived.Test.YtodfjnpnfalioaaDoorCards
namespace Go.Proofs.YtodfjnpnfalioaaDoor
open Go.ChangeShapes Go.WideShapes Go.ChangeAt Go.WideMaps Go.WideElems Go.RowKit Go.Joins

section
variable {H : Type} {enc : TypeId × Value → H} {W : World} {r : Reach} {b0 base : Nat} {sp : Nat → Bool} {v0 v1 v2 : Value} {d0 : DataW H} {p0 : List MemPlace} {d1 : DataW H} {p1 : List MemPlace} {d2 : DataW H} {p2 : List MemPlace}
set_option maxRecDepth 100000 in
/-- A pair of bytes as an argument. -/
theorem open_pairT {v : Value} {d : DataW H} {p : List MemPlace} (hv : Value.okWide Tryd.prog W r b0 49 v) (h : DataW.Trod enc Tryd.prog W base sp true 49 v d p) :
    ∃ (a b : Int), v = .agg #[.int .u8 a, .int .u8 b] ∧ (Lit.int .u8 a).wf = true ∧ (Lit.int .u8 b).wf = true := by
  simp only [Value.okWide, Tryd.underlying49] at hv
  obtain ⟨cs, rfl, hsz, _⟩ := hv
  rw [show Tryd.prog.cellsOf 49 = 2 by kernel_rfl] at hsz
  obtain ⟨l⟩ := cs
  match l, hsz with
  | [c0, c1], _ =>
    obtain ⟨fuel, hf⟩ := h
    obtain ⟨xs, m, rfl, hx, _, hn, hel⟩ := DataW.trod_array Tryd.underlying49 hf
    have k0 := hel 0 (by decide)
    have k1 := hel 1 (by decide)
    rw [cellsU8] at k0 k1
    match xs, hn with
    | [x0, x1], _ =>
      obtain ⟨a, e0, _, wa⟩ := DataW.trod_int Tryd.underlying5 k0
      obtain ⟨b, e1, _, wb⟩ := DataW.trod_int Tryd.underlying5 k1
      simp [Value.cells] at e0 e1
      subst e0 e1
      exact ⟨a, b, rfl, wa, wb⟩
theorem u32_ofT {a : Int} (h : (Lit.int .u32 a).wf = true) : 0 ≤ a ∧ a < 4294967296 := by
  simp [Lit.wf, IntKind.min, IntKind.max, IntKind.signed, IntKind.bits] at h
  exact ⟨by omega, by omega⟩
theorem u64_ofT {a : Int} (h : (Lit.int .u64 a).wf = true) : U64 a := by
  simp [Lit.wf, IntKind.min, IntKind.max, IntKind.signed, IntKind.bits] at h
  exact ⟨by omega, by omega⟩
set_option maxRecDepth 100000 in
theorem lawFull_any (hv0 : Value.okWide Tryd.prog W r b0 49 v0) (h0 : DataW.Trod enc Tryd.prog W base sp true 49 v0 d0 p0) (hv1 : Value.okWide Tryd.prog W r b0 50 v1) (h1 : DataW.Trod enc Tryd.prog W base sp true 50 v1 d1 p1) (hv2 : Value.okWide Tryd.prog W r b0 33 v2) (h2 : DataW.Trod enc Tryd.prog W base sp true 33 v2 d2 p2) (hl : LayH W) :
    Calls Tryd.prog 4 #[v0, v1, v2] W fun e W' => e = .returned (.bool true) ∧ Below W.heap.size W W' := by
  obtain ⟨a0, b0, rfl, wa0, wb0⟩ := open_pairT hv0 h0
  obtain ⟨A1, l1, cap1, rfl, _, _, hs1, hw1, _⟩ := open_nums Tryd.underlying50 Tryd.underlying5 cellsU8 hv1 h1
  obtain ⟨z2, rfl, _, _, w2⟩ := open_int Tryd.underlying33 hv2 h2
  exact full_all _ _ A1 cap1 l1 _ W hl.1 hl.2 (u8_of wa0) (u8_of wb0) hs1 (fun z hz => u8_of (hw1 z hz)) (u64_ofT w2)
end
set_option maxRecDepth 100000 in
theorem lifted4 (os : Os) (started : os.Started) (H : Type) (enc : TypeId × Value → H) :
    ReturnsInHanded {} Tryd.checked os 4 .any (fun w args => (Rows.tablesFullSpec.pre enc Tryd.prog Tryd.f4 [] false w args ∧ laidMetH Tryd.prog laidL w) ∧ sizedMet enc Tryd.prog Tryd.f4 (OpenSpec.ofChange Rows.tablesFullSpec) false w args)
      (Rows.tablesFullSpec.post enc Tryd.prog Tryd.f4 false true false false) := by
  refine returnsInHanded_of_change_and (C := Tryd.checked) (X := fun w _ => laidMetH Tryd.prog laidL w) (fun _ _ _ hh h => h.of_heap hh) own started (by kernel_rfl) Tryd.func4
    (ChangeSpec.witness_shaped (enc := enc) (C := Tryd.checked) (os := os) (X := fun w _ => laidMetH Tryd.prog laidL w) false (World.doorLaid Tryd.prog 400 os) #[.agg #[.int .u8 0, .int .u8 0], .slice none 0 0, .int .u64 0] 8 rfl (World.shaped_of_RefB (by kernel_rfl) (by kernel_rfl)) (by kernel_rfl) (by kernel_rfl) (by kernel_rfl) (door_met os _)) ?_
  intro W base args ds gs before hval0 hW _ _ hL _
  have hval : ∀ (j : Nat) t v, Tryd.f4.params[j]? = some t → args[j]? = some v → Value.okWide Tryd.prog W .any base t v := hval0
  have hW' := hW
  obtain ⟨p, q, hA0, hV, rfl, hfz, hnd⟩ := hW
  have hA : DataW.TrodAll enc Tryd.prog W 0 (fun _ => true) true Tryd.f4.params.toList args.toList ds p := hA0
  rw [Tryd.params4] at hA hval
  obtain ⟨v0, v1, v2, d0, d1, d2, p0, p1, p2, rfl, rfl, rfl, h0, h1, h2⟩ := trodAll_three hA
  obtain ⟨rfl, rfl⟩ := trodVars_none hV
  clear hA0 hval0
  have hlt : ∀ x ∈ p0 ++ (p1 ++ p2), x.block < W.heap.size := fun x hx => hW'.lt x (List.mem_append_left _ (by rw [List.append_assoc]; exact hx))
  refine (lawFull_any (hval 0 49 v0 rfl rfl) h0 (hval 1 50 v1 rfl rfl) h1 (hval 2 33 v2 rfl rfl) h2 (lay_of_laid hL)).mono fun e W' ⟨he, hb⟩ => ?_
  subst he
  refine ⟨_, rfl, _, _, _, [], (p0 ++ (p1 ++ p2)), [], hW', trodAll_mk1 (shut_bool Tryd.underlying4 _), ?_, rfl, hb.frame _, fun h => by cases h⟩
  exact trodAll_mk3 (Below.trod laid_out (by kernel_rfl) (of_decide_eq_true (by kernel_rfl)) h0 hb (fun x hx => hlt x (List.mem_append_left _ hx))) (Below.trod laid_out (by kernel_rfl) (of_decide_eq_true (by kernel_rfl)) h1 hb (fun x hx => hlt x (List.mem_append_right _ (List.mem_append_left _ hx)))) (Below.trod laid_out (by kernel_rfl) (of_decide_eq_true (by kernel_rfl)) h2 hb (fun x hx => hlt x (List.mem_append_right _ (List.mem_append_right _ hx))))

theorem tablesFull_holds : Rows.TablesFullSaid :=
  OpenClaim.holds_of_wide 4 Tryd.f4 rfl rfl rfl rfl rfl rfl rfl ⟨rfl, rfl, rfl, rfl, rfl⟩ rfl rfl rfl rfl rfl (by kernel_rfl) Tryd.func4 (by kernel_rfl)
    (of_decide_eq_true (by kernel_rfl)) (by unfold Func.isWrapper; rw [if_neg (of_decide_eq_false (by kernel_rfl))]; exact ⟨rfl, rfl⟩)
    (fun os started H enc _ => lifted4 os started H enc)

theorem tablesFull_card : Rows.TablesFullCardSaid :=
  Claim7.holds_tied_plain_at .later [] [.data, .data] true (true, "b03ce6ff7be372a6e3963befed50e53ecedca498131ab61500d1d0b293b07d6d") false
    tablesFull_holds (fun _ h => by cases h) (by kernel_rfl) (fun _ h => by cases h) tablesFull_row_tie rfl ⟨rfl, rfl⟩ (by kernel_rfl) rfl
    (fun f fn hf hfn => by
      obtain rfl : f = 4 := Option.some.inj ((show Tryd.prog.funcNamed "ragpicker/ragpickerlaw10.TablesFull" = some 4 by kernel_rfl).symm.trans hf) |>.symm
      obtain rfl : fn = Tryd.f4 := (Option.some.inj (Tryd.func4.symm.trans hfn)).symm
      exact ⟨by kernel_rfl, fun j t ht => by
        rw [Tryd.params4] at ht
        have hm : t ∈ [49, 50, 33] := by simpa using Array.mem_of_getElem? ht
        have hall : ([49, 50, 33].all fun u => !Tryd.prog.wantsStandIn u) = true := by kernel_rfl
        exact (show Tryd.prog.wantsStandIn t = false by simpa using List.all_eq_true.1 hall t hm)⟩)
    (by kernel_rfl)
#print axioms tablesFull_card
end Go.Proofs.YtodfjnpnfalioaaDoor
