/-
  The tied card of the law MemsPlay is proved, for every list of acts; condition: the table of rooms holds what the program's text lays (the card ties it).
-/
import Derived.Test.YtfnlkapiflkceaaDoorD10
import Derived.Test.YtfnlkapiflkceaaDoorBase
import Derived.Test.YtfnlkapiflkceaaDoorShut
import Derived.Test.YtfnlkapiflkceaaDoorCards
import Derived.Deep.Slices
import Derived.Deep.Strs
import Derived.Carry
namespace Go.Proofs.YtfnlkapiflkceaaDoor
open Go.ChangeShapes Go.WideShapes Go.ChangeAt Go.WideMaps Go.WideElems Go.RowKit Go.Joins

theorem laid_out : laidOutB Tryd.prog = true := by kernel_rfl
theorem cells34 : Tryd.prog.cellsOf 34 = 7 := by kernel_rfl
theorem cells5' : Tryd.prog.cellsOf 5 = 1 := by kernel_rfl
theorem cells4 : Tryd.prog.cellsOf 4 = 1 := by kernel_rfl
theorem cells29' : Tryd.prog.cellsOf 29 = 1 := by kernel_rfl
theorem cells3' : Tryd.prog.cellsOf 3 = 1 := by kernel_rfl
theorem byte_of {a : Int} (h : (Lit.int .u8 a).wf = true) : 0 ≤ a ∧ a ≤ 255 := by
  simp [Lit.wf, IntKind.min, IntKind.max, IntKind.signed, IntKind.bits] at h
  omega
instance : Inhabited Ac := ⟨⟨0, default, 0, 0, false, by decide, by decide, by decide⟩⟩
section
variable {H : Type} {enc : TypeId × Value → H} {W : World} {r : Reach} {b0 base : Nat} {sp : Nat → Bool} {v : Value} {d : DataW H} {p : List MemPlace}
set_option maxRecDepth 100000 in
/-- One act, out of its seven cells. -/
theorem open_act {fuel : Nat} {cs : List Value} {y : DataW H × List MemPlace} (h : DataW.trod enc Tryd.prog W base sp true fuel 34 cs = some y) :
    ∃ c : Ac, cs = [.int .u8 c.kd, .int .u8 c.x.k, .int .i64 c.x.a, .int .i64 c.x.f, .int .u64 c.was, .int .u64 c.is, .bool c.own] := by
  obtain ⟨xs, n, rfl, _, hl, hxl, hf⟩ := DataW.trod_struct Tryd.underlying34 h
  rw [cells34] at hl
  match xs, hxl, cs, hl with
  | [y0, y1, y2, y3, y4], _, [v0, v1, v2, v3, v4, v5, v6], _ =>
    have g0 : DataW.trod enc Tryd.prog W base sp true n 5 (([v0, v1, v2, v3, v4, v5, v6].drop 0).take (Tryd.prog.cellsOf 5)) = [y0, y1, y2, y3, y4][0]? := hf 0 _ rfl
    have g1 : DataW.trod enc Tryd.prog W base sp true n 31 (([v0, v1, v2, v3, v4, v5, v6].drop 1).take (Tryd.prog.cellsOf 31)) = [y0, y1, y2, y3, y4][1]? := hf 1 _ rfl
    have g2 : DataW.trod enc Tryd.prog W base sp true n 32 (([v0, v1, v2, v3, v4, v5, v6].drop 4).take (Tryd.prog.cellsOf 32)) = [y0, y1, y2, y3, y4][2]? := hf 2 _ rfl
    have g3 : DataW.trod enc Tryd.prog W base sp true n 32 (([v0, v1, v2, v3, v4, v5, v6].drop 5).take (Tryd.prog.cellsOf 32)) = [y0, y1, y2, y3, y4][3]? := hf 3 _ rfl
    have g4 : DataW.trod enc Tryd.prog W base sp true n 4 (([v0, v1, v2, v3, v4, v5, v6].drop 6).take (Tryd.prog.cellsOf 4)) = [y0, y1, y2, y3, y4][4]? := hf 4 _ rfl
    simp only [cells5', cells31, cells32, cells4, List.drop_zero, List.drop_succ_cons, List.take_succ_cons, List.take_zero, List.getElem?_cons_zero, List.getElem?_cons_succ] at g0 g1 g2 g3 g4
    obtain ⟨kd, e0, _, wk⟩ := DataW.trod_int Tryd.underlying5 g0
    obtain ⟨zs, n1, rfl, _, hl1, hzl, hf1⟩ := DataW.trod_struct Tryd.underlying31 g1
    match zs, hzl with
    | [z0, z1, z2], _ =>
      have i0 : DataW.trod enc Tryd.prog W base sp true n1 29 (([v1, v2, v3].drop 0).take (Tryd.prog.cellsOf 29)) = [z0, z1, z2][0]? := hf1 0 _ rfl
      have i1 : DataW.trod enc Tryd.prog W base sp true n1 3 (([v1, v2, v3].drop 1).take (Tryd.prog.cellsOf 3)) = [z0, z1, z2][1]? := hf1 1 _ rfl
      have i2 : DataW.trod enc Tryd.prog W base sp true n1 3 (([v1, v2, v3].drop 2).take (Tryd.prog.cellsOf 3)) = [z0, z1, z2][2]? := hf1 2 _ rfl
      simp only [cells29', cells3', List.drop_zero, List.drop_succ_cons, List.take_succ_cons, List.take_zero, List.getElem?_cons_zero, List.getElem?_cons_succ] at i0 i1 i2
      obtain ⟨k, e1, _, wkk⟩ := DataW.trod_int Tryd.underlying29 i0
      obtain ⟨a, e2, _, waa⟩ := DataW.trod_int Tryd.underlying3 i1
      obtain ⟨f, e3, _, wff⟩ := DataW.trod_int Tryd.underlying3 i2
      obtain ⟨was, e4, _, ww⟩ := DataW.trod_int Tryd.underlying32 g2
      obtain ⟨is, e5, _, wi⟩ := DataW.trod_int Tryd.underlying32 g3
      obtain ⟨own, e6, _⟩ := DataW.trod_bool Tryd.underlying4 g4
      simp only [List.cons.injEq, and_true] at e0 e1 e2 e3 e4 e5 e6
      subst e0 e1 e2 e3 e4 e5 e6
      exact ⟨⟨kd, ⟨k, a, f, wkk, waa, wff⟩, was, is, own, byte_of wk, ww, wi⟩, rfl⟩
set_option maxRecDepth 100000 in
theorem open_acts (hv : Value.okWide Tryd.prog W r b0 22 v) (h : DataW.Trod enc Tryd.prog W base sp true 22 v d p) :
    v = .slice none 0 0 ∨ ∃ g off len cap c, v = .slice (some ⟨g, off, none⟩) len cap ∧ ActCells W g off c len := by
  obtain ⟨a0, len, cap, rfl⟩ := okWide_slice Tryd.underlying22 hv
  obtain ⟨fuel, hf⟩ := h
  rcases Go.Deep.open_slice Tryd.underlying22 hf with ⟨hcs, _⟩ | ⟨a, len', cap', m, n, D, Pl, hcs, _, hl, _, hm, _, hall⟩
  · simp [Value.cells] at hcs
    obtain ⟨rfl, rfl, rfl⟩ := hcs
    exact .inl rfl
  · simp [Value.cells] at hcs
    obtain ⟨rfl, rfl, rfl⟩ := hcs
    right
    have hs : a.spot = none := by
      simp only [Value.okWide, Tryd.underlying22, Cell.okWide, Cell.ok] at hv
      exact hv.2.2.2.1
    obtain ⟨g, off, spot⟩ := a
    obtain rfl : spot = none := hs
    have hlm : len ≤ m := by rw [hm]; split <;> omega
    obtain ⟨c, hc⟩ := Go.Deep.choose_lt (α := Ac) (p := fun i c => ∀ j u, [.int .u8 c.kd, .int .u8 c.x.k, .int .i64 c.x.a, .int .i64 c.x.f, .int .u64 c.was, .int .u64 c.is, .bool c.own][j]? = some u → W.cell? ⟨g, off + i * 7 + j, none⟩ = some u) (n := len) (fun i hi => by
      obtain ⟨cs', h1, h2⟩ := hall i (by omega)
      rw [cells34] at h1
      obtain ⟨_, hlen, hcell⟩ := World.cells?_some h1
      obtain ⟨c, rfl⟩ := open_act h2
      refine ⟨c, fun j u hu => ?_⟩
      have hj : j < 7 := by have := (List.getElem?_eq_some_iff.1 hu).1; simpa using this
      have := hcell j hj
      rw [addr_plus, addr_plus] at this
      rw [this, hu])
    exact ⟨g, off, len, cap, c, rfl, fun i hi => ⟨by simpa using hc i hi 0 _ rfl, hc i hi 1 _ rfl, hc i hi 2 _ rfl, hc i hi 3 _ rfl, hc i hi 4 _ rfl, hc i hi 5 _ rfl, hc i hi 6 _ rfl⟩⟩
set_option maxRecDepth 100000 in
theorem play_any (hv : Value.okWide Tryd.prog W r b0 22 v) (h : DataW.Trod enc Tryd.prog W base sp true 22 v d p) (hl : Lay W) : Calls Tryd.prog 3 #[v] W fun e W' => e = .returned (.bool true) ∧ Below W.heap.size W W' := by
  rcases open_acts hv h with rfl | ⟨g, off, len, cap, c, rfl, hc⟩
  · exact play_nil W hl
  · by_cases hn : len ≤ 300
    · exact play_list g off cap len c W hl hc hn
    · exact play_long _ cap len W hl (by omega)
end
set_option maxRecDepth 100000 in
theorem lifted3 (os : Os) (started : os.Started) (H : Type) (enc : TypeId × Value → H) :
    ReturnsInHanded {} Tryd.checked os 3 .any (fun w args => (Rows.memsPlaySpec.pre enc Tryd.prog Tryd.f3 [] false w args ∧ laidMetH Tryd.prog laidL w) ∧ sizedMet enc Tryd.prog Tryd.f3 (OpenSpec.ofChange Rows.memsPlaySpec) false w args)
      (Rows.memsPlaySpec.post enc Tryd.prog Tryd.f3 false true false false) := by
  refine returnsInHanded_of_change_and (C := Tryd.checked) (X := fun w _ => laidMetH Tryd.prog laidL w) (fun _ _ _ hh h => h.of_heap hh) own started (by kernel_rfl) Tryd.func3
    (ChangeSpec.witness_shaped (enc := enc) (C := Tryd.checked) (os := os) (X := fun w _ => laidMetH Tryd.prog laidL w) false (World.doorLaid Tryd.prog 400 os) #[.slice none 0 0] 8 rfl (World.shaped_of_RefB (by kernel_rfl) (by kernel_rfl)) (by kernel_rfl) (by kernel_rfl) (by kernel_rfl) (door_met os _)) ?_
  intro W base args ds gs before hval0 hW _ _ hL _
  have hval : ∀ (j : Nat) t v, Tryd.f3.params[j]? = some t → args[j]? = some v → Value.okWide Tryd.prog W .any base t v := hval0
  have hW' := hW
  obtain ⟨p, q, hA0, hV, rfl, hfz, hnd⟩ := hW
  have hA : DataW.TrodAll enc Tryd.prog W 0 (fun _ => true) true Tryd.f3.params.toList args.toList ds p := hA0
  rw [Tryd.params3] at hA hval
  obtain ⟨v0, d0, rfl, rfl, h0⟩ := trodAll_one hA
  obtain ⟨rfl, rfl⟩ := trodVars_none hV
  clear hA0 hval0
  have hlt : ∀ x ∈ p, x.block < W.heap.size := fun x hx => hW'.lt x (List.mem_append_left _ hx)
  refine (play_any (hval 0 22 v0 rfl rfl) h0 (lay_of_laid hL)).mono fun e W' ⟨he, hb⟩ => ?_
  subst he
  refine ⟨_, rfl, _, _, _, [], p, [], hW', trodAll_mk1 (shut_bool Tryd.underlying4 _), ?_, rfl, hb.frame _, fun h => by cases h⟩
  exact trodAll_mk1 (Below.trod laid_out (by kernel_rfl) (of_decide_eq_true (by kernel_rfl)) h0 hb hlt)

theorem memsPlay_holds : Rows.MemsPlaySaid :=
  OpenClaim.holds_of_wide 3 Tryd.f3 rfl rfl rfl rfl rfl rfl rfl ⟨rfl, rfl, rfl, rfl, rfl⟩ rfl rfl rfl rfl rfl (by kernel_rfl) Tryd.func3 (by kernel_rfl)
    (of_decide_eq_true (by kernel_rfl)) (by unfold Func.isWrapper; rw [if_neg (of_decide_eq_false (by kernel_rfl))]; exact ⟨rfl, rfl⟩)
    (fun os started H enc _ => lifted3 os started H enc)

theorem memsPlay_card : Rows.MemsPlayCardSaid :=
  Claim7.holds_tied_plain_at .later [] [.data] true (true, "e66a46af7ff2e8602659dbbc574fabab9fbbeae76e02cc4863e390954dffea9a") false
    memsPlay_holds (fun _ h => by cases h) (by kernel_rfl) (fun _ h => by cases h) memsPlay_row_tie rfl ⟨rfl, rfl⟩ (by kernel_rfl) rfl
    (fun f fn hf hfn => by
      obtain rfl : f = 3 := Option.some.inj ((show Tryd.prog.funcNamed "ragpicker/ragpickerlaw02.MemsPlay" = some 3 by kernel_rfl).symm.trans hf) |>.symm
      obtain rfl : fn = Tryd.f3 := (Option.some.inj (Tryd.func3.symm.trans hfn)).symm
      exact ⟨by kernel_rfl, fun j t ht => by
        rw [Tryd.params3] at ht
        have hm : t ∈ [22] := by simpa using Array.mem_of_getElem? ht
        have hall : ([22].all fun u => !Tryd.prog.wantsStandIn u) = true := by kernel_rfl
        exact (show Tryd.prog.wantsStandIn t = false by simpa using List.all_eq_true.1 hall t hm)⟩)
    (by kernel_rfl)
#print axioms memsPlay_card
end Go.Proofs.YtfnlkapiflkceaaDoor
