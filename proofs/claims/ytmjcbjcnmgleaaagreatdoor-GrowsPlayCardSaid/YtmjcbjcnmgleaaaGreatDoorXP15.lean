/-
  Package frees; Package frees over the list in plain words; The program's operation beside both memories; An operation and the document's, side by side; conditions as each theorem says.
-/
import Derived.Test.YtmjcbjcnmgleaaaGreatDoorXP09
import Derived.Test.YtmjcbjcnmgleaaaGreatDoorXP14
import Derived.Deep.RegionWith
import Derived.Test.YtmjcbjcnmgleaaaGreatDoorXP03
import Derived.Test.YtmjcbjcnmgleaaaGreatDoorXP11
import Derived.Test.YtmjcbjcnmgleaaaGreatDoorXP08
namespace Go.Proofs.YtmjcbjcnmgleaaaGreatDoor
open Go.RowKit Go.Maps
theorem m_pushRead (q : Nat) (w : World) : (method (409) 152 (.pointer (some ⟨q, 0, none⟩)) "ragpicker/frees.read").run Tryz.prog w = .ok (142, .pointer (some ⟨q, 0, none⟩)) w := by kernel_rfl
theorem m_pushSwap (q : Nat) (w : World) : (method (409) 152 (.pointer (some ⟨q, 0, none⟩)) "ragpicker/frees.swap").run Tryz.prog w = .ok (144, .pointer (some ⟨q, 0, none⟩)) w := by kernel_rfl
theorem m_popSwap (q : Nat) (w : World) : (method (409) 164 (.pointer (some ⟨q, 0, none⟩)) "ragpicker/frees.swap").run Tryz.prog w = .ok (144, .pointer (some ⟨q, 0, none⟩)) w := by kernel_rfl
theorem results_cell {P : Program} {fn : Func} {p : Tmp} {ty : TypeId} (h : fn.results = #[.cell p ty]) (tmps : Array Value) (w : World) (g : Nat) (t : TypeId) (cs : Array Value) (fr : Nat × Nat) (d : TypeDesc)
    (hp : tmps.getD p undef = .pointer (some ⟨g, 0, none⟩)) (hg : w.heap[g]? = some (.cells cs t fr))
    (hu : P.underlying ty = some d) (hd : (match d with | .struct _ | .array _ _ => true | _ => false) = true) (hi : (P.info? ty).map (·.size) = some cs.size) :
    (results fn tmps).run P w = .ok (.agg cs) w := by
  have hp' : tmps[p]?.getD undef = .pointer (some ⟨g, 0, none⟩) := by simpa using hp
  simp [results, h, hp', asAddr, run_loadVar_row w g t ty cs fr d hg hu hd hi]
theorem pushLines_any (w : World) : Calls Tryz.prog 118 #[] w fun e w' => e = .returned (.agg #[.nilFunc, .func (.methodOf 152 "ragpicker/frees.read") #[] #[], .func (.func 143) #[] #[], .func (.methodOf 152 "ragpicker/frees.swap") #[] #[]]) ∧ Below w.heap.size w w' := by
  go_enter Tryz.func118, Tryz.ntmps118
  have k0 : (w.alloc (.cells #[.nilFunc, .nilFunc, .nilFunc, .nilFunc] 200)).heap[w.heap.size]? = some (.cells #[.nilFunc, .nilFunc, .nilFunc, .nilFunc] 200 (0, 0)) := alloc_blk _ _
  go_wp2_with (refine wpList_store_put rfl 200 _ _ rfl w.heap.size rfl #[.nilFunc, .func (.methodOf 152 "ragpicker/frees.read") #[] #[], .func (.func 143) #[] #[], .func (.methodOf 152 "ragpicker/frees.swap") #[] #[]] rfl 200 _ k0 (by kernel_rfl) rfl (by decide) ?_; intro w1 hp)
  exact bodyPost_ret (results_cell Tryz.results118 _ _ _ _ _ _ _ rfl hp.at_ Tryz.underlying200 rfl (by kernel_rfl)) rfl ⟨rfl, hp.below ((Below.refl _ _).alloc (Nat.le_refl _) _) (Nat.le_refl _)⟩
theorem popLines_any (w : World) : Calls Tryz.prog 192 #[] w fun e w' => e = .returned (.agg #[.nilFunc, .func (.func 193) #[] #[], .func (.func 194) #[] #[], .func (.methodOf 164 "ragpicker/frees.swap") #[] #[]]) ∧ Below w.heap.size w w' := by
  go_enter Tryz.func192, Tryz.ntmps192
  have k0 : (w.alloc (.cells #[.nilFunc, .nilFunc, .nilFunc, .nilFunc] 289)).heap[w.heap.size]? = some (.cells #[.nilFunc, .nilFunc, .nilFunc, .nilFunc] 289 (0, 0)) := alloc_blk _ _
  go_wp2_with (refine wpList_store_put rfl 289 _ _ rfl w.heap.size rfl #[.nilFunc, .func (.func 193) #[] #[], .func (.func 194) #[] #[], .func (.methodOf 164 "ragpicker/frees.swap") #[] #[]] rfl 289 _ k0 (by kernel_rfl) rfl (by decide) ?_; intro w1 hp)
  exact bodyPost_ret (results_cell Tryz.results192 _ _ _ _ _ _ _ rfl hp.at_ Tryz.underlying289 rfl (by kernel_rfl)) rfl ⟨rfl, hp.below ((Below.refl _ _).alloc (Nat.le_refl _) _) (Nat.le_refl _)⟩
theorem i_push1 (w : World) : (Instr.index 200 (.agg #[.nilFunc, .func (.methodOf 152 "ragpicker/frees.read") #[] #[], .func (.func 143) #[] #[], .func (.methodOf 152 "ragpicker/frees.swap") #[] #[]]) (.int .i64 1)).run Tryz.prog w = .ok (.func (.methodOf 152 "ragpicker/frees.read") #[] #[]) w := by kernel_rfl
theorem i_push2 (w : World) : (Instr.index 200 (.agg #[.nilFunc, .func (.methodOf 152 "ragpicker/frees.read") #[] #[], .func (.func 143) #[] #[], .func (.methodOf 152 "ragpicker/frees.swap") #[] #[]]) (.int .i64 2)).run Tryz.prog w = .ok (.func (.func 143) #[] #[]) w := by kernel_rfl
theorem i_push3 (w : World) : (Instr.index 200 (.agg #[.nilFunc, .func (.methodOf 152 "ragpicker/frees.read") #[] #[], .func (.func 143) #[] #[], .func (.methodOf 152 "ragpicker/frees.swap") #[] #[]]) (.int .i64 3)).run Tryz.prog w = .ok (.func (.methodOf 152 "ragpicker/frees.swap") #[] #[]) w := by kernel_rfl
theorem i_pop1 (w : World) : (Instr.index 289 (.agg #[.nilFunc, .func (.func 193) #[] #[], .func (.func 194) #[] #[], .func (.methodOf 164 "ragpicker/frees.swap") #[] #[]]) (.int .i64 1)).run Tryz.prog w = .ok (.func (.func 193) #[] #[]) w := by kernel_rfl
theorem i_pop2 (w : World) : (Instr.index 289 (.agg #[.nilFunc, .func (.func 193) #[] #[], .func (.func 194) #[] #[], .func (.methodOf 164 "ragpicker/frees.swap") #[] #[]]) (.int .i64 2)).run Tryz.prog w = .ok (.func (.func 194) #[] #[]) w := by kernel_rfl
theorem i_pop3 (w : World) : (Instr.index 289 (.agg #[.nilFunc, .func (.func 193) #[] #[], .func (.func 194) #[] #[], .func (.methodOf 164 "ragpicker/frees.swap") #[] #[]]) (.int .i64 3)).run Tryz.prog w = .ok (.func (.methodOf 164 "ragpicker/frees.swap") #[] #[]) w := by kernel_rfl
section
variable {p b q : Nat} {nx h to ln h' to' : Int} {w : World} {Post : World → Prop}
theorem pushOver_any (o : OpAt 198 q nx h to w) : Calls Tryz.prog 117 #[.pointer (some ⟨q, 0, none⟩)] w fun e w' => e = .returned (.bool (nx == 0)) ∧ w = w' := by
  have HO := Lib.hid o
  clear o
  go_enter Tryz.func117, Tryz.ntmps117
  go_wp2_with (go_at_call 119; refine (over_any HO.out).mono ?_; rintro e w' ⟨rfl, rfl⟩)
  go_ret
  exact ⟨rfl, rfl⟩
theorem pushStep_over (m : Value) (o : OpAt 198 q 0 h to w) : Calls Tryz.prog 83 #[.pointer (some ⟨q, 0, none⟩), m] w fun e w' => e = .returned (.bool true) ∧ w = w' := by
  have HO := Lib.hid o
  clear o
  go_enter Tryz.func83, Tryz.ntmps83
  go_wp2_with (go_at_call 117; refine (pushOver_any HO.out).mono ?_; rintro e w' ⟨rfl, rfl⟩)
  go_ret
  exact ⟨rfl, rfl⟩
set_option maxRecDepth 100000 in
set_option maxHeartbeats 4000000 in
theorem pushStep_1 (o : OpAt 198 q 1 h to w) (hp : ∀ X v, Post X → Post (X.setCell ⟨q, 0, none⟩ v)) (hl : ∀ X, Below w.heap.size w X → Calls Tryz.prog 142 #[.pointer (some ⟨q, 0, none⟩), .pointer (some ⟨p, 0, none⟩)] X fun e Y => e = .returned (.int .i64 ln) ∧ OpAt 198 q 1 h' to' Y ∧ Post Y ∧ Only3 p b q X Y) :
    Calls Tryz.prog 83 #[.pointer (some ⟨q, 0, none⟩), .pointer (some ⟨p, 0, none⟩)] w fun e w' => e = .returned (.bool (ln == 0)) ∧ OpAt 198 q ln h' to' w' ∧ Post w' ∧ Only3 p b q w w' := by
  have HO := Lib.hid o
  have HL := Lib.hid hl
  have HP := Lib.hid hp
  have c0 := o.cell 0
  simp only [List.getElem?_cons_zero] at c0
  have hm := m_pushRead q
  have hi := i_push1
  clear o hl hp
  go_enter Tryz.func83, Tryz.ntmps83
  go_wp2_with (go_at_call 117; refine (pushOver_any HO.out).mono ?_; rintro e w' ⟨rfl, rfl⟩)
  go_region_with (first
    | (go_at_call 118; refine (pushLines_any _).mono ?_; rintro e wA ⟨rfl, hA⟩; have HA := Lib.hid (show Below w.heap.size w wA from ((Below.refl _ w).drew).trans hA); have cA := (HO.out.below HA.out).cell 0; simp only [List.getElem?_cons_zero] at cA; clear hA)
    | (go_at_call 142; refine (HL.out wA HA.out).mono ?_; rintro e wB ⟨rfl, oB, pB, hB⟩; have cB := oB.cell 0; have zB := oB.free 0; simp only [List.getElem?_cons_zero] at cB; have HOB := Lib.hid oB; have HPB := Lib.hid pB; have HTB := Lib.hid hB; clear oB pB hB))
  all_goals
    have HOC := Lib.hid (HOB.out.set0 ln)
    have HTC := Lib.hid (((Only3.of_below HA.out).trans HTB.out).trans (Only3.setCell p b q wB 0 (.int .i64 ln)))
    have HPC := Lib.hid (HP.out _ (.int .i64 ln) HPB.out)
    go_wp2_with (go_at_call 119; refine (over_any HOC.out).mono ?_; rintro e w' ⟨rfl, rfl⟩)
    go_ret
    exact ⟨rfl, HOC.out, HPC.out, HTC.out⟩
set_option maxRecDepth 100000 in
set_option maxHeartbeats 4000000 in
theorem pushStep_2 (o : OpAt 198 q 2 h to w) (hp : ∀ X v, Post X → Post (X.setCell ⟨q, 0, none⟩ v)) (hl : ∀ X, Below w.heap.size w X → Calls Tryz.prog 143 #[.pointer (some ⟨q, 0, none⟩), .pointer (some ⟨p, 0, none⟩)] X fun e Y => e = .returned (.int .i64 ln) ∧ OpAt 198 q 2 h' to' Y ∧ Post Y ∧ Only3 p b q X Y) :
    Calls Tryz.prog 83 #[.pointer (some ⟨q, 0, none⟩), .pointer (some ⟨p, 0, none⟩)] w fun e w' => e = .returned (.bool (ln == 0)) ∧ OpAt 198 q ln h' to' w' ∧ Post w' ∧ Only3 p b q w w' := by
  have HO := Lib.hid o
  have HL := Lib.hid hl
  have HP := Lib.hid hp
  have c0 := o.cell 0
  simp only [List.getElem?_cons_zero] at c0
  have hi := i_push2
  clear o hl hp
  go_enter Tryz.func83, Tryz.ntmps83
  go_wp2_with (go_at_call 117; refine (pushOver_any HO.out).mono ?_; rintro e w' ⟨rfl, rfl⟩)
  go_region_with (first
    | (go_at_call 118; refine (pushLines_any _).mono ?_; rintro e wA ⟨rfl, hA⟩; have HA := Lib.hid (show Below w.heap.size w wA from ((Below.refl _ w).drew).trans hA); have cA := (HO.out.below HA.out).cell 0; simp only [List.getElem?_cons_zero] at cA; clear hA)
    | (go_at_call 143; refine (HL.out wA HA.out).mono ?_; rintro e wB ⟨rfl, oB, pB, hB⟩; have cB := oB.cell 0; have zB := oB.free 0; simp only [List.getElem?_cons_zero] at cB; have HOB := Lib.hid oB; have HPB := Lib.hid pB; have HTB := Lib.hid hB; clear oB pB hB))
  all_goals
    have HOC := Lib.hid (HOB.out.set0 ln)
    have HTC := Lib.hid (((Only3.of_below HA.out).trans HTB.out).trans (Only3.setCell p b q wB 0 (.int .i64 ln)))
    have HPC := Lib.hid (HP.out _ (.int .i64 ln) HPB.out)
    go_wp2_with (go_at_call 119; refine (over_any HOC.out).mono ?_; rintro e w' ⟨rfl, rfl⟩)
    go_ret
    exact ⟨rfl, HOC.out, HPC.out, HTC.out⟩
set_option maxRecDepth 100000 in
set_option maxHeartbeats 4000000 in
theorem pushStep_3 (o : OpAt 198 q 3 h to w) (hp : ∀ X v, Post X → Post (X.setCell ⟨q, 0, none⟩ v)) (hl : ∀ X, Below w.heap.size w X → Calls Tryz.prog 144 #[.pointer (some ⟨q, 0, none⟩), .pointer (some ⟨p, 0, none⟩)] X fun e Y => e = .returned (.int .i64 ln) ∧ OpAt 198 q 3 h' to' Y ∧ Post Y ∧ Only3 p b q X Y) :
    Calls Tryz.prog 83 #[.pointer (some ⟨q, 0, none⟩), .pointer (some ⟨p, 0, none⟩)] w fun e w' => e = .returned (.bool (ln == 0)) ∧ OpAt 198 q ln h' to' w' ∧ Post w' ∧ Only3 p b q w w' := by
  have HO := Lib.hid o
  have HL := Lib.hid hl
  have HP := Lib.hid hp
  have c0 := o.cell 0
  simp only [List.getElem?_cons_zero] at c0
  have hm := m_pushSwap q
  have hi := i_push3
  clear o hl hp
  go_enter Tryz.func83, Tryz.ntmps83
  go_wp2_with (go_at_call 117; refine (pushOver_any HO.out).mono ?_; rintro e w' ⟨rfl, rfl⟩)
  go_region_with (first
    | (go_at_call 118; refine (pushLines_any _).mono ?_; rintro e wA ⟨rfl, hA⟩; have HA := Lib.hid (show Below w.heap.size w wA from ((Below.refl _ w).drew).trans hA); have cA := (HO.out.below HA.out).cell 0; simp only [List.getElem?_cons_zero] at cA; clear hA)
    | (go_at_call 144; refine (HL.out wA HA.out).mono ?_; rintro e wB ⟨rfl, oB, pB, hB⟩; have cB := oB.cell 0; have zB := oB.free 0; simp only [List.getElem?_cons_zero] at cB; have HOB := Lib.hid oB; have HPB := Lib.hid pB; have HTB := Lib.hid hB; clear oB pB hB))
  all_goals
    have HOC := Lib.hid (HOB.out.set0 ln)
    have HTC := Lib.hid (((Only3.of_below HA.out).trans HTB.out).trans (Only3.setCell p b q wB 0 (.int .i64 ln)))
    have HPC := Lib.hid (HP.out _ (.int .i64 ln) HPB.out)
    go_wp2_with (go_at_call 119; refine (over_any HOC.out).mono ?_; rintro e w' ⟨rfl, rfl⟩)
    go_ret
    exact ⟨rfl, HOC.out, HPC.out, HTC.out⟩
theorem popOver_any (o : OpAt 210 q nx h to w) : Calls Tryz.prog 190 #[.pointer (some ⟨q, 0, none⟩)] w fun e w' => e = .returned (.bool (nx == 0)) ∧ w = w' := by
  have HO := Lib.hid o
  clear o
  go_enter Tryz.func190, Tryz.ntmps190
  go_wp2_with (go_at_call 119; refine (over_any HO.out).mono ?_; rintro e w' ⟨rfl, rfl⟩)
  go_ret
  exact ⟨rfl, rfl⟩
theorem popStep_over (m : Value) (o : OpAt 210 q 0 h to w) : Calls Tryz.prog 191 #[.pointer (some ⟨q, 0, none⟩), m] w fun e w' => e = .returned (.bool true) ∧ w = w' := by
  have HO := Lib.hid o
  clear o
  go_enter Tryz.func191, Tryz.ntmps191
  go_wp2_with (go_at_call 190; refine (popOver_any HO.out).mono ?_; rintro e w' ⟨rfl, rfl⟩)
  go_ret
  exact ⟨rfl, rfl⟩
set_option maxRecDepth 100000 in
set_option maxHeartbeats 4000000 in
theorem popStep_1 (o : OpAt 210 q 1 h to w) (hp : ∀ X v, Post X → Post (X.setCell ⟨q, 0, none⟩ v)) (hl : ∀ X, Below w.heap.size w X → Calls Tryz.prog 193 #[.pointer (some ⟨q, 0, none⟩), .pointer (some ⟨p, 0, none⟩)] X fun e Y => e = .returned (.int .i64 ln) ∧ OpAt 210 q 1 h' to' Y ∧ Post Y ∧ Only3 p b q X Y) :
    Calls Tryz.prog 191 #[.pointer (some ⟨q, 0, none⟩), .pointer (some ⟨p, 0, none⟩)] w fun e w' => e = .returned (.bool (ln == 0)) ∧ OpAt 210 q ln h' to' w' ∧ Post w' ∧ Only3 p b q w w' := by
  have HO := Lib.hid o
  have HL := Lib.hid hl
  have HP := Lib.hid hp
  have c0 := o.cell 0
  simp only [List.getElem?_cons_zero] at c0
  have hi := i_pop1
  clear o hl hp
  go_enter Tryz.func191, Tryz.ntmps191
  go_wp2_with (go_at_call 190; refine (popOver_any HO.out).mono ?_; rintro e w' ⟨rfl, rfl⟩)
  go_region_with (first
    | (go_at_call 192; refine (popLines_any _).mono ?_; rintro e wA ⟨rfl, hA⟩; have HA := Lib.hid (show Below w.heap.size w wA from ((Below.refl _ w).drew).trans hA); have cA := (HO.out.below HA.out).cell 0; simp only [List.getElem?_cons_zero] at cA; clear hA)
    | (go_at_call 193; refine (HL.out wA HA.out).mono ?_; rintro e wB ⟨rfl, oB, pB, hB⟩; have cB := oB.cell 0; have zB := oB.free 0; simp only [List.getElem?_cons_zero] at cB; have HOB := Lib.hid oB; have HPB := Lib.hid pB; have HTB := Lib.hid hB; clear oB pB hB))
  all_goals
    have HOC := Lib.hid (HOB.out.set0 ln)
    have HTC := Lib.hid (((Only3.of_below HA.out).trans HTB.out).trans (Only3.setCell p b q wB 0 (.int .i64 ln)))
    have HPC := Lib.hid (HP.out _ (.int .i64 ln) HPB.out)
    go_wp2_with (go_at_call 119; refine (over_any HOC.out).mono ?_; rintro e w' ⟨rfl, rfl⟩)
    go_ret
    exact ⟨rfl, HOC.out, HPC.out, HTC.out⟩
set_option maxRecDepth 100000 in
set_option maxHeartbeats 4000000 in
theorem popStep_2 (o : OpAt 210 q 2 h to w) (hp : ∀ X v, Post X → Post (X.setCell ⟨q, 0, none⟩ v)) (hl : ∀ X, Below w.heap.size w X → Calls Tryz.prog 194 #[.pointer (some ⟨q, 0, none⟩), .pointer (some ⟨p, 0, none⟩)] X fun e Y => e = .returned (.int .i64 ln) ∧ OpAt 210 q 2 h' to' Y ∧ Post Y ∧ Only3 p b q X Y) :
    Calls Tryz.prog 191 #[.pointer (some ⟨q, 0, none⟩), .pointer (some ⟨p, 0, none⟩)] w fun e w' => e = .returned (.bool (ln == 0)) ∧ OpAt 210 q ln h' to' w' ∧ Post w' ∧ Only3 p b q w w' := by
  have HO := Lib.hid o
  have HL := Lib.hid hl
  have HP := Lib.hid hp
  have c0 := o.cell 0
  simp only [List.getElem?_cons_zero] at c0
  have hi := i_pop2
  clear o hl hp
  go_enter Tryz.func191, Tryz.ntmps191
  go_wp2_with (go_at_call 190; refine (popOver_any HO.out).mono ?_; rintro e w' ⟨rfl, rfl⟩)
  go_region_with (first
    | (go_at_call 192; refine (popLines_any _).mono ?_; rintro e wA ⟨rfl, hA⟩; have HA := Lib.hid (show Below w.heap.size w wA from ((Below.refl _ w).drew).trans hA); have cA := (HO.out.below HA.out).cell 0; simp only [List.getElem?_cons_zero] at cA; clear hA)
    | (go_at_call 194; refine (HL.out wA HA.out).mono ?_; rintro e wB ⟨rfl, oB, pB, hB⟩; have cB := oB.cell 0; have zB := oB.free 0; simp only [List.getElem?_cons_zero] at cB; have HOB := Lib.hid oB; have HPB := Lib.hid pB; have HTB := Lib.hid hB; clear oB pB hB))
  all_goals
    have HOC := Lib.hid (HOB.out.set0 ln)
    have HTC := Lib.hid (((Only3.of_below HA.out).trans HTB.out).trans (Only3.setCell p b q wB 0 (.int .i64 ln)))
    have HPC := Lib.hid (HP.out _ (.int .i64 ln) HPB.out)
    go_wp2_with (go_at_call 119; refine (over_any HOC.out).mono ?_; rintro e w' ⟨rfl, rfl⟩)
    go_ret
    exact ⟨rfl, HOC.out, HPC.out, HTC.out⟩
set_option maxRecDepth 100000 in
set_option maxHeartbeats 4000000 in
theorem popStep_3 (o : OpAt 210 q 3 h to w) (hp : ∀ X v, Post X → Post (X.setCell ⟨q, 0, none⟩ v)) (hl : ∀ X, Below w.heap.size w X → Calls Tryz.prog 144 #[.pointer (some ⟨q, 0, none⟩), .pointer (some ⟨p, 0, none⟩)] X fun e Y => e = .returned (.int .i64 ln) ∧ OpAt 210 q 3 h' to' Y ∧ Post Y ∧ Only3 p b q X Y) :
    Calls Tryz.prog 191 #[.pointer (some ⟨q, 0, none⟩), .pointer (some ⟨p, 0, none⟩)] w fun e w' => e = .returned (.bool (ln == 0)) ∧ OpAt 210 q ln h' to' w' ∧ Post w' ∧ Only3 p b q w w' := by
  have HO := Lib.hid o
  have HL := Lib.hid hl
  have HP := Lib.hid hp
  have c0 := o.cell 0
  simp only [List.getElem?_cons_zero] at c0
  have hm := m_popSwap q
  have hi := i_pop3
  clear o hl hp
  go_enter Tryz.func191, Tryz.ntmps191
  go_wp2_with (go_at_call 190; refine (popOver_any HO.out).mono ?_; rintro e w' ⟨rfl, rfl⟩)
  go_region_with (first
    | (go_at_call 192; refine (popLines_any _).mono ?_; rintro e wA ⟨rfl, hA⟩; have HA := Lib.hid (show Below w.heap.size w wA from ((Below.refl _ w).drew).trans hA); have cA := (HO.out.below HA.out).cell 0; simp only [List.getElem?_cons_zero] at cA; clear hA)
    | (go_at_call 144; refine (HL.out wA HA.out).mono ?_; rintro e wB ⟨rfl, oB, pB, hB⟩; have cB := oB.cell 0; have zB := oB.free 0; simp only [List.getElem?_cons_zero] at cB; have HOB := Lib.hid oB; have HPB := Lib.hid pB; have HTB := Lib.hid hB; clear oB pB hB))
  all_goals
    have HOC := Lib.hid (HOB.out.set0 ln)
    have HTC := Lib.hid (((Only3.of_below HA.out).trans HTB.out).trans (Only3.setCell p b q wB 0 (.int .i64 ln)))
    have HPC := Lib.hid (HP.out _ (.int .i64 ln) HPB.out)
    go_wp2_with (go_at_call 119; refine (over_any HOC.out).mono ?_; rintro e w' ⟨rfl, rfl⟩)
    go_ret
    exact ⟨rfl, HOC.out, HPC.out, HTC.out⟩
end
end Go.Proofs.YtmjcbjcnmgleaaaGreatDoor
namespace Go.Proofs.YtmjcbjcnmgleaaaGreatDoor
open Go.RowKit Go.Maps
theorem Only3.below {p b q B : Nat} {X Y : World} (h : Only3 p b q X Y) (hp : B ≤ p) (hb : B ≤ b) (hq : B ≤ q) (hB : B ≤ X.heap.size) : Below B X Y :=
  ⟨h.os, h.tape, h.output, h.size, fun k hk => h.block k (by omega) (by omega) (by omega) (by omega)⟩
section
variable {p b q st : Nat} {nx h to : Int} {w : World}
theorem got_none (hL : Lay w) (hh : U64 h) (hs : wSlot h < 0) (o : OpAt 210 q 0 h to w) : Calls Tryz.prog 111 #[.pointer (some ⟨q, 0, none⟩)] w fun e w' => e = .returned (.tuple #[.int .i64 0, .bool false]) ∧ ∃ n, w' = w.drewN n := by
  have HO := Lib.hid o
  have HL := Lib.hid hL
  clear o hL
  go_enter Tryz.func111, Tryz.ntmps111
  go_wp2_with (first
    | (go_at_call 119; refine (over_any HO.out).mono ?_; rintro e w' ⟨rfl, rfl⟩)
    | (go_at_call 135; refine (first_any HL.out hh HO.out).mono ?_; rintro e w' ⟨rfl, n, rfl⟩))
  go_ret2
  exact ⟨rfl, n, rfl⟩
theorem got_slot (hL : Lay w) (hh : U64 h) (hs : 0 ≤ wSlot h) (o : OpAt 210 q 0 h to w) : Calls Tryz.prog 111 #[.pointer (some ⟨q, 0, none⟩)] w fun e w' => e = .returned (.tuple #[.int .i64 (wSlot h), .bool true]) ∧ ∃ n, w' = w.drewN n := by
  have HO := Lib.hid o
  have HL := Lib.hid hL
  clear o hL
  go_enter Tryz.func111, Tryz.ntmps111
  go_wp2_with fail
  refine (over_any HO.out).mono ?_
  rintro e w' ⟨rfl, rfl⟩
  go_wp2_with fail
  refine (first_any HL.out hh HO.out).mono ?_
  rintro e w' ⟨rfl, n, rfl⟩
  have HB := Lib.hid (show Below w.heap.size w (w.drewN n) from below_drewN' (Below.refl _ _) n)
  go_wp2_with fail
  refine (first_any (HL.out.below HB.out) hh (HO.out.below HB.out)).mono ?_
  rintro e w' ⟨rfl, j, rfl⟩
  go_wp2_with fail
  go_ret2
  exact ⟨rfl, _, rfl⟩
end
end Go.Proofs.YtmjcbjcnmgleaaaGreatDoor
namespace Go.Proofs.YtmjcbjcnmgleaaaGreatDoor
open Go.RowKit Go.Maps
section
variable {B p m b n q e : Nat} {t : TypeId} {nx h to : Int} {D : DataW Unit} {s r : Acc8} {L : List (Ad × Int)} {w w' : World}
theorem ref0_any {psh got : Bool} {sl nn : Int} (hu : U64 h) (R : RefAt e psh sl 0 got h nn w) : Calls Tryz.prog 102 #[.pointer (some ⟨e, 0, none⟩), .pointer (some ⟨b, 0, none⟩)] w fun ee w' => ee = .returned (.tuple #[]) ∧ Below w.heap.size w w' := by
  have hA : Below w.heap.size w (w.alloc (.cells #[.int .u8 0, .int .i64 0, .int .i64 0] 33)) := (Below.refl _ _).alloc (Nat.le_refl _) _
  obtain ⟨l0, l1, l2, lb⟩ := list_cells w
  have HA := Lib.hid hA
  obtain ⟨c0, c1, c2, c3, c4, c5, cf⟩ := (R.below hA).cells
  clear R hA lb cf
  go_enter Tryz.func102, Tryz.ntmps102
  go_wp2_with fail
  ((with_reducible refine (asHead10_any h _ hu).mono ?_); rintro ee w1 ⟨rfl, rfl⟩)
  go_wp2_with fail
  go_end0
  exact ⟨rfl, HA.out⟩
end
end Go.Proofs.YtmjcbjcnmgleaaaGreatDoor
namespace Go.Proofs.YtmjcbjcnmgleaaaGreatDoor
open Go.RowKit Go.Maps
def PopOk (nx h to sl : Int) (got : Bool) (nn : Int) : Prop := U64 h ∧ U64 nn ∧
  ((nx = 1 ∧ got = false) ∨ (nx = 2 ∧ got = false ∧ 0 ≤ wSlot h) ∨ (nx = 3 ∧ got = false ∧ 0 ≤ wSlot h ∧ to = wSlot nn) ∨ (nx = 0 ∧ got = false ∧ wSlot h < 0) ∨ (nx = 0 ∧ got = true ∧ 0 ≤ wSlot h ∧ sl = wSlot h))
section
variable {B p m b n q e c : Nat} {t : TypeId} {nx h to sl nn : Int} {psh got : Bool} {D : DataW Unit} {s r : Acc8} {L : List (Ad × Int)} {w w' : World}
theorem RefAt.ne_pr (R : RefAt e psh sl nx got h nn w) (hP : Pr p m b n D s L r w) : e ≠ p ∧ e ≠ b := by
  obtain ⟨v, hr⟩ := hP.ref
  constructor
  · rintro rfl
    have := hP.prog.blk.symm.trans R
    simp at this
  · rintro rfl
    have := hr.blk.symm.trans R
    simp [rest8] at this
end
end Go.Proofs.YtmjcbjcnmgleaaaGreatDoor
