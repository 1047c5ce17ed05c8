/-
  Package frees: the tables of lines; a step of a Pop and of a Push; condition: the tables as laid, the operation and the memory lie as they say, numbers of their kinds.
-/
import Derived.Test.YtlcbinckbkdgdaaDoorF3
import Derived.Test.YtlcbinckbkdgdaaDoorU1
import Derived.Deep.RegionWith
namespace Go.Proofs.YtlcbinckbkdgdaaDoor
open Go.RowKit Go.Maps

theorem m_pushRead (q : Nat) (w : World) : (method (309) 95 (.pointer (some ⟨q, 0, none⟩)) "ragpicker/frees.read").run Tryd.prog w = .ok (67, .pointer (some ⟨q, 0, none⟩)) w := by kernel_rfl
theorem m_pushSwap (q : Nat) (w : World) : (method (309) 95 (.pointer (some ⟨q, 0, none⟩)) "ragpicker/frees.swap").run Tryd.prog w = .ok (69, .pointer (some ⟨q, 0, none⟩)) w := by kernel_rfl
theorem m_popSwap (q : Nat) (w : World) : (method (309) 112 (.pointer (some ⟨q, 0, none⟩)) "ragpicker/frees.swap").run Tryd.prog w = .ok (69, .pointer (some ⟨q, 0, none⟩)) w := by kernel_rfl
theorem results_cell {P : Program} {fn : Func} {p : Tmp} {ty : TypeId} (h : fn.results = #[.cell p ty]) (tmps : Array Value) (w : World) (g : Nat) (t : TypeId) (cs : Array Value) (fr : Nat × Nat) (d : TypeDesc)
    (hp : tmps.getD p undef = .pointer (some ⟨g, 0, none⟩)) (hg : w.heap[g]? = some (.cells cs t fr))
    (hu : P.underlying ty = some d) (hd : (match d with | .struct _ | .array _ _ => true | _ => false) = true) (hi : (P.info? ty).map (·.size) = some cs.size) :
    (results fn tmps).run P w = .ok (.agg cs) w := by
  have hp' : tmps[p]?.getD undef = .pointer (some ⟨g, 0, none⟩) := by simpa using hp
  simp [results, h, hp', asAddr, run_loadVar_row w g t ty cs fr d hg hu hd hi]
theorem pushLines_any (w : World) : Calls Tryd.prog 56 #[] w fun e w' => e = .returned (.agg #[.nilFunc, .func (.methodOf 95 "ragpicker/frees.read") #[] #[], .func (.func 68) #[] #[], .func (.methodOf 95 "ragpicker/frees.swap") #[] #[]]) ∧ Below w.heap.size w w' := by
  go_enter Tryd.func56, Tryd.ntmps56
  have k0 : (w.alloc (.cells #[.nilFunc, .nilFunc, .nilFunc, .nilFunc] 159)).heap[w.heap.size]? = some (.cells #[.nilFunc, .nilFunc, .nilFunc, .nilFunc] 159 (0, 0)) := alloc_blk _ _
  go_wp2_with (refine wpList_store_put rfl 159 _ _ rfl w.heap.size rfl #[.nilFunc, .func (.methodOf 95 "ragpicker/frees.read") #[] #[], .func (.func 68) #[] #[], .func (.methodOf 95 "ragpicker/frees.swap") #[] #[]] rfl 159 _ k0 (by kernel_rfl) rfl (by decide) ?_; intro w1 hp)
  exact bodyPost_ret (results_cell Tryd.results56 _ _ _ _ _ _ _ rfl hp.at_ Tryd.underlying159 rfl (by kernel_rfl)) rfl ⟨rfl, hp.below ((Below.refl _ _).alloc (Nat.le_refl _) _) (Nat.le_refl _)⟩
theorem popLines_any (w : World) : Calls Tryd.prog 99 #[] w fun e w' => e = .returned (.agg #[.nilFunc, .func (.func 100) #[] #[], .func (.func 101) #[] #[], .func (.methodOf 112 "ragpicker/frees.swap") #[] #[]]) ∧ Below w.heap.size w w' := by
  go_enter Tryd.func99, Tryd.ntmps99
  have k0 : (w.alloc (.cells #[.nilFunc, .nilFunc, .nilFunc, .nilFunc] 203)).heap[w.heap.size]? = some (.cells #[.nilFunc, .nilFunc, .nilFunc, .nilFunc] 203 (0, 0)) := alloc_blk _ _
  go_wp2_with (refine wpList_store_put rfl 203 _ _ rfl w.heap.size rfl #[.nilFunc, .func (.func 100) #[] #[], .func (.func 101) #[] #[], .func (.methodOf 112 "ragpicker/frees.swap") #[] #[]] rfl 203 _ k0 (by kernel_rfl) rfl (by decide) ?_; intro w1 hp)
  exact bodyPost_ret (results_cell Tryd.results99 _ _ _ _ _ _ _ rfl hp.at_ Tryd.underlying203 rfl (by kernel_rfl)) rfl ⟨rfl, hp.below ((Below.refl _ _).alloc (Nat.le_refl _) _) (Nat.le_refl _)⟩
theorem i_push1 (w : World) : (Instr.index 159 (.agg #[.nilFunc, .func (.methodOf 95 "ragpicker/frees.read") #[] #[], .func (.func 68) #[] #[], .func (.methodOf 95 "ragpicker/frees.swap") #[] #[]]) (.int .i64 1)).run Tryd.prog w = .ok (.func (.methodOf 95 "ragpicker/frees.read") #[] #[]) w := by kernel_rfl
theorem i_push2 (w : World) : (Instr.index 159 (.agg #[.nilFunc, .func (.methodOf 95 "ragpicker/frees.read") #[] #[], .func (.func 68) #[] #[], .func (.methodOf 95 "ragpicker/frees.swap") #[] #[]]) (.int .i64 2)).run Tryd.prog w = .ok (.func (.func 68) #[] #[]) w := by kernel_rfl
theorem i_push3 (w : World) : (Instr.index 159 (.agg #[.nilFunc, .func (.methodOf 95 "ragpicker/frees.read") #[] #[], .func (.func 68) #[] #[], .func (.methodOf 95 "ragpicker/frees.swap") #[] #[]]) (.int .i64 3)).run Tryd.prog w = .ok (.func (.methodOf 95 "ragpicker/frees.swap") #[] #[]) w := by kernel_rfl
theorem i_pop1 (w : World) : (Instr.index 203 (.agg #[.nilFunc, .func (.func 100) #[] #[], .func (.func 101) #[] #[], .func (.methodOf 112 "ragpicker/frees.swap") #[] #[]]) (.int .i64 1)).run Tryd.prog w = .ok (.func (.func 100) #[] #[]) w := by kernel_rfl
theorem i_pop2 (w : World) : (Instr.index 203 (.agg #[.nilFunc, .func (.func 100) #[] #[], .func (.func 101) #[] #[], .func (.methodOf 112 "ragpicker/frees.swap") #[] #[]]) (.int .i64 2)).run Tryd.prog w = .ok (.func (.func 101) #[] #[]) w := by kernel_rfl
theorem i_pop3 (w : World) : (Instr.index 203 (.agg #[.nilFunc, .func (.func 100) #[] #[], .func (.func 101) #[] #[], .func (.methodOf 112 "ragpicker/frees.swap") #[] #[]]) (.int .i64 3)).run Tryd.prog w = .ok (.func (.methodOf 112 "ragpicker/frees.swap") #[] #[]) w := by kernel_rfl

section
variable {p b q : Nat} {nx h to ln h' to' : Int} {w : World} {Post : World → Prop}
theorem pushOver_any (o : OpAt 157 q nx h to w) : Calls Tryd.prog 55 #[.pointer (some ⟨q, 0, none⟩)] w fun e w' => e = .returned (.bool (nx == 0)) ∧ w = w' := by
  have HO := Lib.hid o
  clear o
  go_enter Tryd.func55, Tryd.ntmps55
  go_wp2_with (go_at_call 57; refine (over_any HO.out).mono ?_; rintro e w' ⟨rfl, rfl⟩)
  go_ret
  exact ⟨rfl, rfl⟩
theorem pushOver_nil (w : World) : Calls Tryd.prog 55 #[.pointer none] w fun e w' => e = .returned (.bool true) ∧ w = w' := by
  go_enter Tryd.func55, Tryd.ntmps55
  go_wp2_with fail
  go_ret
  exact ⟨rfl, rfl⟩
theorem pushStep_nil (m : Value) (w : World) : Calls Tryd.prog 38 #[.pointer none, m] w fun e w' => e = .returned (.bool true) ∧ w = w' := by
  go_enter Tryd.func38, Tryd.ntmps38
  go_wp2_with (go_at_call 55; refine (pushOver_nil _).mono ?_; rintro e w' ⟨rfl, rfl⟩)
  go_ret
  exact ⟨rfl, rfl⟩
theorem pushStep_over (m : Value) (o : OpAt 157 q 0 h to w) : Calls Tryd.prog 38 #[.pointer (some ⟨q, 0, none⟩), m] w fun e w' => e = .returned (.bool true) ∧ w = w' := by
  have HO := Lib.hid o
  clear o
  go_enter Tryd.func38, Tryd.ntmps38
  go_wp2_with (go_at_call 55; refine (pushOver_any HO.out).mono ?_; rintro e w' ⟨rfl, rfl⟩)
  go_ret
  exact ⟨rfl, rfl⟩
set_option maxRecDepth 100000 in
set_option maxHeartbeats 4000000 in
theorem pushStep_1 (o : OpAt 157 q 1 h to w) (hp : ∀ X v, Post X → Post (X.setCell ⟨q, 0, none⟩ v)) (hl : ∀ X, Below w.heap.size w X → Calls Tryd.prog 67 #[.pointer (some ⟨q, 0, none⟩), .pointer (some ⟨p, 0, none⟩)] X fun e Y => e = .returned (.int .i64 ln) ∧ OpAt 157 q 1 h' to' Y ∧ Post Y ∧ Only3 p b q X Y) :
    Calls Tryd.prog 38 #[.pointer (some ⟨q, 0, none⟩), .pointer (some ⟨p, 0, none⟩)] w fun e w' => e = .returned (.bool (ln == 0)) ∧ OpAt 157 q ln h' to' w' ∧ Post w' ∧ Only3 p b q w w' := by
  have HO := Lib.hid o
  have HL := Lib.hid hl
  have HP := Lib.hid hp
  have c0 := o.cell 0
  simp only [List.getElem?_cons_zero] at c0
  have hm := m_pushRead q
  have hi := i_push1
  clear o hl hp
  go_enter Tryd.func38, Tryd.ntmps38
  go_wp2_with (go_at_call 55; refine (pushOver_any HO.out).mono ?_; rintro e w' ⟨rfl, rfl⟩)
  go_region_with (first
    | (go_at_call 56; refine (pushLines_any _).mono ?_; rintro e wA ⟨rfl, hA⟩; have HA := Lib.hid (show Below w.heap.size w wA from ((Below.refl _ w).drew).trans hA); have cA := (HO.out.below HA.out).cell 0; simp only [List.getElem?_cons_zero] at cA; clear hA)
    | (go_at_call 67; refine (HL.out wA HA.out).mono ?_; rintro e wB ⟨rfl, oB, pB, hB⟩; have cB := oB.cell 0; have zB := oB.free 0; simp only [List.getElem?_cons_zero] at cB; have HOB := Lib.hid oB; have HPB := Lib.hid pB; have HTB := Lib.hid hB; clear oB pB hB))
  all_goals
    have HOC := Lib.hid (HOB.out.set0 ln)
    have HTC := Lib.hid (((Only3.of_below HA.out).trans HTB.out).trans (Only3.setCell p b q wB 0 (.int .i64 ln)))
    have HPC := Lib.hid (HP.out _ (.int .i64 ln) HPB.out)
    go_wp2_with (go_at_call 57; refine (over_any HOC.out).mono ?_; rintro e w' ⟨rfl, rfl⟩)
    go_ret
    exact ⟨rfl, HOC.out, HPC.out, HTC.out⟩
set_option maxRecDepth 100000 in
set_option maxHeartbeats 4000000 in
theorem pushStep_2 (o : OpAt 157 q 2 h to w) (hp : ∀ X v, Post X → Post (X.setCell ⟨q, 0, none⟩ v)) (hl : ∀ X, Below w.heap.size w X → Calls Tryd.prog 68 #[.pointer (some ⟨q, 0, none⟩), .pointer (some ⟨p, 0, none⟩)] X fun e Y => e = .returned (.int .i64 ln) ∧ OpAt 157 q 2 h' to' Y ∧ Post Y ∧ Only3 p b q X Y) :
    Calls Tryd.prog 38 #[.pointer (some ⟨q, 0, none⟩), .pointer (some ⟨p, 0, none⟩)] w fun e w' => e = .returned (.bool (ln == 0)) ∧ OpAt 157 q ln h' to' w' ∧ Post w' ∧ Only3 p b q w w' := by
  have HO := Lib.hid o
  have HL := Lib.hid hl
  have HP := Lib.hid hp
  have c0 := o.cell 0
  simp only [List.getElem?_cons_zero] at c0
  have hi := i_push2
  clear o hl hp
  go_enter Tryd.func38, Tryd.ntmps38
  go_wp2_with (go_at_call 55; refine (pushOver_any HO.out).mono ?_; rintro e w' ⟨rfl, rfl⟩)
  go_region_with (first
    | (go_at_call 56; refine (pushLines_any _).mono ?_; rintro e wA ⟨rfl, hA⟩; have HA := Lib.hid (show Below w.heap.size w wA from ((Below.refl _ w).drew).trans hA); have cA := (HO.out.below HA.out).cell 0; simp only [List.getElem?_cons_zero] at cA; clear hA)
    | (go_at_call 68; refine (HL.out wA HA.out).mono ?_; rintro e wB ⟨rfl, oB, pB, hB⟩; have cB := oB.cell 0; have zB := oB.free 0; simp only [List.getElem?_cons_zero] at cB; have HOB := Lib.hid oB; have HPB := Lib.hid pB; have HTB := Lib.hid hB; clear oB pB hB))
  all_goals
    have HOC := Lib.hid (HOB.out.set0 ln)
    have HTC := Lib.hid (((Only3.of_below HA.out).trans HTB.out).trans (Only3.setCell p b q wB 0 (.int .i64 ln)))
    have HPC := Lib.hid (HP.out _ (.int .i64 ln) HPB.out)
    go_wp2_with (go_at_call 57; refine (over_any HOC.out).mono ?_; rintro e w' ⟨rfl, rfl⟩)
    go_ret
    exact ⟨rfl, HOC.out, HPC.out, HTC.out⟩
set_option maxRecDepth 100000 in
set_option maxHeartbeats 4000000 in
theorem pushStep_3 (o : OpAt 157 q 3 h to w) (hp : ∀ X v, Post X → Post (X.setCell ⟨q, 0, none⟩ v)) (hl : ∀ X, Below w.heap.size w X → Calls Tryd.prog 69 #[.pointer (some ⟨q, 0, none⟩), .pointer (some ⟨p, 0, none⟩)] X fun e Y => e = .returned (.int .i64 ln) ∧ OpAt 157 q 3 h' to' Y ∧ Post Y ∧ Only3 p b q X Y) :
    Calls Tryd.prog 38 #[.pointer (some ⟨q, 0, none⟩), .pointer (some ⟨p, 0, none⟩)] w fun e w' => e = .returned (.bool (ln == 0)) ∧ OpAt 157 q ln h' to' w' ∧ Post w' ∧ Only3 p b q w w' := by
  have HO := Lib.hid o
  have HL := Lib.hid hl
  have HP := Lib.hid hp
  have c0 := o.cell 0
  simp only [List.getElem?_cons_zero] at c0
  have hm := m_pushSwap q
  have hi := i_push3
  clear o hl hp
  go_enter Tryd.func38, Tryd.ntmps38
  go_wp2_with (go_at_call 55; refine (pushOver_any HO.out).mono ?_; rintro e w' ⟨rfl, rfl⟩)
  go_region_with (first
    | (go_at_call 56; refine (pushLines_any _).mono ?_; rintro e wA ⟨rfl, hA⟩; have HA := Lib.hid (show Below w.heap.size w wA from ((Below.refl _ w).drew).trans hA); have cA := (HO.out.below HA.out).cell 0; simp only [List.getElem?_cons_zero] at cA; clear hA)
    | (go_at_call 69; refine (HL.out wA HA.out).mono ?_; rintro e wB ⟨rfl, oB, pB, hB⟩; have cB := oB.cell 0; have zB := oB.free 0; simp only [List.getElem?_cons_zero] at cB; have HOB := Lib.hid oB; have HPB := Lib.hid pB; have HTB := Lib.hid hB; clear oB pB hB))
  all_goals
    have HOC := Lib.hid (HOB.out.set0 ln)
    have HTC := Lib.hid (((Only3.of_below HA.out).trans HTB.out).trans (Only3.setCell p b q wB 0 (.int .i64 ln)))
    have HPC := Lib.hid (HP.out _ (.int .i64 ln) HPB.out)
    go_wp2_with (go_at_call 57; refine (over_any HOC.out).mono ?_; rintro e w' ⟨rfl, rfl⟩)
    go_ret
    exact ⟨rfl, HOC.out, HPC.out, HTC.out⟩
theorem popOver_any (o : OpAt 170 q nx h to w) : Calls Tryd.prog 97 #[.pointer (some ⟨q, 0, none⟩)] w fun e w' => e = .returned (.bool (nx == 0)) ∧ w = w' := by
  have HO := Lib.hid o
  clear o
  go_enter Tryd.func97, Tryd.ntmps97
  go_wp2_with (go_at_call 57; refine (over_any HO.out).mono ?_; rintro e w' ⟨rfl, rfl⟩)
  go_ret
  exact ⟨rfl, rfl⟩
theorem popOver_nil (w : World) : Calls Tryd.prog 97 #[.pointer none] w fun e w' => e = .returned (.bool true) ∧ w = w' := by
  go_enter Tryd.func97, Tryd.ntmps97
  go_wp2_with fail
  go_ret
  exact ⟨rfl, rfl⟩
theorem popStep_nil (m : Value) (w : World) : Calls Tryd.prog 98 #[.pointer none, m] w fun e w' => e = .returned (.bool true) ∧ w = w' := by
  go_enter Tryd.func98, Tryd.ntmps98
  go_wp2_with (go_at_call 97; refine (popOver_nil _).mono ?_; rintro e w' ⟨rfl, rfl⟩)
  go_ret
  exact ⟨rfl, rfl⟩
theorem popStep_over (m : Value) (o : OpAt 170 q 0 h to w) : Calls Tryd.prog 98 #[.pointer (some ⟨q, 0, none⟩), m] w fun e w' => e = .returned (.bool true) ∧ w = w' := by
  have HO := Lib.hid o
  clear o
  go_enter Tryd.func98, Tryd.ntmps98
  go_wp2_with (go_at_call 97; refine (popOver_any HO.out).mono ?_; rintro e w' ⟨rfl, rfl⟩)
  go_ret
  exact ⟨rfl, rfl⟩
set_option maxRecDepth 100000 in
set_option maxHeartbeats 4000000 in
theorem popStep_1 (o : OpAt 170 q 1 h to w) (hp : ∀ X v, Post X → Post (X.setCell ⟨q, 0, none⟩ v)) (hl : ∀ X, Below w.heap.size w X → Calls Tryd.prog 100 #[.pointer (some ⟨q, 0, none⟩), .pointer (some ⟨p, 0, none⟩)] X fun e Y => e = .returned (.int .i64 ln) ∧ OpAt 170 q 1 h' to' Y ∧ Post Y ∧ Only3 p b q X Y) :
    Calls Tryd.prog 98 #[.pointer (some ⟨q, 0, none⟩), .pointer (some ⟨p, 0, none⟩)] w fun e w' => e = .returned (.bool (ln == 0)) ∧ OpAt 170 q ln h' to' w' ∧ Post w' ∧ Only3 p b q w w' := by
  have HO := Lib.hid o
  have HL := Lib.hid hl
  have HP := Lib.hid hp
  have c0 := o.cell 0
  simp only [List.getElem?_cons_zero] at c0
  have hi := i_pop1
  clear o hl hp
  go_enter Tryd.func98, Tryd.ntmps98
  go_wp2_with (go_at_call 97; refine (popOver_any HO.out).mono ?_; rintro e w' ⟨rfl, rfl⟩)
  go_region_with (first
    | (go_at_call 99; refine (popLines_any _).mono ?_; rintro e wA ⟨rfl, hA⟩; have HA := Lib.hid (show Below w.heap.size w wA from ((Below.refl _ w).drew).trans hA); have cA := (HO.out.below HA.out).cell 0; simp only [List.getElem?_cons_zero] at cA; clear hA)
    | (go_at_call 100; refine (HL.out wA HA.out).mono ?_; rintro e wB ⟨rfl, oB, pB, hB⟩; have cB := oB.cell 0; have zB := oB.free 0; simp only [List.getElem?_cons_zero] at cB; have HOB := Lib.hid oB; have HPB := Lib.hid pB; have HTB := Lib.hid hB; clear oB pB hB))
  all_goals
    have HOC := Lib.hid (HOB.out.set0 ln)
    have HTC := Lib.hid (((Only3.of_below HA.out).trans HTB.out).trans (Only3.setCell p b q wB 0 (.int .i64 ln)))
    have HPC := Lib.hid (HP.out _ (.int .i64 ln) HPB.out)
    go_wp2_with (go_at_call 57; refine (over_any HOC.out).mono ?_; rintro e w' ⟨rfl, rfl⟩)
    go_ret
    exact ⟨rfl, HOC.out, HPC.out, HTC.out⟩
set_option maxRecDepth 100000 in
set_option maxHeartbeats 4000000 in
theorem popStep_2 (o : OpAt 170 q 2 h to w) (hp : ∀ X v, Post X → Post (X.setCell ⟨q, 0, none⟩ v)) (hl : ∀ X, Below w.heap.size w X → Calls Tryd.prog 101 #[.pointer (some ⟨q, 0, none⟩), .pointer (some ⟨p, 0, none⟩)] X fun e Y => e = .returned (.int .i64 ln) ∧ OpAt 170 q 2 h' to' Y ∧ Post Y ∧ Only3 p b q X Y) :
    Calls Tryd.prog 98 #[.pointer (some ⟨q, 0, none⟩), .pointer (some ⟨p, 0, none⟩)] w fun e w' => e = .returned (.bool (ln == 0)) ∧ OpAt 170 q ln h' to' w' ∧ Post w' ∧ Only3 p b q w w' := by
  have HO := Lib.hid o
  have HL := Lib.hid hl
  have HP := Lib.hid hp
  have c0 := o.cell 0
  simp only [List.getElem?_cons_zero] at c0
  have hi := i_pop2
  clear o hl hp
  go_enter Tryd.func98, Tryd.ntmps98
  go_wp2_with (go_at_call 97; refine (popOver_any HO.out).mono ?_; rintro e w' ⟨rfl, rfl⟩)
  go_region_with (first
    | (go_at_call 99; refine (popLines_any _).mono ?_; rintro e wA ⟨rfl, hA⟩; have HA := Lib.hid (show Below w.heap.size w wA from ((Below.refl _ w).drew).trans hA); have cA := (HO.out.below HA.out).cell 0; simp only [List.getElem?_cons_zero] at cA; clear hA)
    | (go_at_call 101; refine (HL.out wA HA.out).mono ?_; rintro e wB ⟨rfl, oB, pB, hB⟩; have cB := oB.cell 0; have zB := oB.free 0; simp only [List.getElem?_cons_zero] at cB; have HOB := Lib.hid oB; have HPB := Lib.hid pB; have HTB := Lib.hid hB; clear oB pB hB))
  all_goals
    have HOC := Lib.hid (HOB.out.set0 ln)
    have HTC := Lib.hid (((Only3.of_below HA.out).trans HTB.out).trans (Only3.setCell p b q wB 0 (.int .i64 ln)))
    have HPC := Lib.hid (HP.out _ (.int .i64 ln) HPB.out)
    go_wp2_with (go_at_call 57; refine (over_any HOC.out).mono ?_; rintro e w' ⟨rfl, rfl⟩)
    go_ret
    exact ⟨rfl, HOC.out, HPC.out, HTC.out⟩
set_option maxRecDepth 100000 in
set_option maxHeartbeats 4000000 in
theorem popStep_3 (o : OpAt 170 q 3 h to w) (hp : ∀ X v, Post X → Post (X.setCell ⟨q, 0, none⟩ v)) (hl : ∀ X, Below w.heap.size w X → Calls Tryd.prog 69 #[.pointer (some ⟨q, 0, none⟩), .pointer (some ⟨p, 0, none⟩)] X fun e Y => e = .returned (.int .i64 ln) ∧ OpAt 170 q 3 h' to' Y ∧ Post Y ∧ Only3 p b q X Y) :
    Calls Tryd.prog 98 #[.pointer (some ⟨q, 0, none⟩), .pointer (some ⟨p, 0, none⟩)] w fun e w' => e = .returned (.bool (ln == 0)) ∧ OpAt 170 q ln h' to' w' ∧ Post w' ∧ Only3 p b q w w' := by
  have HO := Lib.hid o
  have HL := Lib.hid hl
  have HP := Lib.hid hp
  have c0 := o.cell 0
  simp only [List.getElem?_cons_zero] at c0
  have hm := m_popSwap q
  have hi := i_pop3
  clear o hl hp
  go_enter Tryd.func98, Tryd.ntmps98
  go_wp2_with (go_at_call 97; refine (popOver_any HO.out).mono ?_; rintro e w' ⟨rfl, rfl⟩)
  go_region_with (first
    | (go_at_call 99; refine (popLines_any _).mono ?_; rintro e wA ⟨rfl, hA⟩; have HA := Lib.hid (show Below w.heap.size w wA from ((Below.refl _ w).drew).trans hA); have cA := (HO.out.below HA.out).cell 0; simp only [List.getElem?_cons_zero] at cA; clear hA)
    | (go_at_call 69; refine (HL.out wA HA.out).mono ?_; rintro e wB ⟨rfl, oB, pB, hB⟩; have cB := oB.cell 0; have zB := oB.free 0; simp only [List.getElem?_cons_zero] at cB; have HOB := Lib.hid oB; have HPB := Lib.hid pB; have HTB := Lib.hid hB; clear oB pB hB))
  all_goals
    have HOC := Lib.hid (HOB.out.set0 ln)
    have HTC := Lib.hid (((Only3.of_below HA.out).trans HTB.out).trans (Only3.setCell p b q wB 0 (.int .i64 ln)))
    have HPC := Lib.hid (HP.out _ (.int .i64 ln) HPB.out)
    go_wp2_with (go_at_call 57; refine (over_any HOC.out).mono ?_; rintro e w' ⟨rfl, rfl⟩)
    go_ret
    exact ⟨rfl, HOC.out, HPC.out, HTC.out⟩
end
end Go.Proofs.YtlcbinckbkdgdaaDoor
