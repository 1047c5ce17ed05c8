/-
  Package frees: the tables of lines; a step of a Pop and of a Push; condition: the tables as laid, the operation and the memory lie as they say, numbers of their kinds.
  Package frees over the list in plain words: a step of a Pop and of a Push does what the plain one does; condition: the tables as laid, the operation and the memory lie as they say.
  Package frees: what a Pop got; a new memory; the law's examples (lives); condition: the tables as laid.
-/
import Derived.Test.YtlcbinckbkdgdaaGreatDoorF1
import Derived.Test.YtlcbinckbkdgdaaGreatDoorU1
import Derived.Deep.RegionWith
import Derived.Test.YtlcbinckbkdgdaaGreatDoorH1
import Derived.Test.YtlcbinckbkdgdaaGreatDoorO0
namespace Go.Proofs.YtlcbinckbkdgdaaGreatDoor
open Go.RowKit Go.Maps

theorem m_pushRead (q : Nat) (w : World) : (method (358) 106 (.pointer (some ⟨q, 0, none⟩)) "ragpicker/frees.read").run Tryz.prog w = .ok (82, .pointer (some ⟨q, 0, none⟩)) w := by kernel_rfl
theorem m_pushSwap (q : Nat) (w : World) : (method (358) 106 (.pointer (some ⟨q, 0, none⟩)) "ragpicker/frees.swap").run Tryz.prog w = .ok (84, .pointer (some ⟨q, 0, none⟩)) w := by kernel_rfl
theorem m_popSwap (q : Nat) (w : World) : (method (358) 75 (.pointer (some ⟨q, 0, none⟩)) "ragpicker/frees.swap").run Tryz.prog w = .ok (84, .pointer (some ⟨q, 0, none⟩)) w := by kernel_rfl
theorem results_cell {P : Program} {fn : Func} {p : Tmp} {ty : TypeId} (h : fn.results = #[.cell p ty]) (tmps : Array Value) (w : World) (g : Nat) (t : TypeId) (cs : Array Value) (fr : Nat × Nat) (d : TypeDesc)
    (hp : tmps.getD p undef = .pointer (some ⟨g, 0, none⟩)) (hg : w.heap[g]? = some (.cells cs t fr))
    (hu : P.underlying ty = some d) (hd : (match d with | .struct _ | .array _ _ => true | _ => false) = true) (hi : (P.info? ty).map (·.size) = some cs.size) :
    (results fn tmps).run P w = .ok (.agg cs) w := by
  have hp' : tmps[p]?.getD undef = .pointer (some ⟨g, 0, none⟩) := by simpa using hp
  simp [results, h, hp', asAddr, run_loadVar_row w g t ty cs fr d hg hu hd hi]
theorem pushLines_any (w : World) : Calls Tryz.prog 65 #[] w fun e w' => e = .returned (.agg #[.nilFunc, .func (.methodOf 106 "ragpicker/frees.read") #[] #[], .func (.func 83) #[] #[], .func (.methodOf 106 "ragpicker/frees.swap") #[] #[]]) ∧ Below w.heap.size w w' := by
  go_enter Tryz.func65, Tryz.ntmps65
  have k0 : (w.alloc (.cells #[.nilFunc, .nilFunc, .nilFunc, .nilFunc] 135)).heap[w.heap.size]? = some (.cells #[.nilFunc, .nilFunc, .nilFunc, .nilFunc] 135 (0, 0)) := alloc_blk _ _
  go_wp2_with (refine wpList_store_put rfl 135 _ _ rfl w.heap.size rfl #[.nilFunc, .func (.methodOf 106 "ragpicker/frees.read") #[] #[], .func (.func 83) #[] #[], .func (.methodOf 106 "ragpicker/frees.swap") #[] #[]] rfl 135 _ k0 (by kernel_rfl) rfl (by decide) ?_; intro w1 hp)
  exact bodyPost_ret (results_cell Tryz.results65 _ _ _ _ _ _ _ rfl hp.at_ Tryz.underlying135 rfl (by kernel_rfl)) rfl ⟨rfl, hp.below ((Below.refl _ _).alloc (Nat.le_refl _) _) (Nat.le_refl _)⟩
theorem popLines_any (w : World) : Calls Tryz.prog 147 #[] w fun e w' => e = .returned (.agg #[.nilFunc, .func (.func 148) #[] #[], .func (.func 149) #[] #[], .func (.methodOf 75 "ragpicker/frees.swap") #[] #[]]) ∧ Below w.heap.size w w' := by
  go_enter Tryz.func147, Tryz.ntmps147
  have k0 : (w.alloc (.cells #[.nilFunc, .nilFunc, .nilFunc, .nilFunc] 251)).heap[w.heap.size]? = some (.cells #[.nilFunc, .nilFunc, .nilFunc, .nilFunc] 251 (0, 0)) := alloc_blk _ _
  go_wp2_with (refine wpList_store_put rfl 251 _ _ rfl w.heap.size rfl #[.nilFunc, .func (.func 148) #[] #[], .func (.func 149) #[] #[], .func (.methodOf 75 "ragpicker/frees.swap") #[] #[]] rfl 251 _ k0 (by kernel_rfl) rfl (by decide) ?_; intro w1 hp)
  exact bodyPost_ret (results_cell Tryz.results147 _ _ _ _ _ _ _ rfl hp.at_ Tryz.underlying251 rfl (by kernel_rfl)) rfl ⟨rfl, hp.below ((Below.refl _ _).alloc (Nat.le_refl _) _) (Nat.le_refl _)⟩
theorem i_push1 (w : World) : (Instr.index 135 (.agg #[.nilFunc, .func (.methodOf 106 "ragpicker/frees.read") #[] #[], .func (.func 83) #[] #[], .func (.methodOf 106 "ragpicker/frees.swap") #[] #[]]) (.int .i64 1)).run Tryz.prog w = .ok (.func (.methodOf 106 "ragpicker/frees.read") #[] #[]) w := by kernel_rfl
theorem i_push2 (w : World) : (Instr.index 135 (.agg #[.nilFunc, .func (.methodOf 106 "ragpicker/frees.read") #[] #[], .func (.func 83) #[] #[], .func (.methodOf 106 "ragpicker/frees.swap") #[] #[]]) (.int .i64 2)).run Tryz.prog w = .ok (.func (.func 83) #[] #[]) w := by kernel_rfl
theorem i_push3 (w : World) : (Instr.index 135 (.agg #[.nilFunc, .func (.methodOf 106 "ragpicker/frees.read") #[] #[], .func (.func 83) #[] #[], .func (.methodOf 106 "ragpicker/frees.swap") #[] #[]]) (.int .i64 3)).run Tryz.prog w = .ok (.func (.methodOf 106 "ragpicker/frees.swap") #[] #[]) w := by kernel_rfl
theorem i_pop1 (w : World) : (Instr.index 251 (.agg #[.nilFunc, .func (.func 148) #[] #[], .func (.func 149) #[] #[], .func (.methodOf 75 "ragpicker/frees.swap") #[] #[]]) (.int .i64 1)).run Tryz.prog w = .ok (.func (.func 148) #[] #[]) w := by kernel_rfl
theorem i_pop2 (w : World) : (Instr.index 251 (.agg #[.nilFunc, .func (.func 148) #[] #[], .func (.func 149) #[] #[], .func (.methodOf 75 "ragpicker/frees.swap") #[] #[]]) (.int .i64 2)).run Tryz.prog w = .ok (.func (.func 149) #[] #[]) w := by kernel_rfl
theorem i_pop3 (w : World) : (Instr.index 251 (.agg #[.nilFunc, .func (.func 148) #[] #[], .func (.func 149) #[] #[], .func (.methodOf 75 "ragpicker/frees.swap") #[] #[]]) (.int .i64 3)).run Tryz.prog w = .ok (.func (.methodOf 75 "ragpicker/frees.swap") #[] #[]) w := by kernel_rfl

section
variable {p b q : Nat} {nx h to ln h' to' : Int} {w : World} {Post : World → Prop}
theorem pushOver_any (o : OpAt 133 q nx h to w) : Calls Tryz.prog 64 #[.pointer (some ⟨q, 0, none⟩)] w fun e w' => e = .returned (.bool (nx == 0)) ∧ w = w' := by
  have HO := Lib.hid o
  clear o
  go_enter Tryz.func64, Tryz.ntmps64
  go_wp2_with (go_at_call 66; refine (over_any HO.out).mono ?_; rintro e w' ⟨rfl, rfl⟩)
  go_ret
  exact ⟨rfl, rfl⟩
theorem pushOver_nil (w : World) : Calls Tryz.prog 64 #[.pointer none] w fun e w' => e = .returned (.bool true) ∧ w = w' := by
  go_enter Tryz.func64, Tryz.ntmps64
  go_wp2_with fail
  go_ret
  exact ⟨rfl, rfl⟩
theorem pushStep_nil (m : Value) (w : World) : Calls Tryz.prog 43 #[.pointer none, m] w fun e w' => e = .returned (.bool true) ∧ w = w' := by
  go_enter Tryz.func43, Tryz.ntmps43
  go_wp2_with (go_at_call 64; refine (pushOver_nil _).mono ?_; rintro e w' ⟨rfl, rfl⟩)
  go_ret
  exact ⟨rfl, rfl⟩
theorem pushStep_over (m : Value) (o : OpAt 133 q 0 h to w) : Calls Tryz.prog 43 #[.pointer (some ⟨q, 0, none⟩), m] w fun e w' => e = .returned (.bool true) ∧ w = w' := by
  have HO := Lib.hid o
  clear o
  go_enter Tryz.func43, Tryz.ntmps43
  go_wp2_with (go_at_call 64; refine (pushOver_any HO.out).mono ?_; rintro e w' ⟨rfl, rfl⟩)
  go_ret
  exact ⟨rfl, rfl⟩
set_option maxRecDepth 100000 in
set_option maxHeartbeats 4000000 in
theorem pushStep_1 (o : OpAt 133 q 1 h to w) (hp : ∀ X v, Post X → Post (X.setCell ⟨q, 0, none⟩ v)) (hl : ∀ X, Below w.heap.size w X → Calls Tryz.prog 82 #[.pointer (some ⟨q, 0, none⟩), .pointer (some ⟨p, 0, none⟩)] X fun e Y => e = .returned (.int .i64 ln) ∧ OpAt 133 q 1 h' to' Y ∧ Post Y ∧ Only3 p b q X Y) :
    Calls Tryz.prog 43 #[.pointer (some ⟨q, 0, none⟩), .pointer (some ⟨p, 0, none⟩)] w fun e w' => e = .returned (.bool (ln == 0)) ∧ OpAt 133 q ln h' to' w' ∧ Post w' ∧ Only3 p b q w w' := by
  have HO := Lib.hid o
  have HL := Lib.hid hl
  have HP := Lib.hid hp
  have c0 := o.cell 0
  simp only [List.getElem?_cons_zero] at c0
  have hm := m_pushRead q
  have hi := i_push1
  clear o hl hp
  go_enter Tryz.func43, Tryz.ntmps43
  go_wp2_with (go_at_call 64; refine (pushOver_any HO.out).mono ?_; rintro e w' ⟨rfl, rfl⟩)
  go_region_with (first
    | (go_at_call 65; refine (pushLines_any _).mono ?_; rintro e wA ⟨rfl, hA⟩; have HA := Lib.hid (show Below w.heap.size w wA from ((Below.refl _ w).drew).trans hA); have cA := (HO.out.below HA.out).cell 0; simp only [List.getElem?_cons_zero] at cA; clear hA)
    | (go_at_call 82; refine (HL.out wA HA.out).mono ?_; rintro e wB ⟨rfl, oB, pB, hB⟩; have cB := oB.cell 0; have zB := oB.free 0; simp only [List.getElem?_cons_zero] at cB; have HOB := Lib.hid oB; have HPB := Lib.hid pB; have HTB := Lib.hid hB; clear oB pB hB))
  all_goals
    have HOC := Lib.hid (HOB.out.set0 ln)
    have HTC := Lib.hid (((Only3.of_below HA.out).trans HTB.out).trans (Only3.setCell p b q wB 0 (.int .i64 ln)))
    have HPC := Lib.hid (HP.out _ (.int .i64 ln) HPB.out)
    go_wp2_with (go_at_call 66; refine (over_any HOC.out).mono ?_; rintro e w' ⟨rfl, rfl⟩)
    go_ret
    exact ⟨rfl, HOC.out, HPC.out, HTC.out⟩
set_option maxRecDepth 100000 in
set_option maxHeartbeats 4000000 in
theorem pushStep_2 (o : OpAt 133 q 2 h to w) (hp : ∀ X v, Post X → Post (X.setCell ⟨q, 0, none⟩ v)) (hl : ∀ X, Below w.heap.size w X → Calls Tryz.prog 83 #[.pointer (some ⟨q, 0, none⟩), .pointer (some ⟨p, 0, none⟩)] X fun e Y => e = .returned (.int .i64 ln) ∧ OpAt 133 q 2 h' to' Y ∧ Post Y ∧ Only3 p b q X Y) :
    Calls Tryz.prog 43 #[.pointer (some ⟨q, 0, none⟩), .pointer (some ⟨p, 0, none⟩)] w fun e w' => e = .returned (.bool (ln == 0)) ∧ OpAt 133 q ln h' to' w' ∧ Post w' ∧ Only3 p b q w w' := by
  have HO := Lib.hid o
  have HL := Lib.hid hl
  have HP := Lib.hid hp
  have c0 := o.cell 0
  simp only [List.getElem?_cons_zero] at c0
  have hi := i_push2
  clear o hl hp
  go_enter Tryz.func43, Tryz.ntmps43
  go_wp2_with (go_at_call 64; refine (pushOver_any HO.out).mono ?_; rintro e w' ⟨rfl, rfl⟩)
  go_region_with (first
    | (go_at_call 65; refine (pushLines_any _).mono ?_; rintro e wA ⟨rfl, hA⟩; have HA := Lib.hid (show Below w.heap.size w wA from ((Below.refl _ w).drew).trans hA); have cA := (HO.out.below HA.out).cell 0; simp only [List.getElem?_cons_zero] at cA; clear hA)
    | (go_at_call 83; refine (HL.out wA HA.out).mono ?_; rintro e wB ⟨rfl, oB, pB, hB⟩; have cB := oB.cell 0; have zB := oB.free 0; simp only [List.getElem?_cons_zero] at cB; have HOB := Lib.hid oB; have HPB := Lib.hid pB; have HTB := Lib.hid hB; clear oB pB hB))
  all_goals
    have HOC := Lib.hid (HOB.out.set0 ln)
    have HTC := Lib.hid (((Only3.of_below HA.out).trans HTB.out).trans (Only3.setCell p b q wB 0 (.int .i64 ln)))
    have HPC := Lib.hid (HP.out _ (.int .i64 ln) HPB.out)
    go_wp2_with (go_at_call 66; refine (over_any HOC.out).mono ?_; rintro e w' ⟨rfl, rfl⟩)
    go_ret
    exact ⟨rfl, HOC.out, HPC.out, HTC.out⟩
set_option maxRecDepth 100000 in
set_option maxHeartbeats 4000000 in
theorem pushStep_3 (o : OpAt 133 q 3 h to w) (hp : ∀ X v, Post X → Post (X.setCell ⟨q, 0, none⟩ v)) (hl : ∀ X, Below w.heap.size w X → Calls Tryz.prog 84 #[.pointer (some ⟨q, 0, none⟩), .pointer (some ⟨p, 0, none⟩)] X fun e Y => e = .returned (.int .i64 ln) ∧ OpAt 133 q 3 h' to' Y ∧ Post Y ∧ Only3 p b q X Y) :
    Calls Tryz.prog 43 #[.pointer (some ⟨q, 0, none⟩), .pointer (some ⟨p, 0, none⟩)] w fun e w' => e = .returned (.bool (ln == 0)) ∧ OpAt 133 q ln h' to' w' ∧ Post w' ∧ Only3 p b q w w' := by
  have HO := Lib.hid o
  have HL := Lib.hid hl
  have HP := Lib.hid hp
  have c0 := o.cell 0
  simp only [List.getElem?_cons_zero] at c0
  have hm := m_pushSwap q
  have hi := i_push3
  clear o hl hp
  go_enter Tryz.func43, Tryz.ntmps43
  go_wp2_with (go_at_call 64; refine (pushOver_any HO.out).mono ?_; rintro e w' ⟨rfl, rfl⟩)
  go_region_with (first
    | (go_at_call 65; refine (pushLines_any _).mono ?_; rintro e wA ⟨rfl, hA⟩; have HA := Lib.hid (show Below w.heap.size w wA from ((Below.refl _ w).drew).trans hA); have cA := (HO.out.below HA.out).cell 0; simp only [List.getElem?_cons_zero] at cA; clear hA)
    | (go_at_call 84; refine (HL.out wA HA.out).mono ?_; rintro e wB ⟨rfl, oB, pB, hB⟩; have cB := oB.cell 0; have zB := oB.free 0; simp only [List.getElem?_cons_zero] at cB; have HOB := Lib.hid oB; have HPB := Lib.hid pB; have HTB := Lib.hid hB; clear oB pB hB))
  all_goals
    have HOC := Lib.hid (HOB.out.set0 ln)
    have HTC := Lib.hid (((Only3.of_below HA.out).trans HTB.out).trans (Only3.setCell p b q wB 0 (.int .i64 ln)))
    have HPC := Lib.hid (HP.out _ (.int .i64 ln) HPB.out)
    go_wp2_with (go_at_call 66; refine (over_any HOC.out).mono ?_; rintro e w' ⟨rfl, rfl⟩)
    go_ret
    exact ⟨rfl, HOC.out, HPC.out, HTC.out⟩
theorem popOver_any (o : OpAt 118 q nx h to w) : Calls Tryz.prog 145 #[.pointer (some ⟨q, 0, none⟩)] w fun e w' => e = .returned (.bool (nx == 0)) ∧ w = w' := by
  have HO := Lib.hid o
  clear o
  go_enter Tryz.func145, Tryz.ntmps145
  go_wp2_with (go_at_call 66; refine (over_any HO.out).mono ?_; rintro e w' ⟨rfl, rfl⟩)
  go_ret
  exact ⟨rfl, rfl⟩
theorem popOver_nil (w : World) : Calls Tryz.prog 145 #[.pointer none] w fun e w' => e = .returned (.bool true) ∧ w = w' := by
  go_enter Tryz.func145, Tryz.ntmps145
  go_wp2_with fail
  go_ret
  exact ⟨rfl, rfl⟩
theorem popStep_nil (m : Value) (w : World) : Calls Tryz.prog 146 #[.pointer none, m] w fun e w' => e = .returned (.bool true) ∧ w = w' := by
  go_enter Tryz.func146, Tryz.ntmps146
  go_wp2_with (go_at_call 145; refine (popOver_nil _).mono ?_; rintro e w' ⟨rfl, rfl⟩)
  go_ret
  exact ⟨rfl, rfl⟩
theorem popStep_over (m : Value) (o : OpAt 118 q 0 h to w) : Calls Tryz.prog 146 #[.pointer (some ⟨q, 0, none⟩), m] w fun e w' => e = .returned (.bool true) ∧ w = w' := by
  have HO := Lib.hid o
  clear o
  go_enter Tryz.func146, Tryz.ntmps146
  go_wp2_with (go_at_call 145; refine (popOver_any HO.out).mono ?_; rintro e w' ⟨rfl, rfl⟩)
  go_ret
  exact ⟨rfl, rfl⟩
set_option maxRecDepth 100000 in
set_option maxHeartbeats 4000000 in
theorem popStep_1 (o : OpAt 118 q 1 h to w) (hp : ∀ X v, Post X → Post (X.setCell ⟨q, 0, none⟩ v)) (hl : ∀ X, Below w.heap.size w X → Calls Tryz.prog 148 #[.pointer (some ⟨q, 0, none⟩), .pointer (some ⟨p, 0, none⟩)] X fun e Y => e = .returned (.int .i64 ln) ∧ OpAt 118 q 1 h' to' Y ∧ Post Y ∧ Only3 p b q X Y) :
    Calls Tryz.prog 146 #[.pointer (some ⟨q, 0, none⟩), .pointer (some ⟨p, 0, none⟩)] w fun e w' => e = .returned (.bool (ln == 0)) ∧ OpAt 118 q ln h' to' w' ∧ Post w' ∧ Only3 p b q w w' := by
  have HO := Lib.hid o
  have HL := Lib.hid hl
  have HP := Lib.hid hp
  have c0 := o.cell 0
  simp only [List.getElem?_cons_zero] at c0
  have hi := i_pop1
  clear o hl hp
  go_enter Tryz.func146, Tryz.ntmps146
  go_wp2_with (go_at_call 145; refine (popOver_any HO.out).mono ?_; rintro e w' ⟨rfl, rfl⟩)
  go_region_with (first
    | (go_at_call 147; refine (popLines_any _).mono ?_; rintro e wA ⟨rfl, hA⟩; have HA := Lib.hid (show Below w.heap.size w wA from ((Below.refl _ w).drew).trans hA); have cA := (HO.out.below HA.out).cell 0; simp only [List.getElem?_cons_zero] at cA; clear hA)
    | (go_at_call 148; refine (HL.out wA HA.out).mono ?_; rintro e wB ⟨rfl, oB, pB, hB⟩; have cB := oB.cell 0; have zB := oB.free 0; simp only [List.getElem?_cons_zero] at cB; have HOB := Lib.hid oB; have HPB := Lib.hid pB; have HTB := Lib.hid hB; clear oB pB hB))
  all_goals
    have HOC := Lib.hid (HOB.out.set0 ln)
    have HTC := Lib.hid (((Only3.of_below HA.out).trans HTB.out).trans (Only3.setCell p b q wB 0 (.int .i64 ln)))
    have HPC := Lib.hid (HP.out _ (.int .i64 ln) HPB.out)
    go_wp2_with (go_at_call 66; refine (over_any HOC.out).mono ?_; rintro e w' ⟨rfl, rfl⟩)
    go_ret
    exact ⟨rfl, HOC.out, HPC.out, HTC.out⟩
set_option maxRecDepth 100000 in
set_option maxHeartbeats 4000000 in
theorem popStep_2 (o : OpAt 118 q 2 h to w) (hp : ∀ X v, Post X → Post (X.setCell ⟨q, 0, none⟩ v)) (hl : ∀ X, Below w.heap.size w X → Calls Tryz.prog 149 #[.pointer (some ⟨q, 0, none⟩), .pointer (some ⟨p, 0, none⟩)] X fun e Y => e = .returned (.int .i64 ln) ∧ OpAt 118 q 2 h' to' Y ∧ Post Y ∧ Only3 p b q X Y) :
    Calls Tryz.prog 146 #[.pointer (some ⟨q, 0, none⟩), .pointer (some ⟨p, 0, none⟩)] w fun e w' => e = .returned (.bool (ln == 0)) ∧ OpAt 118 q ln h' to' w' ∧ Post w' ∧ Only3 p b q w w' := by
  have HO := Lib.hid o
  have HL := Lib.hid hl
  have HP := Lib.hid hp
  have c0 := o.cell 0
  simp only [List.getElem?_cons_zero] at c0
  have hi := i_pop2
  clear o hl hp
  go_enter Tryz.func146, Tryz.ntmps146
  go_wp2_with (go_at_call 145; refine (popOver_any HO.out).mono ?_; rintro e w' ⟨rfl, rfl⟩)
  go_region_with (first
    | (go_at_call 147; refine (popLines_any _).mono ?_; rintro e wA ⟨rfl, hA⟩; have HA := Lib.hid (show Below w.heap.size w wA from ((Below.refl _ w).drew).trans hA); have cA := (HO.out.below HA.out).cell 0; simp only [List.getElem?_cons_zero] at cA; clear hA)
    | (go_at_call 149; refine (HL.out wA HA.out).mono ?_; rintro e wB ⟨rfl, oB, pB, hB⟩; have cB := oB.cell 0; have zB := oB.free 0; simp only [List.getElem?_cons_zero] at cB; have HOB := Lib.hid oB; have HPB := Lib.hid pB; have HTB := Lib.hid hB; clear oB pB hB))
  all_goals
    have HOC := Lib.hid (HOB.out.set0 ln)
    have HTC := Lib.hid (((Only3.of_below HA.out).trans HTB.out).trans (Only3.setCell p b q wB 0 (.int .i64 ln)))
    have HPC := Lib.hid (HP.out _ (.int .i64 ln) HPB.out)
    go_wp2_with (go_at_call 66; refine (over_any HOC.out).mono ?_; rintro e w' ⟨rfl, rfl⟩)
    go_ret
    exact ⟨rfl, HOC.out, HPC.out, HTC.out⟩
set_option maxRecDepth 100000 in
set_option maxHeartbeats 4000000 in
theorem popStep_3 (o : OpAt 118 q 3 h to w) (hp : ∀ X v, Post X → Post (X.setCell ⟨q, 0, none⟩ v)) (hl : ∀ X, Below w.heap.size w X → Calls Tryz.prog 84 #[.pointer (some ⟨q, 0, none⟩), .pointer (some ⟨p, 0, none⟩)] X fun e Y => e = .returned (.int .i64 ln) ∧ OpAt 118 q 3 h' to' Y ∧ Post Y ∧ Only3 p b q X Y) :
    Calls Tryz.prog 146 #[.pointer (some ⟨q, 0, none⟩), .pointer (some ⟨p, 0, none⟩)] w fun e w' => e = .returned (.bool (ln == 0)) ∧ OpAt 118 q ln h' to' w' ∧ Post w' ∧ Only3 p b q w w' := by
  have HO := Lib.hid o
  have HL := Lib.hid hl
  have HP := Lib.hid hp
  have c0 := o.cell 0
  simp only [List.getElem?_cons_zero] at c0
  have hm := m_popSwap q
  have hi := i_pop3
  clear o hl hp
  go_enter Tryz.func146, Tryz.ntmps146
  go_wp2_with (go_at_call 145; refine (popOver_any HO.out).mono ?_; rintro e w' ⟨rfl, rfl⟩)
  go_region_with (first
    | (go_at_call 147; refine (popLines_any _).mono ?_; rintro e wA ⟨rfl, hA⟩; have HA := Lib.hid (show Below w.heap.size w wA from ((Below.refl _ w).drew).trans hA); have cA := (HO.out.below HA.out).cell 0; simp only [List.getElem?_cons_zero] at cA; clear hA)
    | (go_at_call 84; refine (HL.out wA HA.out).mono ?_; rintro e wB ⟨rfl, oB, pB, hB⟩; have cB := oB.cell 0; have zB := oB.free 0; simp only [List.getElem?_cons_zero] at cB; have HOB := Lib.hid oB; have HPB := Lib.hid pB; have HTB := Lib.hid hB; clear oB pB hB))
  all_goals
    have HOC := Lib.hid (HOB.out.set0 ln)
    have HTC := Lib.hid (((Only3.of_below HA.out).trans HTB.out).trans (Only3.setCell p b q wB 0 (.int .i64 ln)))
    have HPC := Lib.hid (HP.out _ (.int .i64 ln) HPB.out)
    go_wp2_with (go_at_call 66; refine (over_any HOC.out).mono ?_; rintro e w' ⟨rfl, rfl⟩)
    go_ret
    exact ⟨rfl, HOC.out, HPC.out, HTC.out⟩
end
end Go.Proofs.YtlcbinckbkdgdaaGreatDoor
namespace Go.Proofs.YtlcbinckbkdgdaaGreatDoor
open Go.RowKit Go.Maps

/-- A memory of which the list's words are known: its struct in block p, its map in block b, st steps. -/
structure FM (p b st : Nat) (M : MS) (w : World) : Prop where
  mem : ∃ n D ak k a f was is done, n ≤ st ∧ IsMap D ∧ PM p b n D (st : Int) ak k a f was is done w ∧ valD D adF = M.hd ∧ ∀ s (hs : I64w s), 0 ≤ s → s < 256 → valD D (adL s hs) = M.lk s
  lay : Lay w
  laym : LayM w
  p1 : 1 < p
  b1 : 1 < b

theorem adF_ne (s : Int) (hs : I64w s) : adF ≠ adL s hs := by
  intro h
  have := congrArg Ad.k h
  simp [adF, adL] at this
theorem adL_ne {s s' : Int} (hs : I64w s) (hs' : I64w s') (h : s ≠ s') : adL s hs ≠ adL s' hs' := by
  intro e
  exact h (by simpa [adL] using congrArg Ad.a e)
theorem mayF : mayB adF.k adF.a adF.f = true := by decide
theorem mayL (s : Int) (hs : I64w s) (h0 : 0 ≤ s) (h1 : s < 256) : mayB (adL s hs).k (adL s hs).a (adL s hs).f = true := by
  simp [mayB, adL, atRoom, fieldRoom, h0, h1]
theorem Only3.lay {p b q : Nat} {X Y : World} (h : Only3 p b q X Y) (hp : 1 < p) (hb : 1 < b) (hq : 1 < q) (hl : Lay X) : Lay Y := hl.same3 h.size (h.block 1 hl.1 (by omega) (by omega) (by omega))
theorem Only3.laym {p b q : Nat} {X Y : World} (h : Only3 p b q X Y) (hp : 1 < p) (hb : 1 < b) (hq : 1 < q) (hl : LayM X) : LayM Y := hl.same h.size (h.block 0 hl.1 (by omega) (by omega) (by omega))

section
variable {p b q st : Nat} {o : OS} {M : MS} {w w' : World}
theorem FM.below (F : FM p b st M w) (hb : Below w.heap.size w w') : FM p b st M w' := by
  obtain ⟨⟨n, D, ak, k, a, f, was, is, done, h1, h2, h3, h4⟩, hl, hm, hp, hq⟩ := F
  exact ⟨⟨n, D, ak, k, a, f, was, is, done, h1, h2, h3.below hb, h4⟩, hl.below hb, hm.below hb, hp, hq⟩
theorem FM.hd_u64 (F : FM p b st M w) : U64 M.hd := by
  obtain ⟨⟨n, D, ak, k, a, f, was, is, done, h1, h2, h3, h4, h5⟩, _⟩ := F
  rw [← h4]
  exact h3.val_u64 _
theorem FM.steps (F : FM p b st M w) : Calls Tryz.prog 18 #[.pointer (some ⟨p, 0, none⟩)] w fun e w' => e = .returned (.int .i64 st) ∧ w = w' := by
  obtain ⟨⟨n, D, ak, k, a, f, was, is, done, h1, h2, h3, h4, h5⟩, _⟩ := F
  exact steps_prog p b n D st ak k a f was is done w h3
theorem FM.lt (F : FM p b st M w) : p < w.heap.size ∧ b < w.heap.size := by
  obtain ⟨⟨n, D, ak, k, a, f, was, is, done, h1, h2, h3, h4, h5⟩, _⟩ := F
  exact ⟨h3.lt, h3.own.lt⟩
theorem FM.ne (F : FM p b st M w) {t : TypeId} {nx h to : Int} (ht : t ≠ 110) (o : OpAt t q nx h to w) : q ≠ p ∧ q ≠ b := by
  obtain ⟨⟨n, D, ak, k, a, f, was, is, done, h1, h2, h3, h4, h5⟩, _⟩ := F
  exact ⟨o.ne_p h3 ht, o.ne_b h3⟩

/-- What a step leaves: the operation, the memory. -/
def Stepped (t : TypeId) (p b q st : Nat) (R : OS × MS) (w w' : World) : Prop := OpAt t q R.1.nx R.1.h R.1.to w' ∧ FM p b st R.2 w' ∧ Only3 p b q w w'

theorem read_step {t : TypeId} (ht : t ≠ 110) (hq : 1 < q) (F : FM p b st M w) (hs : st < 1000000) (ho : OpAt t q o.nx o.h o.to w) :
    ∀ X, Below w.heap.size w X → Calls Tryz.prog 82 #[.pointer (some ⟨q, 0, none⟩), .pointer (some ⟨p, 0, none⟩)] X fun e Y => e = .returned (.int .i64 2) ∧ OpAt t q o.nx M.hd o.to Y ∧ FM p b (st + 1) M Y ∧ Only3 p b q X Y := by
  intro X hX
  have F' := F.below hX
  have o' := ho.below hX
  obtain ⟨⟨n, D, ak, k, a, f, was, is, done, h1, h2, h3, h4, h5⟩, hl, hm, hp, hb⟩ := F'
  refine (read_any ht (by omega) (by omega) o' h3).mono ?_
  rintro e Y ⟨rfl, oY, mY, hY⟩
  rw [h4] at oY
  exact ⟨rfl, oY, ⟨⟨n, D, _, _, _, _, _, _, _, by omega, h2, by exact_mod_cast mY, h4, h5⟩, hY.lay hp hb hq hl, hY.laym hp hb hq hm, hp, hb⟩, hY⟩
theorem start_step (hq : 1 < q) (F : FM p b st M w) (hs : st < 1000000) (ho : OpAt 118 q o.nx o.h o.to w) :
    ∀ X, Below w.heap.size w X → Calls Tryz.prog 148 #[.pointer (some ⟨q, 0, none⟩), .pointer (some ⟨p, 0, none⟩)] X fun e Y => e = .returned (.int .i64 (if wSlot M.hd < 0 then 0 else 2)) ∧ OpAt 118 q o.nx M.hd o.to Y ∧ FM p b (st + 1) M Y ∧ Only3 p b q X Y := by
  intro X hX
  have F' := F.below hX
  have o' := ho.below hX
  obtain ⟨⟨n, D, ak, k, a, f, was, is, done, h1, h2, h3, h4, h5⟩, hl, hm, hp, hb⟩ := F'
  refine (start_any (by omega) (by omega) hl (by omega) (by omega) (by omega) o' h3).mono ?_
  rintro e Y ⟨rfl, oY, mY, hY⟩
  rw [h4] at oY
  exact ⟨by rw [h4], oY, ⟨⟨n, D, _, _, _, _, _, _, _, by omega, h2, by exact_mod_cast mY, h4, h5⟩, hY.lay hp hb hq hl, hY.laym hp hb hq hm, hp, hb⟩, hY⟩
theorem look_step (hq : 1 < q) (F : FM p b st M w) (hs : st < 1000000) (hh : U64 o.h) (h0 : 0 ≤ wSlot o.h) (ho : OpAt 118 q o.nx o.h o.to w) :
    ∀ X, Below w.heap.size w X → Calls Tryz.prog 149 #[.pointer (some ⟨q, 0, none⟩), .pointer (some ⟨p, 0, none⟩)] X fun e Y => e = .returned (.int .i64 3) ∧ OpAt 118 q o.nx o.h (wSlot (M.lk (wSlot o.h))) Y ∧ FM p b (st + 1) M Y ∧ Only3 p b q X Y := by
  intro X hX
  have F' := F.below hX
  have o' := ho.below hX
  obtain ⟨⟨n, D, ak, k, a, f, was, is, done, h1, h2, h3, h4, h5⟩, hl, hm, hp, hb⟩ := F'
  refine (look_any (by omega) (by omega) hl (by omega) (by omega) (by omega) hh o' h3).mono ?_
  rintro e Y ⟨rfl, oY, mY, hY⟩
  have := slot_in o.h
  rw [h5 _ _ h0 (by omega)] at oY
  exact ⟨rfl, oY, ⟨⟨n, D, _, _, _, _, _, _, _, by omega, h2, by exact_mod_cast mY, h4, h5⟩, hY.lay hp hb hq hl, hY.laym hp hb hq hm, hp, hb⟩, hY⟩
theorem hang_step (hq : 1 < q) (F : FM p b st M w) (hs : st < 1000000) (hh : U64 o.h) (h0 : 0 ≤ o.to) (h1 : o.to < 256) (ho : OpAt 133 q o.nx o.h o.to w) :
    ∀ X, Below w.heap.size w X → Calls Tryz.prog 83 #[.pointer (some ⟨q, 0, none⟩), .pointer (some ⟨p, 0, none⟩)] X fun e Y => e = .returned (.int .i64 3) ∧ OpAt 133 q o.nx o.h o.to Y ∧ FM p b (st + 1) (M.link o.to (headW (wSlot o.h) 0)) Y ∧ Only3 p b q X Y := by
  intro X hX
  have F' := F.below hX
  have o' := ho.below hX
  obtain ⟨⟨n, D, ak, k, a, f, was, is, done, h1', h2, h3, h4, h5⟩, hl, hm, hp, hb⟩ := F'
  have hto : I64w o.to := i64w_in (by omega) (by omega)
  refine (hang_any (by omega) (by omega) (by omega) hl hm (by omega) (by omega) hh hto o' h3).mono ?_
  rintro e Y ⟨rfl, oY, mY, hY⟩
  have e1 : storeD D (adL o.to hto) (headW (wSlot o.h) 0) = putD D (adL o.to hto) (headW (wSlot o.h) 0) := if_pos (mayL _ _ h0 h1)
  rw [e1] at mY
  refine ⟨rfl, oY, ⟨⟨n + 1, _, _, _, _, _, _, _, _, by omega, isMap_putD h2 _ _, by exact_mod_cast mY, ?_, ?_⟩, hY.lay hp hb hq hl, hY.laym hp hb hq hm, hp, hb⟩, hY⟩
  · exact (valD_put_other D (adF_ne _ _) _).trans h4
  · intro s hsw hs0 hs1
    by_cases hse : s = o.to
    · subst hse
      simp only [MS.link, if_true]
      exact valD_put_same D h2 _ _
    · simp only [MS.link, if_neg hse]
      exact (valD_put_other D (adL_ne _ _ hse) _).trans (h5 s hsw hs0 hs1)
theorem swap_step {t : TypeId} (ht : t ≠ 110) (hq : 1 < q) (F : FM p b st M w) (hs : st < 1000000) (hh : U64 o.h) (ho : OpAt t q o.nx o.h o.to w) :
    ∀ X, Below w.heap.size w X → Calls Tryz.prog 84 #[.pointer (some ⟨q, 0, none⟩), .pointer (some ⟨p, 0, none⟩)] X fun e Y => e = .returned (.int .i64 (swapF o M).1.nx) ∧ OpAt t q o.nx o.h o.to Y ∧ FM p b (st + 1) (swapF o M).2 Y ∧ Only3 p b q X Y := by
  intro X hX
  have F' := F.below hX
  have o' := ho.below hX
  obtain ⟨⟨n, D, ak, k, a, f, was, is, done, h1', h2, h3, h4, h5⟩, hl, hm, hp, hb⟩ := F'
  refine (swap_any ht (by omega) (by omega) (by omega) hl hm hh o' h3).mono ?_
  rintro e Y ⟨rfl, oY, mY, hY⟩
  have ec : casB D adF o.h = decide (M.hd = o.h) := by
    unfold casB
    rw [mayF, h4]
    rfl
  by_cases hc : M.hd = o.h
  · have hc' : casB D adF o.h = true := by rw [ec]; simpa using hc
    have ed : casD D adF o.h (nextW o.h o.to) = putD D adF (nextW o.h o.to) := if_pos hc'
    rw [ed] at mY
    unfold swapF
    rw [if_pos hc, hc']
    refine ⟨rfl, oY, ⟨⟨n + 1, _, _, _, _, _, _, _, _, by omega, isMap_putD h2 _ _, by exact_mod_cast mY, valD_put_same D h2 _ _, ?_⟩, hY.lay hp hb hq hl, hY.laym hp hb hq hm, hp, hb⟩, hY⟩
    intro s hsw hs0 hs1
    exact (valD_put_other D (Ne.symm (adF_ne s hsw)) _).trans (h5 s hsw hs0 hs1)
  · have hc' : casB D adF o.h = false := by rw [ec]; simpa using hc
    have ed : casD D adF o.h (nextW o.h o.to) = D := if_neg (by rw [hc']; simp)
    rw [ed] at mY
    unfold swapF
    rw [if_neg hc, hc']
    exact ⟨rfl, oY, ⟨⟨n + 1, _, _, _, _, _, _, _, _, by omega, h2, by exact_mod_cast mY, h4, h5⟩, hY.lay hp hb hq hl, hY.laym hp hb hq hm, hp, hb⟩, hY⟩
theorem FM.setQ (F : FM p b st M w) (hp : q ≠ p) (hb : q ≠ b) (hq : 1 < q) (i : Nat) (v : Value) : FM p b st M (w.setCell ⟨q, i, none⟩ v) := by
  obtain ⟨⟨n, D, ak, k, a, f, was, is, done, h1, h2, h3, h4⟩, hl, hm, hp1, hb1⟩ := F
  have ho := Only3.setCell p b q w i v
  exact ⟨⟨n, D, ak, k, a, f, was, is, done, h1, h2, h3.setQ hp hb i v, h4⟩, ho.lay hp1 hb1 hq hl, ho.laym hp1 hb1 hq hm, hp1, hb1⟩

/-- A step of a Pop. -/
theorem pop_step (hq : 1 < q) (F : FM p b st M w) (hs : st < 1000000) (hh : U64 o.h) (hnx : 0 ≤ o.nx ∧ o.nx ≤ 3) (h2 : o.nx = 2 → 0 ≤ wSlot o.h) (ho : OpAt 118 q o.nx o.h o.to w) :
    Calls Tryz.prog 146 #[.pointer (some ⟨q, 0, none⟩), .pointer (some ⟨p, 0, none⟩)] w fun e w' => e = .returned (.bool ((popF o M).1.nx == 0)) ∧ Stepped 118 p b q (st + cost o) (popF o M) w w' := by
  obtain ⟨hqp, hqb⟩ := F.ne (by decide) ho
  have hset : ∀ M' X v, FM p b (st + 1) M' X → FM p b (st + 1) M' (X.setCell ⟨q, 0, none⟩ v) := fun M' X v h => h.setQ hqp hqb hq 0 v
  obtain h | h | h | h : o.nx = 0 ∨ o.nx = 1 ∨ o.nx = 2 ∨ o.nx = 3 := by omega
  · have e : popF o M = (o, M) := by unfold popF; rw [if_neg (by omega), if_neg (by omega), if_neg (by omega)]
    have ec : cost o = 0 := by unfold cost; rw [if_pos h]
    rw [e, ec, Nat.add_zero]
    have ho' := ho
    rw [h] at ho'
    refine (popStep_over _ ho').mono ?_
    rintro e w' ⟨rfl, rfl⟩
    exact ⟨by simp [h], ho, F, Only3.refl _ _ _ _⟩
  · have e : popF o M = (⟨if wSlot M.hd < 0 then 0 else 2, M.hd, o.to⟩, M) := by unfold popF; rw [if_pos h]
    have ec : cost o = 1 := by unfold cost; rw [if_neg (by omega)]
    rw [e, ec]
    have hl := start_step hq F hs ho
    rw [h] at ho hl
    refine (popStep_1 ho (fun X v => hset M X v) hl).mono ?_
    rintro e w' ⟨rfl, h1, h2, h3⟩
    exact ⟨rfl, h1, h2, h3⟩
  · have e : popF o M = (⟨3, o.h, wSlot (M.lk (wSlot o.h))⟩, M) := by unfold popF; rw [if_neg (by omega), if_pos h]
    have ec : cost o = 1 := by unfold cost; rw [if_neg (by omega)]
    rw [e, ec]
    have hl := look_step hq F hs hh (h2 h) ho
    rw [h] at ho hl
    refine (popStep_2 ho (fun X v => hset M X v) hl).mono ?_
    rintro e w' ⟨rfl, h1, h2, h3⟩
    exact ⟨rfl, h1, h2, h3⟩
  · have e : popF o M = swapF o M := by unfold popF; rw [if_neg (by omega), if_neg (by omega), if_pos h]
    have ec : cost o = 1 := by unfold cost; rw [if_neg (by omega)]
    rw [e, ec]
    have hl := swap_step (by decide) hq F hs hh ho
    rw [h] at ho hl
    have e1 : (swapF o M).1.h = o.h ∧ (swapF o M).1.to = o.to := by unfold swapF; split <;> exact ⟨rfl, rfl⟩
    refine (popStep_3 ho (fun X v => hset _ X v) hl).mono ?_
    rintro e w' ⟨rfl, h1, h2, h3⟩
    exact ⟨rfl, by rw [e1.1, e1.2]; exact h1, h2, h3⟩
/-- A step of a Push. -/
theorem push_step (hq : 1 < q) (F : FM p b st M w) (hs : st < 1000000) (hh : U64 o.h) (hnx : 0 ≤ o.nx ∧ o.nx ≤ 3) (h2 : o.nx = 2 → 0 ≤ o.to ∧ o.to < 256) (ho : OpAt 133 q o.nx o.h o.to w) :
    Calls Tryz.prog 43 #[.pointer (some ⟨q, 0, none⟩), .pointer (some ⟨p, 0, none⟩)] w fun e w' => e = .returned (.bool ((pushF o M).1.nx == 0)) ∧ Stepped 133 p b q (st + cost o) (pushF o M) w w' := by
  obtain ⟨hqp, hqb⟩ := F.ne (by decide) ho
  have hset : ∀ M' X v, FM p b (st + 1) M' X → FM p b (st + 1) M' (X.setCell ⟨q, 0, none⟩ v) := fun M' X v h => h.setQ hqp hqb hq 0 v
  obtain h | h | h | h : o.nx = 0 ∨ o.nx = 1 ∨ o.nx = 2 ∨ o.nx = 3 := by omega
  · have e : pushF o M = (o, M) := by unfold pushF; rw [if_neg (by omega), if_neg (by omega), if_neg (by omega)]
    have ec : cost o = 0 := by unfold cost; rw [if_pos h]
    rw [e, ec, Nat.add_zero]
    have ho' := ho
    rw [h] at ho'
    refine (pushStep_over _ ho').mono ?_
    rintro e w' ⟨rfl, rfl⟩
    exact ⟨by simp [h], ho, F, Only3.refl _ _ _ _⟩
  · have e : pushF o M = (⟨2, M.hd, o.to⟩, M) := by unfold pushF; rw [if_pos h]
    have ec : cost o = 1 := by unfold cost; rw [if_neg (by omega)]
    rw [e, ec]
    have hl := read_step (by decide) hq F hs ho
    rw [h] at ho hl
    refine (pushStep_1 ho (fun X v => hset M X v) hl).mono ?_
    rintro e w' ⟨rfl, h1, h2, h3⟩
    exact ⟨rfl, h1, h2, h3⟩
  · have e : pushF o M = (⟨3, o.h, o.to⟩, M.link o.to (headW (wSlot o.h) 0)) := by unfold pushF; rw [if_neg (by omega), if_pos h]
    have ec : cost o = 1 := by unfold cost; rw [if_neg (by omega)]
    rw [e, ec]
    have hl := hang_step hq F hs hh (h2 h).1 (h2 h).2 ho
    rw [h] at ho hl
    refine (pushStep_2 ho (fun X v => hset _ X v) hl).mono ?_
    rintro e w' ⟨rfl, h1, h2, h3⟩
    exact ⟨rfl, h1, h2, h3⟩
  · have e : pushF o M = swapF o M := by unfold pushF; rw [if_neg (by omega), if_neg (by omega), if_pos h]
    have ec : cost o = 1 := by unfold cost; rw [if_neg (by omega)]
    rw [e, ec]
    have hl := swap_step (by decide) hq F hs hh ho
    rw [h] at ho hl
    have e1 : (swapF o M).1.h = o.h ∧ (swapF o M).1.to = o.to := by unfold swapF; split <;> exact ⟨rfl, rfl⟩
    refine (pushStep_3 ho (fun X v => hset _ X v) hl).mono ?_
    rintro e w' ⟨rfl, h1, h2, h3⟩
    exact ⟨rfl, by rw [e1.1, e1.2]; exact h1, h2, h3⟩
end
end Go.Proofs.YtlcbinckbkdgdaaGreatDoor
namespace Go.Proofs.YtlcbinckbkdgdaaGreatDoor
open Go.RowKit Go.Maps

theorem Only3.below {p b q B : Nat} {X Y : World} (h : Only3 p b q X Y) (hp : B ≤ p) (hb : B ≤ b) (hq : B ≤ q) (hB : B ≤ X.heap.size) : Below B X Y :=
  ⟨h.os, h.tape, h.output, h.size, fun k hk => h.block k (by omega) (by omega) (by omega) (by omega)⟩
section
variable {p b q st : Nat} {nx h to : Int} {w : World}
theorem got_nil (w : World) : Calls Tryz.prog 76 #[.pointer none] w fun e w' => e = .returned (.tuple #[.int .i64 0, .bool false]) ∧ w = w' := by
  go_enter Tryz.func76, Tryz.ntmps76
  go_wp2_with fail
  go_ret2
  exact ⟨rfl, rfl⟩
theorem got_run (hn : nx ≠ 0) (o : OpAt 118 q nx h to w) : Calls Tryz.prog 76 #[.pointer (some ⟨q, 0, none⟩)] w fun e w' => e = .returned (.tuple #[.int .i64 0, .bool false]) ∧ w = w' := by
  have HO := Lib.hid o
  have hz : (nx == 0) = false := by simpa using hn
  clear o hn
  go_enter Tryz.func76, Tryz.ntmps76
  go_wp2_with (go_at_call 66; refine (over_any HO.out).mono ?_; rintro e w' ⟨rfl, rfl⟩)
  go_ret2
  exact ⟨rfl, rfl⟩
theorem got_none (hL : Lay w) (hh : U64 h) (hs : wSlot h < 0) (o : OpAt 118 q 0 h to w) : Calls Tryz.prog 76 #[.pointer (some ⟨q, 0, none⟩)] w fun e w' => e = .returned (.tuple #[.int .i64 0, .bool false]) ∧ ∃ n, w' = w.drewN n := by
  have HO := Lib.hid o
  have HL := Lib.hid hL
  clear o hL
  go_enter Tryz.func76, Tryz.ntmps76
  go_wp2_with (first
    | (go_at_call 66; refine (over_any HO.out).mono ?_; rintro e w' ⟨rfl, rfl⟩)
    | (go_at_call 92; refine (first_any HL.out hh HO.out).mono ?_; rintro e w' ⟨rfl, n, rfl⟩))
  go_ret2
  exact ⟨rfl, n, rfl⟩
theorem got_slot (hL : Lay w) (hh : U64 h) (hs : 0 ≤ wSlot h) (o : OpAt 118 q 0 h to w) : Calls Tryz.prog 76 #[.pointer (some ⟨q, 0, none⟩)] w fun e w' => e = .returned (.tuple #[.int .i64 (wSlot h), .bool true]) ∧ ∃ n, w' = w.drewN n := by
  have HO := Lib.hid o
  have HL := Lib.hid hL
  clear o hL
  go_enter Tryz.func76, Tryz.ntmps76
  go_wp2_with fail
  refine (over_any HO.out).mono ?_
  rintro e w' ⟨rfl, rfl⟩
  go_wp2_with fail
  refine (first_any HL.out hh HO.out).mono ?_
  rintro e w' ⟨rfl, n, rfl⟩
  have HB := Lib.hid (show Below w.heap.size w (w.drewN n) from below_drewN' (Below.refl _ _) n)
  go_wp2_with fail
  refine (first_any (HL.out.below HB.out) hh (HO.out.below HB.out)).mono ?_
  rintro e w' ⟨rfl, j, rfl⟩
  go_wp2_with fail
  go_ret2
  exact ⟨rfl, _, rfl⟩
/-- A new memory. -/
def M0 : MS := ⟨0, fun _ => 0⟩
theorem new_fm (hL : Lay w) (hM : LayM w) : Calls Tryz.prog 23 #[] w fun e w' => ∃ p b, e = .returned (.pointer (some ⟨p, 0, none⟩)) ∧ FM p b 0 M0 w' ∧ Below w.heap.size w w' ∧ w.heap.size ≤ b ∧ b < p := by
  refine (new_some w).mono ?_
  rintro e w' ⟨p, b, rfl, hp, hb, h1, h2⟩
  have := hM.1
  have := hL.1
  exact ⟨p, b, rfl, ⟨⟨0, _, _, _, _, _, _, _, _, Nat.le_refl _, isMap_empty, hp, rfl, fun _ _ _ _ => rfl⟩, hL.below hb, hM.below hb, by omega, by omega⟩, hb, h1, h2⟩
end
end Go.Proofs.YtlcbinckbkdgdaaGreatDoor
