/-
  Package tables: a step of a Join and of a Leave does what the chapter's does; whether they are over, what was got, how they begin; condition: the operation and the memory lie as they say, numbers of their kinds.
-/
import Derived.Test.YtodfjnpnfalioaaGreatDoorTB4
import Derived.Test.YtodfjnpnfalioaaGreatDoorU1
import Derived.Deep.RegionWith
namespace Go.Proofs.YtodfjnpnfalioaaGreatDoor
open Go.RowKit Go.Maps

theorem results_cell {P : Program} {fn : Func} {p : Tmp} {ty : TypeId} (h : fn.results = #[.cell p ty]) (tmps : Array Value) (w : World) (g : Nat) (t : TypeId) (cs : Array Value) (fr : Nat × Nat) (d : TypeDesc)
    (hp : tmps.getD p undef = .pointer (some ⟨g, 0, none⟩)) (hg : w.heap[g]? = some (.cells cs t fr))
    (hu : P.underlying ty = some d) (hd : (match d with | .struct _ | .array _ _ => true | _ => false) = true) (hi : (P.info? ty).map (·.size) = some cs.size) :
    (results fn tmps).run P w = .ok (.agg cs) w := by
  have hp' : tmps[p]?.getD undef = .pointer (some ⟨g, 0, none⟩) := by simpa using hp
  simp [results, h, hp', asAddr, run_loadVar_row w g t ty cs fr d hg hu hd hi]
theorem mJ_1 (q : Nat) (w : World) : (method (281) 39 (.pointer (some ⟨q, 0, none⟩)) "ragpicker/tables.read").run Tryz.prog w = .ok (60, .pointer (some ⟨q, 0, none⟩)) w := by kernel_rfl
theorem mJ_2 (q : Nat) (w : World) : (method (281) 39 (.pointer (some ⟨q, 0, none⟩)) "ragpicker/tables.less").run Tryz.prog w = .ok (61, .pointer (some ⟨q, 0, none⟩)) w := by kernel_rfl
theorem iJ_1 (w : World) : (Instr.index 104 (.agg #[.nilFunc, .func (.methodOf 39 "ragpicker/tables.read") #[] #[], .func (.methodOf 39 "ragpicker/tables.less") #[] #[], .func (.func 62) #[] #[], .func (.func 63) #[] #[], .func (.func 64) #[] #[], .func (.func 65) #[] #[], .func (.func 66) #[] #[]]) (.int .i64 1)).run Tryz.prog w = .ok (.func (.methodOf 39 "ragpicker/tables.read") #[] #[]) w := by kernel_rfl
theorem iJ_2 (w : World) : (Instr.index 104 (.agg #[.nilFunc, .func (.methodOf 39 "ragpicker/tables.read") #[] #[], .func (.methodOf 39 "ragpicker/tables.less") #[] #[], .func (.func 62) #[] #[], .func (.func 63) #[] #[], .func (.func 64) #[] #[], .func (.func 65) #[] #[], .func (.func 66) #[] #[]]) (.int .i64 2)).run Tryz.prog w = .ok (.func (.methodOf 39 "ragpicker/tables.less") #[] #[]) w := by kernel_rfl
theorem iJ_3 (w : World) : (Instr.index 104 (.agg #[.nilFunc, .func (.methodOf 39 "ragpicker/tables.read") #[] #[], .func (.methodOf 39 "ragpicker/tables.less") #[] #[], .func (.func 62) #[] #[], .func (.func 63) #[] #[], .func (.func 64) #[] #[], .func (.func 65) #[] #[], .func (.func 66) #[] #[]]) (.int .i64 3)).run Tryz.prog w = .ok (.func (.func 62) #[] #[]) w := by kernel_rfl
theorem iJ_4 (w : World) : (Instr.index 104 (.agg #[.nilFunc, .func (.methodOf 39 "ragpicker/tables.read") #[] #[], .func (.methodOf 39 "ragpicker/tables.less") #[] #[], .func (.func 62) #[] #[], .func (.func 63) #[] #[], .func (.func 64) #[] #[], .func (.func 65) #[] #[], .func (.func 66) #[] #[]]) (.int .i64 4)).run Tryz.prog w = .ok (.func (.func 63) #[] #[]) w := by kernel_rfl
theorem iJ_5 (w : World) : (Instr.index 104 (.agg #[.nilFunc, .func (.methodOf 39 "ragpicker/tables.read") #[] #[], .func (.methodOf 39 "ragpicker/tables.less") #[] #[], .func (.func 62) #[] #[], .func (.func 63) #[] #[], .func (.func 64) #[] #[], .func (.func 65) #[] #[], .func (.func 66) #[] #[]]) (.int .i64 5)).run Tryz.prog w = .ok (.func (.func 64) #[] #[]) w := by kernel_rfl
theorem iJ_6 (w : World) : (Instr.index 104 (.agg #[.nilFunc, .func (.methodOf 39 "ragpicker/tables.read") #[] #[], .func (.methodOf 39 "ragpicker/tables.less") #[] #[], .func (.func 62) #[] #[], .func (.func 63) #[] #[], .func (.func 64) #[] #[], .func (.func 65) #[] #[], .func (.func 66) #[] #[]]) (.int .i64 6)).run Tryz.prog w = .ok (.func (.func 65) #[] #[]) w := by kernel_rfl
theorem iJ_7 (w : World) : (Instr.index 104 (.agg #[.nilFunc, .func (.methodOf 39 "ragpicker/tables.read") #[] #[], .func (.methodOf 39 "ragpicker/tables.less") #[] #[], .func (.func 62) #[] #[], .func (.func 63) #[] #[], .func (.func 64) #[] #[], .func (.func 65) #[] #[], .func (.func 66) #[] #[]]) (.int .i64 7)).run Tryz.prog w = .ok (.func (.func 66) #[] #[]) w := by kernel_rfl
theorem linesJ (w : World) : Calls Tryz.prog 50 #[] w fun e w' => e = .returned (.agg #[.nilFunc, .func (.methodOf 39 "ragpicker/tables.read") #[] #[], .func (.methodOf 39 "ragpicker/tables.less") #[] #[], .func (.func 62) #[] #[], .func (.func 63) #[] #[], .func (.func 64) #[] #[], .func (.func 65) #[] #[], .func (.func 66) #[] #[]]) ∧ Below w.heap.size w w' := by
  go_enter Tryz.func50, Tryz.ntmps50
  have k0 : (w.alloc (.cells #[.nilFunc, .nilFunc, .nilFunc, .nilFunc, .nilFunc, .nilFunc, .nilFunc, .nilFunc] 104)).heap[w.heap.size]? = some (.cells #[.nilFunc, .nilFunc, .nilFunc, .nilFunc, .nilFunc, .nilFunc, .nilFunc, .nilFunc] 104 (0, 0)) := alloc_blk _ _
  go_wp2_with (refine wpList_store_put rfl 104 _ _ rfl w.heap.size rfl #[.nilFunc, .func (.methodOf 39 "ragpicker/tables.read") #[] #[], .func (.methodOf 39 "ragpicker/tables.less") #[] #[], .func (.func 62) #[] #[], .func (.func 63) #[] #[], .func (.func 64) #[] #[], .func (.func 65) #[] #[], .func (.func 66) #[] #[]] rfl 104 _ k0 (by kernel_rfl) rfl (by decide) ?_; intro w1 hp)
  exact bodyPost_ret (results_cell Tryz.results50 _ _ _ _ _ _ _ rfl hp.at_ Tryz.underlying104 rfl (by kernel_rfl)) rfl ⟨rfl, hp.below ((Below.refl _ _).alloc (Nat.le_refl _) _) (Nat.le_refl _)⟩
theorem mL_1 (q : Nat) (w : World) : (method (281) 43 (.pointer (some ⟨q, 0, none⟩)) "ragpicker/tables.read").run Tryz.prog w = .ok (60, .pointer (some ⟨q, 0, none⟩)) w := by kernel_rfl
theorem mL_2 (q : Nat) (w : World) : (method (281) 43 (.pointer (some ⟨q, 0, none⟩)) "ragpicker/tables.less").run Tryz.prog w = .ok (61, .pointer (some ⟨q, 0, none⟩)) w := by kernel_rfl
theorem iL_1 (w : World) : (Instr.index 101 (.agg #[.nilFunc, .func (.methodOf 43 "ragpicker/tables.read") #[] #[], .func (.methodOf 43 "ragpicker/tables.less") #[] #[], .func (.func 56) #[] #[], .func (.func 57) #[] #[], .func (.func 58) #[] #[], .func (.func 59) #[] #[]]) (.int .i64 1)).run Tryz.prog w = .ok (.func (.methodOf 43 "ragpicker/tables.read") #[] #[]) w := by kernel_rfl
theorem iL_2 (w : World) : (Instr.index 101 (.agg #[.nilFunc, .func (.methodOf 43 "ragpicker/tables.read") #[] #[], .func (.methodOf 43 "ragpicker/tables.less") #[] #[], .func (.func 56) #[] #[], .func (.func 57) #[] #[], .func (.func 58) #[] #[], .func (.func 59) #[] #[]]) (.int .i64 2)).run Tryz.prog w = .ok (.func (.methodOf 43 "ragpicker/tables.less") #[] #[]) w := by kernel_rfl
theorem iL_3 (w : World) : (Instr.index 101 (.agg #[.nilFunc, .func (.methodOf 43 "ragpicker/tables.read") #[] #[], .func (.methodOf 43 "ragpicker/tables.less") #[] #[], .func (.func 56) #[] #[], .func (.func 57) #[] #[], .func (.func 58) #[] #[], .func (.func 59) #[] #[]]) (.int .i64 3)).run Tryz.prog w = .ok (.func (.func 56) #[] #[]) w := by kernel_rfl
theorem iL_4 (w : World) : (Instr.index 101 (.agg #[.nilFunc, .func (.methodOf 43 "ragpicker/tables.read") #[] #[], .func (.methodOf 43 "ragpicker/tables.less") #[] #[], .func (.func 56) #[] #[], .func (.func 57) #[] #[], .func (.func 58) #[] #[], .func (.func 59) #[] #[]]) (.int .i64 4)).run Tryz.prog w = .ok (.func (.func 57) #[] #[]) w := by kernel_rfl
theorem iL_5 (w : World) : (Instr.index 101 (.agg #[.nilFunc, .func (.methodOf 43 "ragpicker/tables.read") #[] #[], .func (.methodOf 43 "ragpicker/tables.less") #[] #[], .func (.func 56) #[] #[], .func (.func 57) #[] #[], .func (.func 58) #[] #[], .func (.func 59) #[] #[]]) (.int .i64 5)).run Tryz.prog w = .ok (.func (.func 58) #[] #[]) w := by kernel_rfl
theorem iL_6 (w : World) : (Instr.index 101 (.agg #[.nilFunc, .func (.methodOf 43 "ragpicker/tables.read") #[] #[], .func (.methodOf 43 "ragpicker/tables.less") #[] #[], .func (.func 56) #[] #[], .func (.func 57) #[] #[], .func (.func 58) #[] #[], .func (.func 59) #[] #[]]) (.int .i64 6)).run Tryz.prog w = .ok (.func (.func 59) #[] #[]) w := by kernel_rfl
theorem linesL (w : World) : Calls Tryz.prog 47 #[] w fun e w' => e = .returned (.agg #[.nilFunc, .func (.methodOf 43 "ragpicker/tables.read") #[] #[], .func (.methodOf 43 "ragpicker/tables.less") #[] #[], .func (.func 56) #[] #[], .func (.func 57) #[] #[], .func (.func 58) #[] #[], .func (.func 59) #[] #[]]) ∧ Below w.heap.size w w' := by
  go_enter Tryz.func47, Tryz.ntmps47
  have k0 : (w.alloc (.cells #[.nilFunc, .nilFunc, .nilFunc, .nilFunc, .nilFunc, .nilFunc, .nilFunc] 101)).heap[w.heap.size]? = some (.cells #[.nilFunc, .nilFunc, .nilFunc, .nilFunc, .nilFunc, .nilFunc, .nilFunc] 101 (0, 0)) := alloc_blk _ _
  go_wp2_with (refine wpList_store_put rfl 101 _ _ rfl w.heap.size rfl #[.nilFunc, .func (.methodOf 43 "ragpicker/tables.read") #[] #[], .func (.methodOf 43 "ragpicker/tables.less") #[] #[], .func (.func 56) #[] #[], .func (.func 57) #[] #[], .func (.func 58) #[] #[], .func (.func 59) #[] #[]] rfl 101 _ k0 (by kernel_rfl) rfl (by decide) ?_; intro w1 hp)
  exact bodyPost_ret (results_cell Tryz.results47 _ _ _ _ _ _ _ rfl hp.at_ Tryz.underlying101 rfl (by kernel_rfl)) rfl ⟨rfl, hp.below ((Below.refl _ _).alloc (Nat.le_refl _) _) (Nat.le_refl _)⟩
section
variable {p b q : Nat} {T : TypeId} {nx n bl th wd en bl' th' wd' en' ow bs fd : Int} {jd : Bool} {tl tl' : List Value} {o : TO} {M M' : MV} {w w' X : World}
theorem overJ_nil (w : World) : Calls Tryz.prog 27 #[.pointer none] w fun e w' => e = .returned (.bool true) ∧ w' = w := by
  go_enter Tryz.func27, Tryz.ntmps27
  go_wp2_with fail
  go_ret
  exact ⟨rfl, rfl⟩
theorem overJ (k : Bq q T (PC nx bl th wd en tl) w) : Calls Tryz.prog 27 #[.pointer (some ⟨q, 0, none⟩)] w fun e w' => e = .returned (.bool (nx == 0)) ∧ w' = w := by
  have HK := Lib.hid k
  clear k
  go_enter Tryz.func27, Tryz.ntmps27
  go_wp2_with fail
  ((with_reducible refine (overP HK.out).mono ?_); rintro ee w1 ⟨rfl, rfl⟩)
  go_wp2_with fail
  go_ret
  exact ⟨rfl, rfl⟩
theorem stepJ_nil (m : Value) (w : World) : Calls Tryz.prog 26 #[.pointer none, m] w fun e w' => e = .returned (.bool true) ∧ w' = w := by
  go_enter Tryz.func26, Tryz.ntmps26
  go_wp2_with fail
  ((with_reducible refine (overJ_nil _).mono ?_); rintro ee w1 ⟨rfl, rfl⟩)
  go_wp2_with fail
  go_ret
  exact ⟨rfl, rfl⟩
theorem stepJ_over (m : Value) (k : Bq q T (PC 0 bl th wd en tl) w) : Calls Tryz.prog 26 #[.pointer (some ⟨q, 0, none⟩), m] w fun e w' => e = .returned (.bool true) ∧ w' = w := by
  have HK := Lib.hid k
  clear k
  go_enter Tryz.func26, Tryz.ntmps26
  go_wp2_with fail
  ((with_reducible refine (overJ HK.out).mono ?_); rintro ee w1 ⟨rfl, rfl⟩)
  go_wp2_with fail
  go_ret
  exact ⟨rfl, rfl⟩
set_option maxRecDepth 100000 in
set_option maxHeartbeats 4000000 in
theorem stepJ_1 (hq : 1 < q) (k : Bq q 70 (PC 1 bl th wd en tl) w) (hl : ∀ X, Below w.heap.size w X → Calls Tryz.prog 60 #[.pointer (some ⟨q, 0, none⟩), .pointer (some ⟨p, 0, none⟩)] X fun e Y => e = .returned (.int .i64 n) ∧ At3 p b q 70 1 bl' th' wd' en' tl' M' X Y) :
    Calls Tryz.prog 26 #[.pointer (some ⟨q, 0, none⟩), .pointer (some ⟨p, 0, none⟩)] w fun e w' => e = .returned (.bool (n == 0)) ∧ At3 p b q 70 n bl' th' wd' en' tl' M' w w' := by
  have HK := Lib.hid k
  have HL := Lib.hid hl
  have c0 := k.pc.1
  have hm := mJ_1 q
  have hi := iJ_1
  clear k hl
  go_enter Tryz.func26, Tryz.ntmps26
  go_wp2_with (go_at_call 27; refine (overJ HK.out).mono ?_; rintro ee w ⟨rfl, rfl⟩)
  go_region_with (first
    | (go_at_call 50; refine (linesJ _).mono ?_; rintro ee wA ⟨rfl, hA⟩; have HA := Lib.hid (show Below w.heap.size w wA from ((Below.refl _ w).drew).trans hA); have cA := (HK.out.below HA.out).pc.1; clear hA)
    | (go_at_call 60; refine (HL.out wA HA.out).mono ?_; rintro ee wB ⟨rfl, aB⟩; have cB := aB.k.pc.1; have zB := aB.k.free 0; have HAB := Lib.hid aB; clear aB))
  all_goals
    have HAC := Lib.hid (HAB.out.set (nx' := n) (bl' := bl') (th' := th') (wd' := wd') (en' := en') (tl' := tl') (by decide) hq 0 (.int .i64 n) rfl)
    go_wp2_with (go_at_call 48; refine (overP HAC.out.k).mono ?_; rintro ee w ⟨rfl, rfl⟩)
    go_ret
    exact ⟨rfl, HAC.out.trans (.of_below HA.out)⟩
set_option maxRecDepth 100000 in
set_option maxHeartbeats 4000000 in
theorem stepJ_2 (hq : 1 < q) (k : Bq q 70 (PC 2 bl th wd en tl) w) (hl : ∀ X, Below w.heap.size w X → Calls Tryz.prog 61 #[.pointer (some ⟨q, 0, none⟩), .pointer (some ⟨p, 0, none⟩)] X fun e Y => e = .returned (.int .i64 n) ∧ At3 p b q 70 2 bl' th' wd' en' tl' M' X Y) :
    Calls Tryz.prog 26 #[.pointer (some ⟨q, 0, none⟩), .pointer (some ⟨p, 0, none⟩)] w fun e w' => e = .returned (.bool (n == 0)) ∧ At3 p b q 70 n bl' th' wd' en' tl' M' w w' := by
  have HK := Lib.hid k
  have HL := Lib.hid hl
  have c0 := k.pc.1
  have hm := mJ_2 q
  have hi := iJ_2
  clear k hl
  go_enter Tryz.func26, Tryz.ntmps26
  go_wp2_with (go_at_call 27; refine (overJ HK.out).mono ?_; rintro ee w ⟨rfl, rfl⟩)
  go_region_with (first
    | (go_at_call 50; refine (linesJ _).mono ?_; rintro ee wA ⟨rfl, hA⟩; have HA := Lib.hid (show Below w.heap.size w wA from ((Below.refl _ w).drew).trans hA); have cA := (HK.out.below HA.out).pc.1; clear hA)
    | (go_at_call 61; refine (HL.out wA HA.out).mono ?_; rintro ee wB ⟨rfl, aB⟩; have cB := aB.k.pc.1; have zB := aB.k.free 0; have HAB := Lib.hid aB; clear aB))
  all_goals
    have HAC := Lib.hid (HAB.out.set (nx' := n) (bl' := bl') (th' := th') (wd' := wd') (en' := en') (tl' := tl') (by decide) hq 0 (.int .i64 n) rfl)
    go_wp2_with (go_at_call 48; refine (overP HAC.out.k).mono ?_; rintro ee w ⟨rfl, rfl⟩)
    go_ret
    exact ⟨rfl, HAC.out.trans (.of_below HA.out)⟩
set_option maxRecDepth 100000 in
set_option maxHeartbeats 4000000 in
theorem stepJ_3 (hq : 1 < q) (k : Bq q 70 (PC 3 bl th wd en tl) w) (hl : ∀ X, Below w.heap.size w X → Calls Tryz.prog 62 #[.pointer (some ⟨q, 0, none⟩), .pointer (some ⟨p, 0, none⟩)] X fun e Y => e = .returned (.int .i64 n) ∧ At3 p b q 70 3 bl' th' wd' en' tl' M' X Y) :
    Calls Tryz.prog 26 #[.pointer (some ⟨q, 0, none⟩), .pointer (some ⟨p, 0, none⟩)] w fun e w' => e = .returned (.bool (n == 0)) ∧ At3 p b q 70 n bl' th' wd' en' tl' M' w w' := by
  have HK := Lib.hid k
  have HL := Lib.hid hl
  have c0 := k.pc.1
  have hi := iJ_3
  clear k hl
  go_enter Tryz.func26, Tryz.ntmps26
  go_wp2_with (go_at_call 27; refine (overJ HK.out).mono ?_; rintro ee w ⟨rfl, rfl⟩)
  go_region_with (first
    | (go_at_call 50; refine (linesJ _).mono ?_; rintro ee wA ⟨rfl, hA⟩; have HA := Lib.hid (show Below w.heap.size w wA from ((Below.refl _ w).drew).trans hA); have cA := (HK.out.below HA.out).pc.1; clear hA)
    | (go_at_call 62; refine (HL.out wA HA.out).mono ?_; rintro ee wB ⟨rfl, aB⟩; have cB := aB.k.pc.1; have zB := aB.k.free 0; have HAB := Lib.hid aB; clear aB))
  all_goals
    have HAC := Lib.hid (HAB.out.set (nx' := n) (bl' := bl') (th' := th') (wd' := wd') (en' := en') (tl' := tl') (by decide) hq 0 (.int .i64 n) rfl)
    go_wp2_with (go_at_call 48; refine (overP HAC.out.k).mono ?_; rintro ee w ⟨rfl, rfl⟩)
    go_ret
    exact ⟨rfl, HAC.out.trans (.of_below HA.out)⟩
set_option maxRecDepth 100000 in
set_option maxHeartbeats 4000000 in
theorem stepJ_4 (hq : 1 < q) (k : Bq q 70 (PC 4 bl th wd en tl) w) (hl : ∀ X, Below w.heap.size w X → Calls Tryz.prog 63 #[.pointer (some ⟨q, 0, none⟩), .pointer (some ⟨p, 0, none⟩)] X fun e Y => e = .returned (.int .i64 n) ∧ At3 p b q 70 4 bl' th' wd' en' tl' M' X Y) :
    Calls Tryz.prog 26 #[.pointer (some ⟨q, 0, none⟩), .pointer (some ⟨p, 0, none⟩)] w fun e w' => e = .returned (.bool (n == 0)) ∧ At3 p b q 70 n bl' th' wd' en' tl' M' w w' := by
  have HK := Lib.hid k
  have HL := Lib.hid hl
  have c0 := k.pc.1
  have hi := iJ_4
  clear k hl
  go_enter Tryz.func26, Tryz.ntmps26
  go_wp2_with (go_at_call 27; refine (overJ HK.out).mono ?_; rintro ee w ⟨rfl, rfl⟩)
  go_region_with (first
    | (go_at_call 50; refine (linesJ _).mono ?_; rintro ee wA ⟨rfl, hA⟩; have HA := Lib.hid (show Below w.heap.size w wA from ((Below.refl _ w).drew).trans hA); have cA := (HK.out.below HA.out).pc.1; clear hA)
    | (go_at_call 63; refine (HL.out wA HA.out).mono ?_; rintro ee wB ⟨rfl, aB⟩; have cB := aB.k.pc.1; have zB := aB.k.free 0; have HAB := Lib.hid aB; clear aB))
  all_goals
    have HAC := Lib.hid (HAB.out.set (nx' := n) (bl' := bl') (th' := th') (wd' := wd') (en' := en') (tl' := tl') (by decide) hq 0 (.int .i64 n) rfl)
    go_wp2_with (go_at_call 48; refine (overP HAC.out.k).mono ?_; rintro ee w ⟨rfl, rfl⟩)
    go_ret
    exact ⟨rfl, HAC.out.trans (.of_below HA.out)⟩
set_option maxRecDepth 100000 in
set_option maxHeartbeats 4000000 in
theorem stepJ_5 (hq : 1 < q) (k : Bq q 70 (PC 5 bl th wd en tl) w) (hl : ∀ X, Below w.heap.size w X → Calls Tryz.prog 64 #[.pointer (some ⟨q, 0, none⟩), .pointer (some ⟨p, 0, none⟩)] X fun e Y => e = .returned (.int .i64 n) ∧ At3 p b q 70 5 bl' th' wd' en' tl' M' X Y) :
    Calls Tryz.prog 26 #[.pointer (some ⟨q, 0, none⟩), .pointer (some ⟨p, 0, none⟩)] w fun e w' => e = .returned (.bool (n == 0)) ∧ At3 p b q 70 n bl' th' wd' en' tl' M' w w' := by
  have HK := Lib.hid k
  have HL := Lib.hid hl
  have c0 := k.pc.1
  have hi := iJ_5
  clear k hl
  go_enter Tryz.func26, Tryz.ntmps26
  go_wp2_with (go_at_call 27; refine (overJ HK.out).mono ?_; rintro ee w ⟨rfl, rfl⟩)
  go_region_with (first
    | (go_at_call 50; refine (linesJ _).mono ?_; rintro ee wA ⟨rfl, hA⟩; have HA := Lib.hid (show Below w.heap.size w wA from ((Below.refl _ w).drew).trans hA); have cA := (HK.out.below HA.out).pc.1; clear hA)
    | (go_at_call 64; refine (HL.out wA HA.out).mono ?_; rintro ee wB ⟨rfl, aB⟩; have cB := aB.k.pc.1; have zB := aB.k.free 0; have HAB := Lib.hid aB; clear aB))
  all_goals
    have HAC := Lib.hid (HAB.out.set (nx' := n) (bl' := bl') (th' := th') (wd' := wd') (en' := en') (tl' := tl') (by decide) hq 0 (.int .i64 n) rfl)
    go_wp2_with (go_at_call 48; refine (overP HAC.out.k).mono ?_; rintro ee w ⟨rfl, rfl⟩)
    go_ret
    exact ⟨rfl, HAC.out.trans (.of_below HA.out)⟩
set_option maxRecDepth 100000 in
set_option maxHeartbeats 4000000 in
theorem stepJ_6 (hq : 1 < q) (k : Bq q 70 (PC 6 bl th wd en tl) w) (hl : ∀ X, Below w.heap.size w X → Calls Tryz.prog 65 #[.pointer (some ⟨q, 0, none⟩), .pointer (some ⟨p, 0, none⟩)] X fun e Y => e = .returned (.int .i64 n) ∧ At3 p b q 70 6 bl' th' wd' en' tl' M' X Y) :
    Calls Tryz.prog 26 #[.pointer (some ⟨q, 0, none⟩), .pointer (some ⟨p, 0, none⟩)] w fun e w' => e = .returned (.bool (n == 0)) ∧ At3 p b q 70 n bl' th' wd' en' tl' M' w w' := by
  have HK := Lib.hid k
  have HL := Lib.hid hl
  have c0 := k.pc.1
  have hi := iJ_6
  clear k hl
  go_enter Tryz.func26, Tryz.ntmps26
  go_wp2_with (go_at_call 27; refine (overJ HK.out).mono ?_; rintro ee w ⟨rfl, rfl⟩)
  go_region_with (first
    | (go_at_call 50; refine (linesJ _).mono ?_; rintro ee wA ⟨rfl, hA⟩; have HA := Lib.hid (show Below w.heap.size w wA from ((Below.refl _ w).drew).trans hA); have cA := (HK.out.below HA.out).pc.1; clear hA)
    | (go_at_call 65; refine (HL.out wA HA.out).mono ?_; rintro ee wB ⟨rfl, aB⟩; have cB := aB.k.pc.1; have zB := aB.k.free 0; have HAB := Lib.hid aB; clear aB))
  all_goals
    have HAC := Lib.hid (HAB.out.set (nx' := n) (bl' := bl') (th' := th') (wd' := wd') (en' := en') (tl' := tl') (by decide) hq 0 (.int .i64 n) rfl)
    go_wp2_with (go_at_call 48; refine (overP HAC.out.k).mono ?_; rintro ee w ⟨rfl, rfl⟩)
    go_ret
    exact ⟨rfl, HAC.out.trans (.of_below HA.out)⟩
set_option maxRecDepth 100000 in
set_option maxHeartbeats 4000000 in
theorem stepJ_7 (hq : 1 < q) (k : Bq q 70 (PC 7 bl th wd en tl) w) (hl : ∀ X, Below w.heap.size w X → Calls Tryz.prog 66 #[.pointer (some ⟨q, 0, none⟩), .pointer (some ⟨p, 0, none⟩)] X fun e Y => e = .returned (.int .i64 n) ∧ At3 p b q 70 7 bl' th' wd' en' tl' M' X Y) :
    Calls Tryz.prog 26 #[.pointer (some ⟨q, 0, none⟩), .pointer (some ⟨p, 0, none⟩)] w fun e w' => e = .returned (.bool (n == 0)) ∧ At3 p b q 70 n bl' th' wd' en' tl' M' w w' := by
  have HK := Lib.hid k
  have HL := Lib.hid hl
  have c0 := k.pc.1
  have hi := iJ_7
  clear k hl
  go_enter Tryz.func26, Tryz.ntmps26
  go_wp2_with (go_at_call 27; refine (overJ HK.out).mono ?_; rintro ee w ⟨rfl, rfl⟩)
  go_region_with (first
    | (go_at_call 50; refine (linesJ _).mono ?_; rintro ee wA ⟨rfl, hA⟩; have HA := Lib.hid (show Below w.heap.size w wA from ((Below.refl _ w).drew).trans hA); have cA := (HK.out.below HA.out).pc.1; clear hA)
    | (go_at_call 66; refine (HL.out wA HA.out).mono ?_; rintro ee wB ⟨rfl, aB⟩; have cB := aB.k.pc.1; have zB := aB.k.free 0; have HAB := Lib.hid aB; clear aB))
  all_goals
    have HAC := Lib.hid (HAB.out.set (nx' := n) (bl' := bl') (th' := th') (wd' := wd') (en' := en') (tl' := tl') (by decide) hq 0 (.int .i64 n) rfl)
    go_wp2_with (go_at_call 48; refine (overP HAC.out.k).mono ?_; rintro ee w ⟨rfl, rfl⟩)
    go_ret
    exact ⟨rfl, HAC.out.trans (.of_below HA.out)⟩
theorem overL_nil (w : World) : Calls Tryz.prog 24 #[.pointer none] w fun e w' => e = .returned (.bool true) ∧ w' = w := by
  go_enter Tryz.func24, Tryz.ntmps24
  go_wp2_with fail
  go_ret
  exact ⟨rfl, rfl⟩
theorem overL (k : Bq q T (PC nx bl th wd en tl) w) : Calls Tryz.prog 24 #[.pointer (some ⟨q, 0, none⟩)] w fun e w' => e = .returned (.bool (nx == 0)) ∧ w' = w := by
  have HK := Lib.hid k
  clear k
  go_enter Tryz.func24, Tryz.ntmps24
  go_wp2_with fail
  ((with_reducible refine (overP HK.out).mono ?_); rintro ee w1 ⟨rfl, rfl⟩)
  go_wp2_with fail
  go_ret
  exact ⟨rfl, rfl⟩
theorem stepL_nil (m : Value) (w : World) : Calls Tryz.prog 23 #[.pointer none, m] w fun e w' => e = .returned (.bool true) ∧ w' = w := by
  go_enter Tryz.func23, Tryz.ntmps23
  go_wp2_with fail
  ((with_reducible refine (overL_nil _).mono ?_); rintro ee w1 ⟨rfl, rfl⟩)
  go_wp2_with fail
  go_ret
  exact ⟨rfl, rfl⟩
theorem stepL_over (m : Value) (k : Bq q T (PC 0 bl th wd en tl) w) : Calls Tryz.prog 23 #[.pointer (some ⟨q, 0, none⟩), m] w fun e w' => e = .returned (.bool true) ∧ w' = w := by
  have HK := Lib.hid k
  clear k
  go_enter Tryz.func23, Tryz.ntmps23
  go_wp2_with fail
  ((with_reducible refine (overL HK.out).mono ?_); rintro ee w1 ⟨rfl, rfl⟩)
  go_wp2_with fail
  go_ret
  exact ⟨rfl, rfl⟩
set_option maxRecDepth 100000 in
set_option maxHeartbeats 4000000 in
theorem stepL_1 (hq : 1 < q) (k : Bq q 74 (PC 1 bl th wd en tl) w) (hl : ∀ X, Below w.heap.size w X → Calls Tryz.prog 60 #[.pointer (some ⟨q, 0, none⟩), .pointer (some ⟨p, 0, none⟩)] X fun e Y => e = .returned (.int .i64 n) ∧ At3 p b q 74 1 bl' th' wd' en' tl' M' X Y) :
    Calls Tryz.prog 23 #[.pointer (some ⟨q, 0, none⟩), .pointer (some ⟨p, 0, none⟩)] w fun e w' => e = .returned (.bool (n == 0)) ∧ At3 p b q 74 n bl' th' wd' en' tl' M' w w' := by
  have HK := Lib.hid k
  have HL := Lib.hid hl
  have c0 := k.pc.1
  have hm := mL_1 q
  have hi := iL_1
  clear k hl
  go_enter Tryz.func23, Tryz.ntmps23
  go_wp2_with (go_at_call 24; refine (overL HK.out).mono ?_; rintro ee w ⟨rfl, rfl⟩)
  go_region_with (first
    | (go_at_call 47; refine (linesL _).mono ?_; rintro ee wA ⟨rfl, hA⟩; have HA := Lib.hid (show Below w.heap.size w wA from ((Below.refl _ w).drew).trans hA); have cA := (HK.out.below HA.out).pc.1; clear hA)
    | (go_at_call 60; refine (HL.out wA HA.out).mono ?_; rintro ee wB ⟨rfl, aB⟩; have cB := aB.k.pc.1; have zB := aB.k.free 0; have HAB := Lib.hid aB; clear aB))
  all_goals
    have HAC := Lib.hid (HAB.out.set (nx' := n) (bl' := bl') (th' := th') (wd' := wd') (en' := en') (tl' := tl') (by decide) hq 0 (.int .i64 n) rfl)
    go_wp2_with (go_at_call 48; refine (overP HAC.out.k).mono ?_; rintro ee w ⟨rfl, rfl⟩)
    go_ret
    exact ⟨rfl, HAC.out.trans (.of_below HA.out)⟩
set_option maxRecDepth 100000 in
set_option maxHeartbeats 4000000 in
theorem stepL_2 (hq : 1 < q) (k : Bq q 74 (PC 2 bl th wd en tl) w) (hl : ∀ X, Below w.heap.size w X → Calls Tryz.prog 61 #[.pointer (some ⟨q, 0, none⟩), .pointer (some ⟨p, 0, none⟩)] X fun e Y => e = .returned (.int .i64 n) ∧ At3 p b q 74 2 bl' th' wd' en' tl' M' X Y) :
    Calls Tryz.prog 23 #[.pointer (some ⟨q, 0, none⟩), .pointer (some ⟨p, 0, none⟩)] w fun e w' => e = .returned (.bool (n == 0)) ∧ At3 p b q 74 n bl' th' wd' en' tl' M' w w' := by
  have HK := Lib.hid k
  have HL := Lib.hid hl
  have c0 := k.pc.1
  have hm := mL_2 q
  have hi := iL_2
  clear k hl
  go_enter Tryz.func23, Tryz.ntmps23
  go_wp2_with (go_at_call 24; refine (overL HK.out).mono ?_; rintro ee w ⟨rfl, rfl⟩)
  go_region_with (first
    | (go_at_call 47; refine (linesL _).mono ?_; rintro ee wA ⟨rfl, hA⟩; have HA := Lib.hid (show Below w.heap.size w wA from ((Below.refl _ w).drew).trans hA); have cA := (HK.out.below HA.out).pc.1; clear hA)
    | (go_at_call 61; refine (HL.out wA HA.out).mono ?_; rintro ee wB ⟨rfl, aB⟩; have cB := aB.k.pc.1; have zB := aB.k.free 0; have HAB := Lib.hid aB; clear aB))
  all_goals
    have HAC := Lib.hid (HAB.out.set (nx' := n) (bl' := bl') (th' := th') (wd' := wd') (en' := en') (tl' := tl') (by decide) hq 0 (.int .i64 n) rfl)
    go_wp2_with (go_at_call 48; refine (overP HAC.out.k).mono ?_; rintro ee w ⟨rfl, rfl⟩)
    go_ret
    exact ⟨rfl, HAC.out.trans (.of_below HA.out)⟩
set_option maxRecDepth 100000 in
set_option maxHeartbeats 4000000 in
theorem stepL_3 (hq : 1 < q) (k : Bq q 74 (PC 3 bl th wd en tl) w) (hl : ∀ X, Below w.heap.size w X → Calls Tryz.prog 56 #[.pointer (some ⟨q, 0, none⟩), .pointer (some ⟨p, 0, none⟩)] X fun e Y => e = .returned (.int .i64 n) ∧ At3 p b q 74 3 bl' th' wd' en' tl' M' X Y) :
    Calls Tryz.prog 23 #[.pointer (some ⟨q, 0, none⟩), .pointer (some ⟨p, 0, none⟩)] w fun e w' => e = .returned (.bool (n == 0)) ∧ At3 p b q 74 n bl' th' wd' en' tl' M' w w' := by
  have HK := Lib.hid k
  have HL := Lib.hid hl
  have c0 := k.pc.1
  have hi := iL_3
  clear k hl
  go_enter Tryz.func23, Tryz.ntmps23
  go_wp2_with (go_at_call 24; refine (overL HK.out).mono ?_; rintro ee w ⟨rfl, rfl⟩)
  go_region_with (first
    | (go_at_call 47; refine (linesL _).mono ?_; rintro ee wA ⟨rfl, hA⟩; have HA := Lib.hid (show Below w.heap.size w wA from ((Below.refl _ w).drew).trans hA); have cA := (HK.out.below HA.out).pc.1; clear hA)
    | (go_at_call 56; refine (HL.out wA HA.out).mono ?_; rintro ee wB ⟨rfl, aB⟩; have cB := aB.k.pc.1; have zB := aB.k.free 0; have HAB := Lib.hid aB; clear aB))
  all_goals
    have HAC := Lib.hid (HAB.out.set (nx' := n) (bl' := bl') (th' := th') (wd' := wd') (en' := en') (tl' := tl') (by decide) hq 0 (.int .i64 n) rfl)
    go_wp2_with (go_at_call 48; refine (overP HAC.out.k).mono ?_; rintro ee w ⟨rfl, rfl⟩)
    go_ret
    exact ⟨rfl, HAC.out.trans (.of_below HA.out)⟩
set_option maxRecDepth 100000 in
set_option maxHeartbeats 4000000 in
theorem stepL_4 (hq : 1 < q) (k : Bq q 74 (PC 4 bl th wd en tl) w) (hl : ∀ X, Below w.heap.size w X → Calls Tryz.prog 57 #[.pointer (some ⟨q, 0, none⟩), .pointer (some ⟨p, 0, none⟩)] X fun e Y => e = .returned (.int .i64 n) ∧ At3 p b q 74 4 bl' th' wd' en' tl' M' X Y) :
    Calls Tryz.prog 23 #[.pointer (some ⟨q, 0, none⟩), .pointer (some ⟨p, 0, none⟩)] w fun e w' => e = .returned (.bool (n == 0)) ∧ At3 p b q 74 n bl' th' wd' en' tl' M' w w' := by
  have HK := Lib.hid k
  have HL := Lib.hid hl
  have c0 := k.pc.1
  have hi := iL_4
  clear k hl
  go_enter Tryz.func23, Tryz.ntmps23
  go_wp2_with (go_at_call 24; refine (overL HK.out).mono ?_; rintro ee w ⟨rfl, rfl⟩)
  go_region_with (first
    | (go_at_call 47; refine (linesL _).mono ?_; rintro ee wA ⟨rfl, hA⟩; have HA := Lib.hid (show Below w.heap.size w wA from ((Below.refl _ w).drew).trans hA); have cA := (HK.out.below HA.out).pc.1; clear hA)
    | (go_at_call 57; refine (HL.out wA HA.out).mono ?_; rintro ee wB ⟨rfl, aB⟩; have cB := aB.k.pc.1; have zB := aB.k.free 0; have HAB := Lib.hid aB; clear aB))
  all_goals
    have HAC := Lib.hid (HAB.out.set (nx' := n) (bl' := bl') (th' := th') (wd' := wd') (en' := en') (tl' := tl') (by decide) hq 0 (.int .i64 n) rfl)
    go_wp2_with (go_at_call 48; refine (overP HAC.out.k).mono ?_; rintro ee w ⟨rfl, rfl⟩)
    go_ret
    exact ⟨rfl, HAC.out.trans (.of_below HA.out)⟩
set_option maxRecDepth 100000 in
set_option maxHeartbeats 4000000 in
theorem stepL_5 (hq : 1 < q) (k : Bq q 74 (PC 5 bl th wd en tl) w) (hl : ∀ X, Below w.heap.size w X → Calls Tryz.prog 58 #[.pointer (some ⟨q, 0, none⟩), .pointer (some ⟨p, 0, none⟩)] X fun e Y => e = .returned (.int .i64 n) ∧ At3 p b q 74 5 bl' th' wd' en' tl' M' X Y) :
    Calls Tryz.prog 23 #[.pointer (some ⟨q, 0, none⟩), .pointer (some ⟨p, 0, none⟩)] w fun e w' => e = .returned (.bool (n == 0)) ∧ At3 p b q 74 n bl' th' wd' en' tl' M' w w' := by
  have HK := Lib.hid k
  have HL := Lib.hid hl
  have c0 := k.pc.1
  have hi := iL_5
  clear k hl
  go_enter Tryz.func23, Tryz.ntmps23
  go_wp2_with (go_at_call 24; refine (overL HK.out).mono ?_; rintro ee w ⟨rfl, rfl⟩)
  go_region_with (first
    | (go_at_call 47; refine (linesL _).mono ?_; rintro ee wA ⟨rfl, hA⟩; have HA := Lib.hid (show Below w.heap.size w wA from ((Below.refl _ w).drew).trans hA); have cA := (HK.out.below HA.out).pc.1; clear hA)
    | (go_at_call 58; refine (HL.out wA HA.out).mono ?_; rintro ee wB ⟨rfl, aB⟩; have cB := aB.k.pc.1; have zB := aB.k.free 0; have HAB := Lib.hid aB; clear aB))
  all_goals
    have HAC := Lib.hid (HAB.out.set (nx' := n) (bl' := bl') (th' := th') (wd' := wd') (en' := en') (tl' := tl') (by decide) hq 0 (.int .i64 n) rfl)
    go_wp2_with (go_at_call 48; refine (overP HAC.out.k).mono ?_; rintro ee w ⟨rfl, rfl⟩)
    go_ret
    exact ⟨rfl, HAC.out.trans (.of_below HA.out)⟩
set_option maxRecDepth 100000 in
set_option maxHeartbeats 4000000 in
theorem stepL_6 (hq : 1 < q) (k : Bq q 74 (PC 6 bl th wd en tl) w) (hl : ∀ X, Below w.heap.size w X → Calls Tryz.prog 59 #[.pointer (some ⟨q, 0, none⟩), .pointer (some ⟨p, 0, none⟩)] X fun e Y => e = .returned (.int .i64 n) ∧ At3 p b q 74 6 bl' th' wd' en' tl' M' X Y) :
    Calls Tryz.prog 23 #[.pointer (some ⟨q, 0, none⟩), .pointer (some ⟨p, 0, none⟩)] w fun e w' => e = .returned (.bool (n == 0)) ∧ At3 p b q 74 n bl' th' wd' en' tl' M' w w' := by
  have HK := Lib.hid k
  have HL := Lib.hid hl
  have c0 := k.pc.1
  have hi := iL_6
  clear k hl
  go_enter Tryz.func23, Tryz.ntmps23
  go_wp2_with (go_at_call 24; refine (overL HK.out).mono ?_; rintro ee w ⟨rfl, rfl⟩)
  go_region_with (first
    | (go_at_call 47; refine (linesL _).mono ?_; rintro ee wA ⟨rfl, hA⟩; have HA := Lib.hid (show Below w.heap.size w wA from ((Below.refl _ w).drew).trans hA); have cA := (HK.out.below HA.out).pc.1; clear hA)
    | (go_at_call 59; refine (HL.out wA HA.out).mono ?_; rintro ee wB ⟨rfl, aB⟩; have cB := aB.k.pc.1; have zB := aB.k.free 0; have HAB := Lib.hid aB; clear aB))
  all_goals
    have HAC := Lib.hid (HAB.out.set (nx' := n) (bl' := bl') (th' := th') (wd' := wd') (en' := en') (tl' := tl') (by decide) hq 0 (.int .i64 n) rfl)
    go_wp2_with (go_at_call 48; refine (overP HAC.out.k).mono ?_; rintro ee w ⟨rfl, rfl⟩)
    go_ret
    exact ⟨rfl, HAC.out.trans (.of_below HA.out)⟩
theorem gotJ_nil (w : World) : Calls Tryz.prog 28 #[.pointer none] w fun e w' => e = .returned (.tuple #[.int .i64 (-1), .int .i64 0]) ∧ w' = w := by
  go_enter Tryz.func28, Tryz.ntmps28
  go_wp2_with fail
  go_ret2
  exact ⟨rfl, rfl⟩
theorem gotJ_yes (k : Bq q 70 (PC nx bl th wd en (JT ow bs fd true)) w) : Calls Tryz.prog 28 #[.pointer (some ⟨q, 0, none⟩)] w fun e w' => e = .returned (.tuple #[.int .i64 th, .int .i64 0]) ∧ w' = w := by
  obtain ⟨c0, c1, c2, c3, c4, hz⟩ := k.pc
  obtain ⟨c5, c6, c7, c8⟩ := k.jc
  clear k hz
  go_enter Tryz.func28, Tryz.ntmps28
  go_wp2_with fail
  go_ret2
  exact ⟨rfl, rfl⟩
theorem gotJ_no (k : Bq q 70 (PC nx bl th wd en (JT ow bs fd false)) w) : Calls Tryz.prog 28 #[.pointer (some ⟨q, 0, none⟩)] w fun e w' => e = .returned (.tuple #[.int .i64 (-1), .int .i64 (gotE nx en)]) ∧ w' = w := by
  obtain ⟨c0, c1, c2, c3, c4, hz⟩ := k.pc
  obtain ⟨c5, c6, c7, c8⟩ := k.jc
  have HK := Lib.hid k
  clear k hz
  go_enter Tryz.func28, Tryz.ntmps28
  go_wp2_with fail
  ((with_reducible refine (gotP HK.out).mono ?_); rintro ee w1 ⟨rfl, rfl⟩)
  go_wp2_with fail
  go_ret2
  exact ⟨rfl, rfl⟩
theorem gotL_nil (w : World) : Calls Tryz.prog 25 #[.pointer none] w fun e w' => e = .returned (.int .i64 0) ∧ w' = w := by
  go_enter Tryz.func25, Tryz.ntmps25
  go_wp2_with fail
  go_ret
  exact ⟨rfl, rfl⟩
theorem gotL (k : Bq q 74 (PC nx bl th wd en tl) w) : Calls Tryz.prog 25 #[.pointer (some ⟨q, 0, none⟩)] w fun e w' => e = .returned (.int .i64 (gotE nx en)) ∧ w' = w := by
  have HK := Lib.hid k
  clear k
  go_enter Tryz.func25, Tryz.ntmps25
  go_wp2_with fail
  ((with_reducible refine (gotP HK.out).mono ?_); rintro ee w1 ⟨rfl, rfl⟩)
  go_wp2_with fail
  go_ret
  exact ⟨rfl, rfl⟩
theorem newJoin_bad (n : Int) (h : n < 0) (w : World) : Calls Tryz.prog 6 #[.int .i64 n] w fun e w' => ∃ q, e = .returned (.pointer (some ⟨q, 0, none⟩)) ∧ w.heap.size ≤ q ∧ Bq q 70 (PC 0 0 0 0 1 (JT 0 0 0 false)) w' ∧ Below w.heap.size w w' := by
  go_enter Tryz.func6, Tryz.ntmps6
  go_wp2
  go_ret
  exact ⟨w.heap.size, rfl, Nat.le_refl _, Bq.new w (PC 0 0 0 0 1 (JT 0 0 0 false)) _, (Below.refl _ _).alloc (Nat.le_refl _) _⟩
theorem newJoin_good (n : Int) (h : 0 ≤ n) (w : World) : Calls Tryz.prog 6 #[.int .i64 n] w fun e w' => ∃ q, e = .returned (.pointer (some ⟨q, 0, none⟩)) ∧ w.heap.size ≤ q ∧ Bq q 70 (PC 3 0 0 0 0 (JT n 0 1 false)) w' ∧ Below w.heap.size w w' := by
  go_enter Tryz.func6, Tryz.ntmps6
  go_wp2
  go_ret
  exact ⟨w.heap.size, rfl, Nat.le_refl _, Bq.new w (PC 3 0 0 0 0 (JT n 0 1 false)) _, (Below.refl _ _).alloc (Nat.le_refl _) _⟩
theorem newLeave_low (n : Int) (h : n < 0) (w : World) : Calls Tryz.prog 8 #[.int .i64 n] w fun e w' => ∃ q, e = .returned (.pointer (some ⟨q, 0, none⟩)) ∧ w.heap.size ≤ q ∧ Bq q 74 (PC 0 0 0 0 1 []) w' ∧ Below w.heap.size w w' := by
  go_enter Tryz.func8, Tryz.ntmps8
  go_wp2
  go_ret
  exact ⟨w.heap.size, rfl, Nat.le_refl _, Bq.new w (PC 0 0 0 0 1 []) _, (Below.refl _ _).alloc (Nat.le_refl _) _⟩
theorem newLeave_high (n : Int) (h0 : 0 ≤ n) (h : 16 ≤ n) (w : World) : Calls Tryz.prog 8 #[.int .i64 n] w fun e w' => ∃ q, e = .returned (.pointer (some ⟨q, 0, none⟩)) ∧ w.heap.size ≤ q ∧ Bq q 74 (PC 0 0 0 0 1 []) w' ∧ Below w.heap.size w w' := by
  go_enter Tryz.func8, Tryz.ntmps8
  go_wp2
  go_ret
  exact ⟨w.heap.size, rfl, Nat.le_refl _, Bq.new w (PC 0 0 0 0 1 []) _, (Below.refl _ _).alloc (Nat.le_refl _) _⟩
theorem newLeave_good (n : Int) (h0 : 0 ≤ n) (h : n < 16) (w : World) : Calls Tryz.prog 8 #[.int .i64 n] w fun e w' => ∃ q, e = .returned (.pointer (some ⟨q, 0, none⟩)) ∧ w.heap.size ≤ q ∧ Bq q 74 (PC 3 (n / 4) n 0 0 []) w' ∧ Below w.heap.size w w' := by
  have hw := wrap_small (x := n / 4) (by omega) (by omega)
  go_enter Tryz.func8, Tryz.ntmps8
  go_wp2
  go_ret
  exact ⟨w.heap.size, rfl, Nat.le_refl _, Bq.new w (PC 3 (n / 4) n 0 0 []) _, (Below.refl _ _).alloc (Nat.le_refl _) _⟩
end
end Go.Proofs.YtodfjnpnfalioaaGreatDoor
