/-
  Package tables: a step of a Join and of a Leave does what the chapter's does; whether they are over, what was got, how they begin; condition: the operation and the memory lie as they say, numbers of their kinds.
-/
import Derived.Test.YtodfjnpnfalioaaDoorTB4
import Derived.Test.YtodfjnpnfalioaaDoorU1
import Derived.Deep.RegionWith
namespace Go.Proofs.YtodfjnpnfalioaaDoor
open Go.RowKit Go.Maps

theorem results_cell {P : Program} {fn : Func} {p : Tmp} {ty : TypeId} (h : fn.results = #[.cell p ty]) (tmps : Array Value) (w : World) (g : Nat) (t : TypeId) (cs : Array Value) (fr : Nat × Nat) (d : TypeDesc)
    (hp : tmps.getD p undef = .pointer (some ⟨g, 0, none⟩)) (hg : w.heap[g]? = some (.cells cs t fr))
    (hu : P.underlying ty = some d) (hd : (match d with | .struct _ | .array _ _ => true | _ => false) = true) (hi : (P.info? ty).map (·.size) = some cs.size) :
    (results fn tmps).run P w = .ok (.agg cs) w := by
  have hp' : tmps[p]?.getD undef = .pointer (some ⟨g, 0, none⟩) := by simpa using hp
  simp [results, h, hp', asAddr, run_loadVar_row w g t ty cs fr d hg hu hd hi]
theorem mJ_1 (q : Nat) (w : World) : (method (233) 30 (.pointer (some ⟨q, 0, none⟩)) "ragpicker/tables.read").run Tryd.prog w = .ok (47, .pointer (some ⟨q, 0, none⟩)) w := by kernel_rfl
theorem mJ_2 (q : Nat) (w : World) : (method (233) 30 (.pointer (some ⟨q, 0, none⟩)) "ragpicker/tables.less").run Tryd.prog w = .ok (48, .pointer (some ⟨q, 0, none⟩)) w := by kernel_rfl
theorem iJ_1 (w : World) : (Instr.index 84 (.agg #[.nilFunc, .func (.methodOf 30 "ragpicker/tables.read") #[] #[], .func (.methodOf 30 "ragpicker/tables.less") #[] #[], .func (.func 42) #[] #[], .func (.func 43) #[] #[], .func (.func 44) #[] #[], .func (.func 45) #[] #[], .func (.func 46) #[] #[]]) (.int .i64 1)).run Tryd.prog w = .ok (.func (.methodOf 30 "ragpicker/tables.read") #[] #[]) w := by kernel_rfl
theorem iJ_2 (w : World) : (Instr.index 84 (.agg #[.nilFunc, .func (.methodOf 30 "ragpicker/tables.read") #[] #[], .func (.methodOf 30 "ragpicker/tables.less") #[] #[], .func (.func 42) #[] #[], .func (.func 43) #[] #[], .func (.func 44) #[] #[], .func (.func 45) #[] #[], .func (.func 46) #[] #[]]) (.int .i64 2)).run Tryd.prog w = .ok (.func (.methodOf 30 "ragpicker/tables.less") #[] #[]) w := by kernel_rfl
theorem iJ_3 (w : World) : (Instr.index 84 (.agg #[.nilFunc, .func (.methodOf 30 "ragpicker/tables.read") #[] #[], .func (.methodOf 30 "ragpicker/tables.less") #[] #[], .func (.func 42) #[] #[], .func (.func 43) #[] #[], .func (.func 44) #[] #[], .func (.func 45) #[] #[], .func (.func 46) #[] #[]]) (.int .i64 3)).run Tryd.prog w = .ok (.func (.func 42) #[] #[]) w := by kernel_rfl
theorem iJ_4 (w : World) : (Instr.index 84 (.agg #[.nilFunc, .func (.methodOf 30 "ragpicker/tables.read") #[] #[], .func (.methodOf 30 "ragpicker/tables.less") #[] #[], .func (.func 42) #[] #[], .func (.func 43) #[] #[], .func (.func 44) #[] #[], .func (.func 45) #[] #[], .func (.func 46) #[] #[]]) (.int .i64 4)).run Tryd.prog w = .ok (.func (.func 43) #[] #[]) w := by kernel_rfl
theorem iJ_5 (w : World) : (Instr.index 84 (.agg #[.nilFunc, .func (.methodOf 30 "ragpicker/tables.read") #[] #[], .func (.methodOf 30 "ragpicker/tables.less") #[] #[], .func (.func 42) #[] #[], .func (.func 43) #[] #[], .func (.func 44) #[] #[], .func (.func 45) #[] #[], .func (.func 46) #[] #[]]) (.int .i64 5)).run Tryd.prog w = .ok (.func (.func 44) #[] #[]) w := by kernel_rfl
theorem iJ_6 (w : World) : (Instr.index 84 (.agg #[.nilFunc, .func (.methodOf 30 "ragpicker/tables.read") #[] #[], .func (.methodOf 30 "ragpicker/tables.less") #[] #[], .func (.func 42) #[] #[], .func (.func 43) #[] #[], .func (.func 44) #[] #[], .func (.func 45) #[] #[], .func (.func 46) #[] #[]]) (.int .i64 6)).run Tryd.prog w = .ok (.func (.func 45) #[] #[]) w := by kernel_rfl
theorem iJ_7 (w : World) : (Instr.index 84 (.agg #[.nilFunc, .func (.methodOf 30 "ragpicker/tables.read") #[] #[], .func (.methodOf 30 "ragpicker/tables.less") #[] #[], .func (.func 42) #[] #[], .func (.func 43) #[] #[], .func (.func 44) #[] #[], .func (.func 45) #[] #[], .func (.func 46) #[] #[]]) (.int .i64 7)).run Tryd.prog w = .ok (.func (.func 46) #[] #[]) w := by kernel_rfl
theorem linesJ (w : World) : Calls Tryd.prog 29 #[] w fun e w' => e = .returned (.agg #[.nilFunc, .func (.methodOf 30 "ragpicker/tables.read") #[] #[], .func (.methodOf 30 "ragpicker/tables.less") #[] #[], .func (.func 42) #[] #[], .func (.func 43) #[] #[], .func (.func 44) #[] #[], .func (.func 45) #[] #[], .func (.func 46) #[] #[]]) ∧ Below w.heap.size w w' := by
  go_enter Tryd.func29, Tryd.ntmps29
  have k0 : (w.alloc (.cells #[.nilFunc, .nilFunc, .nilFunc, .nilFunc, .nilFunc, .nilFunc, .nilFunc, .nilFunc] 84)).heap[w.heap.size]? = some (.cells #[.nilFunc, .nilFunc, .nilFunc, .nilFunc, .nilFunc, .nilFunc, .nilFunc, .nilFunc] 84 (0, 0)) := alloc_blk _ _
  go_wp2_with (refine wpList_store_put rfl 84 _ _ rfl w.heap.size rfl #[.nilFunc, .func (.methodOf 30 "ragpicker/tables.read") #[] #[], .func (.methodOf 30 "ragpicker/tables.less") #[] #[], .func (.func 42) #[] #[], .func (.func 43) #[] #[], .func (.func 44) #[] #[], .func (.func 45) #[] #[], .func (.func 46) #[] #[]] rfl 84 _ k0 (by kernel_rfl) rfl (by decide) ?_; intro w1 hp)
  exact bodyPost_ret (results_cell Tryd.results29 _ _ _ _ _ _ _ rfl hp.at_ Tryd.underlying84 rfl (by kernel_rfl)) rfl ⟨rfl, hp.below ((Below.refl _ _).alloc (Nat.le_refl _) _) (Nat.le_refl _)⟩
theorem mL_1 (q : Nat) (w : World) : (method (233) 31 (.pointer (some ⟨q, 0, none⟩)) "ragpicker/tables.read").run Tryd.prog w = .ok (47, .pointer (some ⟨q, 0, none⟩)) w := by kernel_rfl
theorem mL_2 (q : Nat) (w : World) : (method (233) 31 (.pointer (some ⟨q, 0, none⟩)) "ragpicker/tables.less").run Tryd.prog w = .ok (48, .pointer (some ⟨q, 0, none⟩)) w := by kernel_rfl
theorem iL_1 (w : World) : (Instr.index 87 (.agg #[.nilFunc, .func (.methodOf 31 "ragpicker/tables.read") #[] #[], .func (.methodOf 31 "ragpicker/tables.less") #[] #[], .func (.func 49) #[] #[], .func (.func 50) #[] #[], .func (.func 51) #[] #[], .func (.func 52) #[] #[]]) (.int .i64 1)).run Tryd.prog w = .ok (.func (.methodOf 31 "ragpicker/tables.read") #[] #[]) w := by kernel_rfl
theorem iL_2 (w : World) : (Instr.index 87 (.agg #[.nilFunc, .func (.methodOf 31 "ragpicker/tables.read") #[] #[], .func (.methodOf 31 "ragpicker/tables.less") #[] #[], .func (.func 49) #[] #[], .func (.func 50) #[] #[], .func (.func 51) #[] #[], .func (.func 52) #[] #[]]) (.int .i64 2)).run Tryd.prog w = .ok (.func (.methodOf 31 "ragpicker/tables.less") #[] #[]) w := by kernel_rfl
theorem iL_3 (w : World) : (Instr.index 87 (.agg #[.nilFunc, .func (.methodOf 31 "ragpicker/tables.read") #[] #[], .func (.methodOf 31 "ragpicker/tables.less") #[] #[], .func (.func 49) #[] #[], .func (.func 50) #[] #[], .func (.func 51) #[] #[], .func (.func 52) #[] #[]]) (.int .i64 3)).run Tryd.prog w = .ok (.func (.func 49) #[] #[]) w := by kernel_rfl
theorem iL_4 (w : World) : (Instr.index 87 (.agg #[.nilFunc, .func (.methodOf 31 "ragpicker/tables.read") #[] #[], .func (.methodOf 31 "ragpicker/tables.less") #[] #[], .func (.func 49) #[] #[], .func (.func 50) #[] #[], .func (.func 51) #[] #[], .func (.func 52) #[] #[]]) (.int .i64 4)).run Tryd.prog w = .ok (.func (.func 50) #[] #[]) w := by kernel_rfl
theorem iL_5 (w : World) : (Instr.index 87 (.agg #[.nilFunc, .func (.methodOf 31 "ragpicker/tables.read") #[] #[], .func (.methodOf 31 "ragpicker/tables.less") #[] #[], .func (.func 49) #[] #[], .func (.func 50) #[] #[], .func (.func 51) #[] #[], .func (.func 52) #[] #[]]) (.int .i64 5)).run Tryd.prog w = .ok (.func (.func 51) #[] #[]) w := by kernel_rfl
theorem iL_6 (w : World) : (Instr.index 87 (.agg #[.nilFunc, .func (.methodOf 31 "ragpicker/tables.read") #[] #[], .func (.methodOf 31 "ragpicker/tables.less") #[] #[], .func (.func 49) #[] #[], .func (.func 50) #[] #[], .func (.func 51) #[] #[], .func (.func 52) #[] #[]]) (.int .i64 6)).run Tryd.prog w = .ok (.func (.func 52) #[] #[]) w := by kernel_rfl
theorem linesL (w : World) : Calls Tryd.prog 31 #[] w fun e w' => e = .returned (.agg #[.nilFunc, .func (.methodOf 31 "ragpicker/tables.read") #[] #[], .func (.methodOf 31 "ragpicker/tables.less") #[] #[], .func (.func 49) #[] #[], .func (.func 50) #[] #[], .func (.func 51) #[] #[], .func (.func 52) #[] #[]]) ∧ Below w.heap.size w w' := by
  go_enter Tryd.func31, Tryd.ntmps31
  have k0 : (w.alloc (.cells #[.nilFunc, .nilFunc, .nilFunc, .nilFunc, .nilFunc, .nilFunc, .nilFunc] 87)).heap[w.heap.size]? = some (.cells #[.nilFunc, .nilFunc, .nilFunc, .nilFunc, .nilFunc, .nilFunc, .nilFunc] 87 (0, 0)) := alloc_blk _ _
  go_wp2_with (refine wpList_store_put rfl 87 _ _ rfl w.heap.size rfl #[.nilFunc, .func (.methodOf 31 "ragpicker/tables.read") #[] #[], .func (.methodOf 31 "ragpicker/tables.less") #[] #[], .func (.func 49) #[] #[], .func (.func 50) #[] #[], .func (.func 51) #[] #[], .func (.func 52) #[] #[]] rfl 87 _ k0 (by kernel_rfl) rfl (by decide) ?_; intro w1 hp)
  exact bodyPost_ret (results_cell Tryd.results31 _ _ _ _ _ _ _ rfl hp.at_ Tryd.underlying87 rfl (by kernel_rfl)) rfl ⟨rfl, hp.below ((Below.refl _ _).alloc (Nat.le_refl _) _) (Nat.le_refl _)⟩
section
variable {p b q : Nat} {T : TypeId} {nx n bl th wd en bl' th' wd' en' ow bs fd : Int} {jd : Bool} {tl tl' : List Value} {o : TO} {M M' : MV} {w w' X : World}
theorem overJ_nil (w : World) : Calls Tryd.prog 11 #[.pointer none] w fun e w' => e = .returned (.bool true) ∧ w' = w := by
  go_enter Tryd.func11, Tryd.ntmps11
  go_wp2_with fail
  go_ret
  exact ⟨rfl, rfl⟩
theorem overJ (k : Bq q T (PC nx bl th wd en tl) w) : Calls Tryd.prog 11 #[.pointer (some ⟨q, 0, none⟩)] w fun e w' => e = .returned (.bool (nx == 0)) ∧ w' = w := by
  have HK := Lib.hid k
  clear k
  go_enter Tryd.func11, Tryd.ntmps11
  go_wp2_with fail
  ((with_reducible refine (overP HK.out).mono ?_); rintro ee w1 ⟨rfl, rfl⟩)
  go_wp2_with fail
  go_ret
  exact ⟨rfl, rfl⟩
theorem stepJ_nil (m : Value) (w : World) : Calls Tryd.prog 10 #[.pointer none, m] w fun e w' => e = .returned (.bool true) ∧ w' = w := by
  go_enter Tryd.func10, Tryd.ntmps10
  go_wp2_with fail
  ((with_reducible refine (overJ_nil _).mono ?_); rintro ee w1 ⟨rfl, rfl⟩)
  go_wp2_with fail
  go_ret
  exact ⟨rfl, rfl⟩
theorem stepJ_over (m : Value) (k : Bq q T (PC 0 bl th wd en tl) w) : Calls Tryd.prog 10 #[.pointer (some ⟨q, 0, none⟩), m] w fun e w' => e = .returned (.bool true) ∧ w' = w := by
  have HK := Lib.hid k
  clear k
  go_enter Tryd.func10, Tryd.ntmps10
  go_wp2_with fail
  ((with_reducible refine (overJ HK.out).mono ?_); rintro ee w1 ⟨rfl, rfl⟩)
  go_wp2_with fail
  go_ret
  exact ⟨rfl, rfl⟩
set_option maxRecDepth 100000 in
set_option maxHeartbeats 4000000 in
theorem stepJ_1 (hq : 1 < q) (k : Bq q 38 (PC 1 bl th wd en tl) w) (hl : ∀ X, Below w.heap.size w X → Calls Tryd.prog 47 #[.pointer (some ⟨q, 0, none⟩), .pointer (some ⟨p, 0, none⟩)] X fun e Y => e = .returned (.int .i64 n) ∧ At3 p b q 38 1 bl' th' wd' en' tl' M' X Y) :
    Calls Tryd.prog 10 #[.pointer (some ⟨q, 0, none⟩), .pointer (some ⟨p, 0, none⟩)] w fun e w' => e = .returned (.bool (n == 0)) ∧ At3 p b q 38 n bl' th' wd' en' tl' M' w w' := by
  have HK := Lib.hid k
  have HL := Lib.hid hl
  have c0 := k.pc.1
  have hm := mJ_1 q
  have hi := iJ_1
  clear k hl
  go_enter Tryd.func10, Tryd.ntmps10
  go_wp2_with (go_at_call 11; refine (overJ HK.out).mono ?_; rintro ee w ⟨rfl, rfl⟩)
  go_region_with (first
    | (go_at_call 29; refine (linesJ _).mono ?_; rintro ee wA ⟨rfl, hA⟩; have HA := Lib.hid (show Below w.heap.size w wA from ((Below.refl _ w).drew).trans hA); have cA := (HK.out.below HA.out).pc.1; clear hA)
    | (go_at_call 47; refine (HL.out wA HA.out).mono ?_; rintro ee wB ⟨rfl, aB⟩; have cB := aB.k.pc.1; have zB := aB.k.free 0; have HAB := Lib.hid aB; clear aB))
  all_goals
    have HAC := Lib.hid (HAB.out.set (nx' := n) (bl' := bl') (th' := th') (wd' := wd') (en' := en') (tl' := tl') (by decide) hq 0 (.int .i64 n) rfl)
    go_wp2_with (go_at_call 30; refine (overP HAC.out.k).mono ?_; rintro ee w ⟨rfl, rfl⟩)
    go_ret
    exact ⟨rfl, HAC.out.trans (.of_below HA.out)⟩
set_option maxRecDepth 100000 in
set_option maxHeartbeats 4000000 in
theorem stepJ_2 (hq : 1 < q) (k : Bq q 38 (PC 2 bl th wd en tl) w) (hl : ∀ X, Below w.heap.size w X → Calls Tryd.prog 48 #[.pointer (some ⟨q, 0, none⟩), .pointer (some ⟨p, 0, none⟩)] X fun e Y => e = .returned (.int .i64 n) ∧ At3 p b q 38 2 bl' th' wd' en' tl' M' X Y) :
    Calls Tryd.prog 10 #[.pointer (some ⟨q, 0, none⟩), .pointer (some ⟨p, 0, none⟩)] w fun e w' => e = .returned (.bool (n == 0)) ∧ At3 p b q 38 n bl' th' wd' en' tl' M' w w' := by
  have HK := Lib.hid k
  have HL := Lib.hid hl
  have c0 := k.pc.1
  have hm := mJ_2 q
  have hi := iJ_2
  clear k hl
  go_enter Tryd.func10, Tryd.ntmps10
  go_wp2_with (go_at_call 11; refine (overJ HK.out).mono ?_; rintro ee w ⟨rfl, rfl⟩)
  go_region_with (first
    | (go_at_call 29; refine (linesJ _).mono ?_; rintro ee wA ⟨rfl, hA⟩; have HA := Lib.hid (show Below w.heap.size w wA from ((Below.refl _ w).drew).trans hA); have cA := (HK.out.below HA.out).pc.1; clear hA)
    | (go_at_call 48; refine (HL.out wA HA.out).mono ?_; rintro ee wB ⟨rfl, aB⟩; have cB := aB.k.pc.1; have zB := aB.k.free 0; have HAB := Lib.hid aB; clear aB))
  all_goals
    have HAC := Lib.hid (HAB.out.set (nx' := n) (bl' := bl') (th' := th') (wd' := wd') (en' := en') (tl' := tl') (by decide) hq 0 (.int .i64 n) rfl)
    go_wp2_with (go_at_call 30; refine (overP HAC.out.k).mono ?_; rintro ee w ⟨rfl, rfl⟩)
    go_ret
    exact ⟨rfl, HAC.out.trans (.of_below HA.out)⟩
set_option maxRecDepth 100000 in
set_option maxHeartbeats 4000000 in
theorem stepJ_3 (hq : 1 < q) (k : Bq q 38 (PC 3 bl th wd en tl) w) (hl : ∀ X, Below w.heap.size w X → Calls Tryd.prog 42 #[.pointer (some ⟨q, 0, none⟩), .pointer (some ⟨p, 0, none⟩)] X fun e Y => e = .returned (.int .i64 n) ∧ At3 p b q 38 3 bl' th' wd' en' tl' M' X Y) :
    Calls Tryd.prog 10 #[.pointer (some ⟨q, 0, none⟩), .pointer (some ⟨p, 0, none⟩)] w fun e w' => e = .returned (.bool (n == 0)) ∧ At3 p b q 38 n bl' th' wd' en' tl' M' w w' := by
  have HK := Lib.hid k
  have HL := Lib.hid hl
  have c0 := k.pc.1
  have hi := iJ_3
  clear k hl
  go_enter Tryd.func10, Tryd.ntmps10
  go_wp2_with (go_at_call 11; refine (overJ HK.out).mono ?_; rintro ee w ⟨rfl, rfl⟩)
  go_region_with (first
    | (go_at_call 29; refine (linesJ _).mono ?_; rintro ee wA ⟨rfl, hA⟩; have HA := Lib.hid (show Below w.heap.size w wA from ((Below.refl _ w).drew).trans hA); have cA := (HK.out.below HA.out).pc.1; clear hA)
    | (go_at_call 42; refine (HL.out wA HA.out).mono ?_; rintro ee wB ⟨rfl, aB⟩; have cB := aB.k.pc.1; have zB := aB.k.free 0; have HAB := Lib.hid aB; clear aB))
  all_goals
    have HAC := Lib.hid (HAB.out.set (nx' := n) (bl' := bl') (th' := th') (wd' := wd') (en' := en') (tl' := tl') (by decide) hq 0 (.int .i64 n) rfl)
    go_wp2_with (go_at_call 30; refine (overP HAC.out.k).mono ?_; rintro ee w ⟨rfl, rfl⟩)
    go_ret
    exact ⟨rfl, HAC.out.trans (.of_below HA.out)⟩
set_option maxRecDepth 100000 in
set_option maxHeartbeats 4000000 in
theorem stepJ_4 (hq : 1 < q) (k : Bq q 38 (PC 4 bl th wd en tl) w) (hl : ∀ X, Below w.heap.size w X → Calls Tryd.prog 43 #[.pointer (some ⟨q, 0, none⟩), .pointer (some ⟨p, 0, none⟩)] X fun e Y => e = .returned (.int .i64 n) ∧ At3 p b q 38 4 bl' th' wd' en' tl' M' X Y) :
    Calls Tryd.prog 10 #[.pointer (some ⟨q, 0, none⟩), .pointer (some ⟨p, 0, none⟩)] w fun e w' => e = .returned (.bool (n == 0)) ∧ At3 p b q 38 n bl' th' wd' en' tl' M' w w' := by
  have HK := Lib.hid k
  have HL := Lib.hid hl
  have c0 := k.pc.1
  have hi := iJ_4
  clear k hl
  go_enter Tryd.func10, Tryd.ntmps10
  go_wp2_with (go_at_call 11; refine (overJ HK.out).mono ?_; rintro ee w ⟨rfl, rfl⟩)
  go_region_with (first
    | (go_at_call 29; refine (linesJ _).mono ?_; rintro ee wA ⟨rfl, hA⟩; have HA := Lib.hid (show Below w.heap.size w wA from ((Below.refl _ w).drew).trans hA); have cA := (HK.out.below HA.out).pc.1; clear hA)
    | (go_at_call 43; refine (HL.out wA HA.out).mono ?_; rintro ee wB ⟨rfl, aB⟩; have cB := aB.k.pc.1; have zB := aB.k.free 0; have HAB := Lib.hid aB; clear aB))
  all_goals
    have HAC := Lib.hid (HAB.out.set (nx' := n) (bl' := bl') (th' := th') (wd' := wd') (en' := en') (tl' := tl') (by decide) hq 0 (.int .i64 n) rfl)
    go_wp2_with (go_at_call 30; refine (overP HAC.out.k).mono ?_; rintro ee w ⟨rfl, rfl⟩)
    go_ret
    exact ⟨rfl, HAC.out.trans (.of_below HA.out)⟩
set_option maxRecDepth 100000 in
set_option maxHeartbeats 4000000 in
theorem stepJ_5 (hq : 1 < q) (k : Bq q 38 (PC 5 bl th wd en tl) w) (hl : ∀ X, Below w.heap.size w X → Calls Tryd.prog 44 #[.pointer (some ⟨q, 0, none⟩), .pointer (some ⟨p, 0, none⟩)] X fun e Y => e = .returned (.int .i64 n) ∧ At3 p b q 38 5 bl' th' wd' en' tl' M' X Y) :
    Calls Tryd.prog 10 #[.pointer (some ⟨q, 0, none⟩), .pointer (some ⟨p, 0, none⟩)] w fun e w' => e = .returned (.bool (n == 0)) ∧ At3 p b q 38 n bl' th' wd' en' tl' M' w w' := by
  have HK := Lib.hid k
  have HL := Lib.hid hl
  have c0 := k.pc.1
  have hi := iJ_5
  clear k hl
  go_enter Tryd.func10, Tryd.ntmps10
  go_wp2_with (go_at_call 11; refine (overJ HK.out).mono ?_; rintro ee w ⟨rfl, rfl⟩)
  go_region_with (first
    | (go_at_call 29; refine (linesJ _).mono ?_; rintro ee wA ⟨rfl, hA⟩; have HA := Lib.hid (show Below w.heap.size w wA from ((Below.refl _ w).drew).trans hA); have cA := (HK.out.below HA.out).pc.1; clear hA)
    | (go_at_call 44; refine (HL.out wA HA.out).mono ?_; rintro ee wB ⟨rfl, aB⟩; have cB := aB.k.pc.1; have zB := aB.k.free 0; have HAB := Lib.hid aB; clear aB))
  all_goals
    have HAC := Lib.hid (HAB.out.set (nx' := n) (bl' := bl') (th' := th') (wd' := wd') (en' := en') (tl' := tl') (by decide) hq 0 (.int .i64 n) rfl)
    go_wp2_with (go_at_call 30; refine (overP HAC.out.k).mono ?_; rintro ee w ⟨rfl, rfl⟩)
    go_ret
    exact ⟨rfl, HAC.out.trans (.of_below HA.out)⟩
set_option maxRecDepth 100000 in
set_option maxHeartbeats 4000000 in
theorem stepJ_6 (hq : 1 < q) (k : Bq q 38 (PC 6 bl th wd en tl) w) (hl : ∀ X, Below w.heap.size w X → Calls Tryd.prog 45 #[.pointer (some ⟨q, 0, none⟩), .pointer (some ⟨p, 0, none⟩)] X fun e Y => e = .returned (.int .i64 n) ∧ At3 p b q 38 6 bl' th' wd' en' tl' M' X Y) :
    Calls Tryd.prog 10 #[.pointer (some ⟨q, 0, none⟩), .pointer (some ⟨p, 0, none⟩)] w fun e w' => e = .returned (.bool (n == 0)) ∧ At3 p b q 38 n bl' th' wd' en' tl' M' w w' := by
  have HK := Lib.hid k
  have HL := Lib.hid hl
  have c0 := k.pc.1
  have hi := iJ_6
  clear k hl
  go_enter Tryd.func10, Tryd.ntmps10
  go_wp2_with (go_at_call 11; refine (overJ HK.out).mono ?_; rintro ee w ⟨rfl, rfl⟩)
  go_region_with (first
    | (go_at_call 29; refine (linesJ _).mono ?_; rintro ee wA ⟨rfl, hA⟩; have HA := Lib.hid (show Below w.heap.size w wA from ((Below.refl _ w).drew).trans hA); have cA := (HK.out.below HA.out).pc.1; clear hA)
    | (go_at_call 45; refine (HL.out wA HA.out).mono ?_; rintro ee wB ⟨rfl, aB⟩; have cB := aB.k.pc.1; have zB := aB.k.free 0; have HAB := Lib.hid aB; clear aB))
  all_goals
    have HAC := Lib.hid (HAB.out.set (nx' := n) (bl' := bl') (th' := th') (wd' := wd') (en' := en') (tl' := tl') (by decide) hq 0 (.int .i64 n) rfl)
    go_wp2_with (go_at_call 30; refine (overP HAC.out.k).mono ?_; rintro ee w ⟨rfl, rfl⟩)
    go_ret
    exact ⟨rfl, HAC.out.trans (.of_below HA.out)⟩
set_option maxRecDepth 100000 in
set_option maxHeartbeats 4000000 in
theorem stepJ_7 (hq : 1 < q) (k : Bq q 38 (PC 7 bl th wd en tl) w) (hl : ∀ X, Below w.heap.size w X → Calls Tryd.prog 46 #[.pointer (some ⟨q, 0, none⟩), .pointer (some ⟨p, 0, none⟩)] X fun e Y => e = .returned (.int .i64 n) ∧ At3 p b q 38 7 bl' th' wd' en' tl' M' X Y) :
    Calls Tryd.prog 10 #[.pointer (some ⟨q, 0, none⟩), .pointer (some ⟨p, 0, none⟩)] w fun e w' => e = .returned (.bool (n == 0)) ∧ At3 p b q 38 n bl' th' wd' en' tl' M' w w' := by
  have HK := Lib.hid k
  have HL := Lib.hid hl
  have c0 := k.pc.1
  have hi := iJ_7
  clear k hl
  go_enter Tryd.func10, Tryd.ntmps10
  go_wp2_with (go_at_call 11; refine (overJ HK.out).mono ?_; rintro ee w ⟨rfl, rfl⟩)
  go_region_with (first
    | (go_at_call 29; refine (linesJ _).mono ?_; rintro ee wA ⟨rfl, hA⟩; have HA := Lib.hid (show Below w.heap.size w wA from ((Below.refl _ w).drew).trans hA); have cA := (HK.out.below HA.out).pc.1; clear hA)
    | (go_at_call 46; refine (HL.out wA HA.out).mono ?_; rintro ee wB ⟨rfl, aB⟩; have cB := aB.k.pc.1; have zB := aB.k.free 0; have HAB := Lib.hid aB; clear aB))
  all_goals
    have HAC := Lib.hid (HAB.out.set (nx' := n) (bl' := bl') (th' := th') (wd' := wd') (en' := en') (tl' := tl') (by decide) hq 0 (.int .i64 n) rfl)
    go_wp2_with (go_at_call 30; refine (overP HAC.out.k).mono ?_; rintro ee w ⟨rfl, rfl⟩)
    go_ret
    exact ⟨rfl, HAC.out.trans (.of_below HA.out)⟩
theorem overL_nil (w : World) : Calls Tryd.prog 13 #[.pointer none] w fun e w' => e = .returned (.bool true) ∧ w' = w := by
  go_enter Tryd.func13, Tryd.ntmps13
  go_wp2_with fail
  go_ret
  exact ⟨rfl, rfl⟩
theorem overL (k : Bq q T (PC nx bl th wd en tl) w) : Calls Tryd.prog 13 #[.pointer (some ⟨q, 0, none⟩)] w fun e w' => e = .returned (.bool (nx == 0)) ∧ w' = w := by
  have HK := Lib.hid k
  clear k
  go_enter Tryd.func13, Tryd.ntmps13
  go_wp2_with fail
  ((with_reducible refine (overP HK.out).mono ?_); rintro ee w1 ⟨rfl, rfl⟩)
  go_wp2_with fail
  go_ret
  exact ⟨rfl, rfl⟩
theorem stepL_nil (m : Value) (w : World) : Calls Tryd.prog 12 #[.pointer none, m] w fun e w' => e = .returned (.bool true) ∧ w' = w := by
  go_enter Tryd.func12, Tryd.ntmps12
  go_wp2_with fail
  ((with_reducible refine (overL_nil _).mono ?_); rintro ee w1 ⟨rfl, rfl⟩)
  go_wp2_with fail
  go_ret
  exact ⟨rfl, rfl⟩
theorem stepL_over (m : Value) (k : Bq q T (PC 0 bl th wd en tl) w) : Calls Tryd.prog 12 #[.pointer (some ⟨q, 0, none⟩), m] w fun e w' => e = .returned (.bool true) ∧ w' = w := by
  have HK := Lib.hid k
  clear k
  go_enter Tryd.func12, Tryd.ntmps12
  go_wp2_with fail
  ((with_reducible refine (overL HK.out).mono ?_); rintro ee w1 ⟨rfl, rfl⟩)
  go_wp2_with fail
  go_ret
  exact ⟨rfl, rfl⟩
set_option maxRecDepth 100000 in
set_option maxHeartbeats 4000000 in
theorem stepL_1 (hq : 1 < q) (k : Bq q 40 (PC 1 bl th wd en tl) w) (hl : ∀ X, Below w.heap.size w X → Calls Tryd.prog 47 #[.pointer (some ⟨q, 0, none⟩), .pointer (some ⟨p, 0, none⟩)] X fun e Y => e = .returned (.int .i64 n) ∧ At3 p b q 40 1 bl' th' wd' en' tl' M' X Y) :
    Calls Tryd.prog 12 #[.pointer (some ⟨q, 0, none⟩), .pointer (some ⟨p, 0, none⟩)] w fun e w' => e = .returned (.bool (n == 0)) ∧ At3 p b q 40 n bl' th' wd' en' tl' M' w w' := by
  have HK := Lib.hid k
  have HL := Lib.hid hl
  have c0 := k.pc.1
  have hm := mL_1 q
  have hi := iL_1
  clear k hl
  go_enter Tryd.func12, Tryd.ntmps12
  go_wp2_with (go_at_call 13; refine (overL HK.out).mono ?_; rintro ee w ⟨rfl, rfl⟩)
  go_region_with (first
    | (go_at_call 31; refine (linesL _).mono ?_; rintro ee wA ⟨rfl, hA⟩; have HA := Lib.hid (show Below w.heap.size w wA from ((Below.refl _ w).drew).trans hA); have cA := (HK.out.below HA.out).pc.1; clear hA)
    | (go_at_call 47; refine (HL.out wA HA.out).mono ?_; rintro ee wB ⟨rfl, aB⟩; have cB := aB.k.pc.1; have zB := aB.k.free 0; have HAB := Lib.hid aB; clear aB))
  all_goals
    have HAC := Lib.hid (HAB.out.set (nx' := n) (bl' := bl') (th' := th') (wd' := wd') (en' := en') (tl' := tl') (by decide) hq 0 (.int .i64 n) rfl)
    go_wp2_with (go_at_call 30; refine (overP HAC.out.k).mono ?_; rintro ee w ⟨rfl, rfl⟩)
    go_ret
    exact ⟨rfl, HAC.out.trans (.of_below HA.out)⟩
set_option maxRecDepth 100000 in
set_option maxHeartbeats 4000000 in
theorem stepL_2 (hq : 1 < q) (k : Bq q 40 (PC 2 bl th wd en tl) w) (hl : ∀ X, Below w.heap.size w X → Calls Tryd.prog 48 #[.pointer (some ⟨q, 0, none⟩), .pointer (some ⟨p, 0, none⟩)] X fun e Y => e = .returned (.int .i64 n) ∧ At3 p b q 40 2 bl' th' wd' en' tl' M' X Y) :
    Calls Tryd.prog 12 #[.pointer (some ⟨q, 0, none⟩), .pointer (some ⟨p, 0, none⟩)] w fun e w' => e = .returned (.bool (n == 0)) ∧ At3 p b q 40 n bl' th' wd' en' tl' M' w w' := by
  have HK := Lib.hid k
  have HL := Lib.hid hl
  have c0 := k.pc.1
  have hm := mL_2 q
  have hi := iL_2
  clear k hl
  go_enter Tryd.func12, Tryd.ntmps12
  go_wp2_with (go_at_call 13; refine (overL HK.out).mono ?_; rintro ee w ⟨rfl, rfl⟩)
  go_region_with (first
    | (go_at_call 31; refine (linesL _).mono ?_; rintro ee wA ⟨rfl, hA⟩; have HA := Lib.hid (show Below w.heap.size w wA from ((Below.refl _ w).drew).trans hA); have cA := (HK.out.below HA.out).pc.1; clear hA)
    | (go_at_call 48; refine (HL.out wA HA.out).mono ?_; rintro ee wB ⟨rfl, aB⟩; have cB := aB.k.pc.1; have zB := aB.k.free 0; have HAB := Lib.hid aB; clear aB))
  all_goals
    have HAC := Lib.hid (HAB.out.set (nx' := n) (bl' := bl') (th' := th') (wd' := wd') (en' := en') (tl' := tl') (by decide) hq 0 (.int .i64 n) rfl)
    go_wp2_with (go_at_call 30; refine (overP HAC.out.k).mono ?_; rintro ee w ⟨rfl, rfl⟩)
    go_ret
    exact ⟨rfl, HAC.out.trans (.of_below HA.out)⟩
set_option maxRecDepth 100000 in
set_option maxHeartbeats 4000000 in
theorem stepL_3 (hq : 1 < q) (k : Bq q 40 (PC 3 bl th wd en tl) w) (hl : ∀ X, Below w.heap.size w X → Calls Tryd.prog 49 #[.pointer (some ⟨q, 0, none⟩), .pointer (some ⟨p, 0, none⟩)] X fun e Y => e = .returned (.int .i64 n) ∧ At3 p b q 40 3 bl' th' wd' en' tl' M' X Y) :
    Calls Tryd.prog 12 #[.pointer (some ⟨q, 0, none⟩), .pointer (some ⟨p, 0, none⟩)] w fun e w' => e = .returned (.bool (n == 0)) ∧ At3 p b q 40 n bl' th' wd' en' tl' M' w w' := by
  have HK := Lib.hid k
  have HL := Lib.hid hl
  have c0 := k.pc.1
  have hi := iL_3
  clear k hl
  go_enter Tryd.func12, Tryd.ntmps12
  go_wp2_with (go_at_call 13; refine (overL HK.out).mono ?_; rintro ee w ⟨rfl, rfl⟩)
  go_region_with (first
    | (go_at_call 31; refine (linesL _).mono ?_; rintro ee wA ⟨rfl, hA⟩; have HA := Lib.hid (show Below w.heap.size w wA from ((Below.refl _ w).drew).trans hA); have cA := (HK.out.below HA.out).pc.1; clear hA)
    | (go_at_call 49; refine (HL.out wA HA.out).mono ?_; rintro ee wB ⟨rfl, aB⟩; have cB := aB.k.pc.1; have zB := aB.k.free 0; have HAB := Lib.hid aB; clear aB))
  all_goals
    have HAC := Lib.hid (HAB.out.set (nx' := n) (bl' := bl') (th' := th') (wd' := wd') (en' := en') (tl' := tl') (by decide) hq 0 (.int .i64 n) rfl)
    go_wp2_with (go_at_call 30; refine (overP HAC.out.k).mono ?_; rintro ee w ⟨rfl, rfl⟩)
    go_ret
    exact ⟨rfl, HAC.out.trans (.of_below HA.out)⟩
set_option maxRecDepth 100000 in
set_option maxHeartbeats 4000000 in
theorem stepL_4 (hq : 1 < q) (k : Bq q 40 (PC 4 bl th wd en tl) w) (hl : ∀ X, Below w.heap.size w X → Calls Tryd.prog 50 #[.pointer (some ⟨q, 0, none⟩), .pointer (some ⟨p, 0, none⟩)] X fun e Y => e = .returned (.int .i64 n) ∧ At3 p b q 40 4 bl' th' wd' en' tl' M' X Y) :
    Calls Tryd.prog 12 #[.pointer (some ⟨q, 0, none⟩), .pointer (some ⟨p, 0, none⟩)] w fun e w' => e = .returned (.bool (n == 0)) ∧ At3 p b q 40 n bl' th' wd' en' tl' M' w w' := by
  have HK := Lib.hid k
  have HL := Lib.hid hl
  have c0 := k.pc.1
  have hi := iL_4
  clear k hl
  go_enter Tryd.func12, Tryd.ntmps12
  go_wp2_with (go_at_call 13; refine (overL HK.out).mono ?_; rintro ee w ⟨rfl, rfl⟩)
  go_region_with (first
    | (go_at_call 31; refine (linesL _).mono ?_; rintro ee wA ⟨rfl, hA⟩; have HA := Lib.hid (show Below w.heap.size w wA from ((Below.refl _ w).drew).trans hA); have cA := (HK.out.below HA.out).pc.1; clear hA)
    | (go_at_call 50; refine (HL.out wA HA.out).mono ?_; rintro ee wB ⟨rfl, aB⟩; have cB := aB.k.pc.1; have zB := aB.k.free 0; have HAB := Lib.hid aB; clear aB))
  all_goals
    have HAC := Lib.hid (HAB.out.set (nx' := n) (bl' := bl') (th' := th') (wd' := wd') (en' := en') (tl' := tl') (by decide) hq 0 (.int .i64 n) rfl)
    go_wp2_with (go_at_call 30; refine (overP HAC.out.k).mono ?_; rintro ee w ⟨rfl, rfl⟩)
    go_ret
    exact ⟨rfl, HAC.out.trans (.of_below HA.out)⟩
set_option maxRecDepth 100000 in
set_option maxHeartbeats 4000000 in
theorem stepL_5 (hq : 1 < q) (k : Bq q 40 (PC 5 bl th wd en tl) w) (hl : ∀ X, Below w.heap.size w X → Calls Tryd.prog 51 #[.pointer (some ⟨q, 0, none⟩), .pointer (some ⟨p, 0, none⟩)] X fun e Y => e = .returned (.int .i64 n) ∧ At3 p b q 40 5 bl' th' wd' en' tl' M' X Y) :
    Calls Tryd.prog 12 #[.pointer (some ⟨q, 0, none⟩), .pointer (some ⟨p, 0, none⟩)] w fun e w' => e = .returned (.bool (n == 0)) ∧ At3 p b q 40 n bl' th' wd' en' tl' M' w w' := by
  have HK := Lib.hid k
  have HL := Lib.hid hl
  have c0 := k.pc.1
  have hi := iL_5
  clear k hl
  go_enter Tryd.func12, Tryd.ntmps12
  go_wp2_with (go_at_call 13; refine (overL HK.out).mono ?_; rintro ee w ⟨rfl, rfl⟩)
  go_region_with (first
    | (go_at_call 31; refine (linesL _).mono ?_; rintro ee wA ⟨rfl, hA⟩; have HA := Lib.hid (show Below w.heap.size w wA from ((Below.refl _ w).drew).trans hA); have cA := (HK.out.below HA.out).pc.1; clear hA)
    | (go_at_call 51; refine (HL.out wA HA.out).mono ?_; rintro ee wB ⟨rfl, aB⟩; have cB := aB.k.pc.1; have zB := aB.k.free 0; have HAB := Lib.hid aB; clear aB))
  all_goals
    have HAC := Lib.hid (HAB.out.set (nx' := n) (bl' := bl') (th' := th') (wd' := wd') (en' := en') (tl' := tl') (by decide) hq 0 (.int .i64 n) rfl)
    go_wp2_with (go_at_call 30; refine (overP HAC.out.k).mono ?_; rintro ee w ⟨rfl, rfl⟩)
    go_ret
    exact ⟨rfl, HAC.out.trans (.of_below HA.out)⟩
set_option maxRecDepth 100000 in
set_option maxHeartbeats 4000000 in
theorem stepL_6 (hq : 1 < q) (k : Bq q 40 (PC 6 bl th wd en tl) w) (hl : ∀ X, Below w.heap.size w X → Calls Tryd.prog 52 #[.pointer (some ⟨q, 0, none⟩), .pointer (some ⟨p, 0, none⟩)] X fun e Y => e = .returned (.int .i64 n) ∧ At3 p b q 40 6 bl' th' wd' en' tl' M' X Y) :
    Calls Tryd.prog 12 #[.pointer (some ⟨q, 0, none⟩), .pointer (some ⟨p, 0, none⟩)] w fun e w' => e = .returned (.bool (n == 0)) ∧ At3 p b q 40 n bl' th' wd' en' tl' M' w w' := by
  have HK := Lib.hid k
  have HL := Lib.hid hl
  have c0 := k.pc.1
  have hi := iL_6
  clear k hl
  go_enter Tryd.func12, Tryd.ntmps12
  go_wp2_with (go_at_call 13; refine (overL HK.out).mono ?_; rintro ee w ⟨rfl, rfl⟩)
  go_region_with (first
    | (go_at_call 31; refine (linesL _).mono ?_; rintro ee wA ⟨rfl, hA⟩; have HA := Lib.hid (show Below w.heap.size w wA from ((Below.refl _ w).drew).trans hA); have cA := (HK.out.below HA.out).pc.1; clear hA)
    | (go_at_call 52; refine (HL.out wA HA.out).mono ?_; rintro ee wB ⟨rfl, aB⟩; have cB := aB.k.pc.1; have zB := aB.k.free 0; have HAB := Lib.hid aB; clear aB))
  all_goals
    have HAC := Lib.hid (HAB.out.set (nx' := n) (bl' := bl') (th' := th') (wd' := wd') (en' := en') (tl' := tl') (by decide) hq 0 (.int .i64 n) rfl)
    go_wp2_with (go_at_call 30; refine (overP HAC.out.k).mono ?_; rintro ee w ⟨rfl, rfl⟩)
    go_ret
    exact ⟨rfl, HAC.out.trans (.of_below HA.out)⟩
theorem gotJ_nil (w : World) : Calls Tryd.prog 9 #[.pointer none] w fun e w' => e = .returned (.tuple #[.int .i64 (-1), .int .i64 0]) ∧ w' = w := by
  go_enter Tryd.func9, Tryd.ntmps9
  go_wp2_with fail
  go_ret2
  exact ⟨rfl, rfl⟩
theorem gotJ_yes (k : Bq q 38 (PC nx bl th wd en (JT ow bs fd true)) w) : Calls Tryd.prog 9 #[.pointer (some ⟨q, 0, none⟩)] w fun e w' => e = .returned (.tuple #[.int .i64 th, .int .i64 0]) ∧ w' = w := by
  obtain ⟨c0, c1, c2, c3, c4, hz⟩ := k.pc
  obtain ⟨c5, c6, c7, c8⟩ := k.jc
  clear k hz
  go_enter Tryd.func9, Tryd.ntmps9
  go_wp2_with fail
  go_ret2
  exact ⟨rfl, rfl⟩
theorem gotJ_no (k : Bq q 38 (PC nx bl th wd en (JT ow bs fd false)) w) : Calls Tryd.prog 9 #[.pointer (some ⟨q, 0, none⟩)] w fun e w' => e = .returned (.tuple #[.int .i64 (-1), .int .i64 (gotE nx en)]) ∧ w' = w := by
  obtain ⟨c0, c1, c2, c3, c4, hz⟩ := k.pc
  obtain ⟨c5, c6, c7, c8⟩ := k.jc
  have HK := Lib.hid k
  clear k hz
  go_enter Tryd.func9, Tryd.ntmps9
  go_wp2_with fail
  ((with_reducible refine (gotP HK.out).mono ?_); rintro ee w1 ⟨rfl, rfl⟩)
  go_wp2_with fail
  go_ret2
  exact ⟨rfl, rfl⟩
theorem gotL_nil (w : World) : Calls Tryd.prog 14 #[.pointer none] w fun e w' => e = .returned (.int .i64 0) ∧ w' = w := by
  go_enter Tryd.func14, Tryd.ntmps14
  go_wp2_with fail
  go_ret
  exact ⟨rfl, rfl⟩
theorem gotL (k : Bq q 40 (PC nx bl th wd en tl) w) : Calls Tryd.prog 14 #[.pointer (some ⟨q, 0, none⟩)] w fun e w' => e = .returned (.int .i64 (gotE nx en)) ∧ w' = w := by
  have HK := Lib.hid k
  clear k
  go_enter Tryd.func14, Tryd.ntmps14
  go_wp2_with fail
  ((with_reducible refine (gotP HK.out).mono ?_); rintro ee w1 ⟨rfl, rfl⟩)
  go_wp2_with fail
  go_ret
  exact ⟨rfl, rfl⟩
theorem newJoin_bad (n : Int) (h : n < 0) (w : World) : Calls Tryd.prog 32 #[.int .i64 n] w fun e w' => ∃ q, e = .returned (.pointer (some ⟨q, 0, none⟩)) ∧ w.heap.size ≤ q ∧ Bq q 38 (PC 0 0 0 0 1 (JT 0 0 0 false)) w' ∧ Below w.heap.size w w' := by
  go_enter Tryd.func32, Tryd.ntmps32
  go_wp2
  go_ret
  exact ⟨w.heap.size, rfl, Nat.le_refl _, Bq.new w (PC 0 0 0 0 1 (JT 0 0 0 false)) _, (Below.refl _ _).alloc (Nat.le_refl _) _⟩
theorem newJoin_good (n : Int) (h : 0 ≤ n) (w : World) : Calls Tryd.prog 32 #[.int .i64 n] w fun e w' => ∃ q, e = .returned (.pointer (some ⟨q, 0, none⟩)) ∧ w.heap.size ≤ q ∧ Bq q 38 (PC 3 0 0 0 0 (JT n 0 1 false)) w' ∧ Below w.heap.size w w' := by
  go_enter Tryd.func32, Tryd.ntmps32
  go_wp2
  go_ret
  exact ⟨w.heap.size, rfl, Nat.le_refl _, Bq.new w (PC 3 0 0 0 0 (JT n 0 1 false)) _, (Below.refl _ _).alloc (Nat.le_refl _) _⟩
theorem newLeave_low (n : Int) (h : n < 0) (w : World) : Calls Tryd.prog 33 #[.int .i64 n] w fun e w' => ∃ q, e = .returned (.pointer (some ⟨q, 0, none⟩)) ∧ w.heap.size ≤ q ∧ Bq q 40 (PC 0 0 0 0 1 []) w' ∧ Below w.heap.size w w' := by
  go_enter Tryd.func33, Tryd.ntmps33
  go_wp2
  go_ret
  exact ⟨w.heap.size, rfl, Nat.le_refl _, Bq.new w (PC 0 0 0 0 1 []) _, (Below.refl _ _).alloc (Nat.le_refl _) _⟩
theorem newLeave_high (n : Int) (h0 : 0 ≤ n) (h : 16 ≤ n) (w : World) : Calls Tryd.prog 33 #[.int .i64 n] w fun e w' => ∃ q, e = .returned (.pointer (some ⟨q, 0, none⟩)) ∧ w.heap.size ≤ q ∧ Bq q 40 (PC 0 0 0 0 1 []) w' ∧ Below w.heap.size w w' := by
  go_enter Tryd.func33, Tryd.ntmps33
  go_wp2
  go_ret
  exact ⟨w.heap.size, rfl, Nat.le_refl _, Bq.new w (PC 0 0 0 0 1 []) _, (Below.refl _ _).alloc (Nat.le_refl _) _⟩
theorem newLeave_good (n : Int) (h0 : 0 ≤ n) (h : n < 16) (w : World) : Calls Tryd.prog 33 #[.int .i64 n] w fun e w' => ∃ q, e = .returned (.pointer (some ⟨q, 0, none⟩)) ∧ w.heap.size ≤ q ∧ Bq q 40 (PC 3 (n / 4) n 0 0 []) w' ∧ Below w.heap.size w w' := by
  have hw := wrap_small (x := n / 4) (by omega) (by omega)
  go_enter Tryd.func33, Tryd.ntmps33
  go_wp2
  go_ret
  exact ⟨w.heap.size, rfl, Nat.le_refl _, Bq.new w (PC 3 (n / 4) n 0 0 []) _, (Below.refl _ _).alloc (Nat.le_refl _) _⟩
end
end Go.Proofs.YtodfjnpnfalioaaDoor
