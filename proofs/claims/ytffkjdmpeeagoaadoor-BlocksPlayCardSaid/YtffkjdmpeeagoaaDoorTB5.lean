/-
  Package tables: a step of a Join and of a Leave does what the chapter's does; whether they are over, what was got, how they begin; condition: the operation and the memory lie as they say, numbers of their kinds.
-/
import Derived.Test.YtffkjdmpeeagoaaDoorTB4
import Derived.Test.YtffkjdmpeeagoaaDoorU1
import Derived.Deep.RegionWith
namespace Go.Proofs.YtffkjdmpeeagoaaDoor
open Go.RowKit Go.Maps

theorem results_cell {P : Program} {fn : Func} {p : Tmp} {ty : TypeId} (h : fn.results = #[.cell p ty]) (tmps : Array Value) (w : World) (g : Nat) (t : TypeId) (cs : Array Value) (fr : Nat × Nat) (d : TypeDesc)
    (hp : tmps.getD p undef = .pointer (some ⟨g, 0, none⟩)) (hg : w.heap[g]? = some (.cells cs t fr))
    (hu : P.underlying ty = some d) (hd : (match d with | .struct _ | .array _ _ => true | _ => false) = true) (hi : (P.info? ty).map (·.size) = some cs.size) :
    (results fn tmps).run P w = .ok (.agg cs) w := by
  have hp' : tmps[p]?.getD undef = .pointer (some ⟨g, 0, none⟩) := by simpa using hp
  simp [results, h, hp', asAddr, run_loadVar_row w g t ty cs fr d hg hu hd hi]
theorem mJ_1 (q : Nat) (w : World) : (method (317) 67 (.pointer (some ⟨q, 0, none⟩)) "ragpicker/tables.read").run Tryd.prog w = .ok (87, .pointer (some ⟨q, 0, none⟩)) w := by kernel_rfl
theorem mJ_2 (q : Nat) (w : World) : (method (317) 67 (.pointer (some ⟨q, 0, none⟩)) "ragpicker/tables.less").run Tryd.prog w = .ok (88, .pointer (some ⟨q, 0, none⟩)) w := by kernel_rfl
theorem iJ_1 (w : World) : (Instr.index 133 (.agg #[.nilFunc, .func (.methodOf 67 "ragpicker/tables.read") #[] #[], .func (.methodOf 67 "ragpicker/tables.less") #[] #[], .func (.func 82) #[] #[], .func (.func 83) #[] #[], .func (.func 84) #[] #[], .func (.func 85) #[] #[], .func (.func 86) #[] #[]]) (.int .i64 1)).run Tryd.prog w = .ok (.func (.methodOf 67 "ragpicker/tables.read") #[] #[]) w := by kernel_rfl
theorem iJ_2 (w : World) : (Instr.index 133 (.agg #[.nilFunc, .func (.methodOf 67 "ragpicker/tables.read") #[] #[], .func (.methodOf 67 "ragpicker/tables.less") #[] #[], .func (.func 82) #[] #[], .func (.func 83) #[] #[], .func (.func 84) #[] #[], .func (.func 85) #[] #[], .func (.func 86) #[] #[]]) (.int .i64 2)).run Tryd.prog w = .ok (.func (.methodOf 67 "ragpicker/tables.less") #[] #[]) w := by kernel_rfl
theorem iJ_3 (w : World) : (Instr.index 133 (.agg #[.nilFunc, .func (.methodOf 67 "ragpicker/tables.read") #[] #[], .func (.methodOf 67 "ragpicker/tables.less") #[] #[], .func (.func 82) #[] #[], .func (.func 83) #[] #[], .func (.func 84) #[] #[], .func (.func 85) #[] #[], .func (.func 86) #[] #[]]) (.int .i64 3)).run Tryd.prog w = .ok (.func (.func 82) #[] #[]) w := by kernel_rfl
theorem iJ_4 (w : World) : (Instr.index 133 (.agg #[.nilFunc, .func (.methodOf 67 "ragpicker/tables.read") #[] #[], .func (.methodOf 67 "ragpicker/tables.less") #[] #[], .func (.func 82) #[] #[], .func (.func 83) #[] #[], .func (.func 84) #[] #[], .func (.func 85) #[] #[], .func (.func 86) #[] #[]]) (.int .i64 4)).run Tryd.prog w = .ok (.func (.func 83) #[] #[]) w := by kernel_rfl
theorem iJ_5 (w : World) : (Instr.index 133 (.agg #[.nilFunc, .func (.methodOf 67 "ragpicker/tables.read") #[] #[], .func (.methodOf 67 "ragpicker/tables.less") #[] #[], .func (.func 82) #[] #[], .func (.func 83) #[] #[], .func (.func 84) #[] #[], .func (.func 85) #[] #[], .func (.func 86) #[] #[]]) (.int .i64 5)).run Tryd.prog w = .ok (.func (.func 84) #[] #[]) w := by kernel_rfl
theorem iJ_6 (w : World) : (Instr.index 133 (.agg #[.nilFunc, .func (.methodOf 67 "ragpicker/tables.read") #[] #[], .func (.methodOf 67 "ragpicker/tables.less") #[] #[], .func (.func 82) #[] #[], .func (.func 83) #[] #[], .func (.func 84) #[] #[], .func (.func 85) #[] #[], .func (.func 86) #[] #[]]) (.int .i64 6)).run Tryd.prog w = .ok (.func (.func 85) #[] #[]) w := by kernel_rfl
theorem iJ_7 (w : World) : (Instr.index 133 (.agg #[.nilFunc, .func (.methodOf 67 "ragpicker/tables.read") #[] #[], .func (.methodOf 67 "ragpicker/tables.less") #[] #[], .func (.func 82) #[] #[], .func (.func 83) #[] #[], .func (.func 84) #[] #[], .func (.func 85) #[] #[], .func (.func 86) #[] #[]]) (.int .i64 7)).run Tryd.prog w = .ok (.func (.func 86) #[] #[]) w := by kernel_rfl
theorem linesJ (w : World) : Calls Tryd.prog 62 #[] w fun e w' => e = .returned (.agg #[.nilFunc, .func (.methodOf 67 "ragpicker/tables.read") #[] #[], .func (.methodOf 67 "ragpicker/tables.less") #[] #[], .func (.func 82) #[] #[], .func (.func 83) #[] #[], .func (.func 84) #[] #[], .func (.func 85) #[] #[], .func (.func 86) #[] #[]]) ∧ Below w.heap.size w w' := by
  go_enter Tryd.func62, Tryd.ntmps62
  have k0 : (w.alloc (.cells #[.nilFunc, .nilFunc, .nilFunc, .nilFunc, .nilFunc, .nilFunc, .nilFunc, .nilFunc] 133)).heap[w.heap.size]? = some (.cells #[.nilFunc, .nilFunc, .nilFunc, .nilFunc, .nilFunc, .nilFunc, .nilFunc, .nilFunc] 133 (0, 0)) := alloc_blk _ _
  go_wp2_with (refine wpList_store_put rfl 133 _ _ rfl w.heap.size rfl #[.nilFunc, .func (.methodOf 67 "ragpicker/tables.read") #[] #[], .func (.methodOf 67 "ragpicker/tables.less") #[] #[], .func (.func 82) #[] #[], .func (.func 83) #[] #[], .func (.func 84) #[] #[], .func (.func 85) #[] #[], .func (.func 86) #[] #[]] rfl 133 _ k0 (by kernel_rfl) rfl (by decide) ?_; intro w1 hp)
  exact bodyPost_ret (results_cell Tryd.results62 _ _ _ _ _ _ _ rfl hp.at_ Tryd.underlying133 rfl (by kernel_rfl)) rfl ⟨rfl, hp.below ((Below.refl _ _).alloc (Nat.le_refl _) _) (Nat.le_refl _)⟩
theorem mL_1 (q : Nat) (w : World) : (method (317) 68 (.pointer (some ⟨q, 0, none⟩)) "ragpicker/tables.read").run Tryd.prog w = .ok (87, .pointer (some ⟨q, 0, none⟩)) w := by kernel_rfl
theorem mL_2 (q : Nat) (w : World) : (method (317) 68 (.pointer (some ⟨q, 0, none⟩)) "ragpicker/tables.less").run Tryd.prog w = .ok (88, .pointer (some ⟨q, 0, none⟩)) w := by kernel_rfl
theorem iL_1 (w : World) : (Instr.index 144 (.agg #[.nilFunc, .func (.methodOf 68 "ragpicker/tables.read") #[] #[], .func (.methodOf 68 "ragpicker/tables.less") #[] #[], .func (.func 98) #[] #[], .func (.func 99) #[] #[], .func (.func 100) #[] #[], .func (.func 101) #[] #[]]) (.int .i64 1)).run Tryd.prog w = .ok (.func (.methodOf 68 "ragpicker/tables.read") #[] #[]) w := by kernel_rfl
theorem iL_2 (w : World) : (Instr.index 144 (.agg #[.nilFunc, .func (.methodOf 68 "ragpicker/tables.read") #[] #[], .func (.methodOf 68 "ragpicker/tables.less") #[] #[], .func (.func 98) #[] #[], .func (.func 99) #[] #[], .func (.func 100) #[] #[], .func (.func 101) #[] #[]]) (.int .i64 2)).run Tryd.prog w = .ok (.func (.methodOf 68 "ragpicker/tables.less") #[] #[]) w := by kernel_rfl
theorem iL_3 (w : World) : (Instr.index 144 (.agg #[.nilFunc, .func (.methodOf 68 "ragpicker/tables.read") #[] #[], .func (.methodOf 68 "ragpicker/tables.less") #[] #[], .func (.func 98) #[] #[], .func (.func 99) #[] #[], .func (.func 100) #[] #[], .func (.func 101) #[] #[]]) (.int .i64 3)).run Tryd.prog w = .ok (.func (.func 98) #[] #[]) w := by kernel_rfl
theorem iL_4 (w : World) : (Instr.index 144 (.agg #[.nilFunc, .func (.methodOf 68 "ragpicker/tables.read") #[] #[], .func (.methodOf 68 "ragpicker/tables.less") #[] #[], .func (.func 98) #[] #[], .func (.func 99) #[] #[], .func (.func 100) #[] #[], .func (.func 101) #[] #[]]) (.int .i64 4)).run Tryd.prog w = .ok (.func (.func 99) #[] #[]) w := by kernel_rfl
theorem iL_5 (w : World) : (Instr.index 144 (.agg #[.nilFunc, .func (.methodOf 68 "ragpicker/tables.read") #[] #[], .func (.methodOf 68 "ragpicker/tables.less") #[] #[], .func (.func 98) #[] #[], .func (.func 99) #[] #[], .func (.func 100) #[] #[], .func (.func 101) #[] #[]]) (.int .i64 5)).run Tryd.prog w = .ok (.func (.func 100) #[] #[]) w := by kernel_rfl
theorem iL_6 (w : World) : (Instr.index 144 (.agg #[.nilFunc, .func (.methodOf 68 "ragpicker/tables.read") #[] #[], .func (.methodOf 68 "ragpicker/tables.less") #[] #[], .func (.func 98) #[] #[], .func (.func 99) #[] #[], .func (.func 100) #[] #[], .func (.func 101) #[] #[]]) (.int .i64 6)).run Tryd.prog w = .ok (.func (.func 101) #[] #[]) w := by kernel_rfl
theorem linesL (w : World) : Calls Tryd.prog 80 #[] w fun e w' => e = .returned (.agg #[.nilFunc, .func (.methodOf 68 "ragpicker/tables.read") #[] #[], .func (.methodOf 68 "ragpicker/tables.less") #[] #[], .func (.func 98) #[] #[], .func (.func 99) #[] #[], .func (.func 100) #[] #[], .func (.func 101) #[] #[]]) ∧ Below w.heap.size w w' := by
  go_enter Tryd.func80, Tryd.ntmps80
  have k0 : (w.alloc (.cells #[.nilFunc, .nilFunc, .nilFunc, .nilFunc, .nilFunc, .nilFunc, .nilFunc] 144)).heap[w.heap.size]? = some (.cells #[.nilFunc, .nilFunc, .nilFunc, .nilFunc, .nilFunc, .nilFunc, .nilFunc] 144 (0, 0)) := alloc_blk _ _
  go_wp2_with (refine wpList_store_put rfl 144 _ _ rfl w.heap.size rfl #[.nilFunc, .func (.methodOf 68 "ragpicker/tables.read") #[] #[], .func (.methodOf 68 "ragpicker/tables.less") #[] #[], .func (.func 98) #[] #[], .func (.func 99) #[] #[], .func (.func 100) #[] #[], .func (.func 101) #[] #[]] rfl 144 _ k0 (by kernel_rfl) rfl (by decide) ?_; intro w1 hp)
  exact bodyPost_ret (results_cell Tryd.results80 _ _ _ _ _ _ _ rfl hp.at_ Tryd.underlying144 rfl (by kernel_rfl)) rfl ⟨rfl, hp.below ((Below.refl _ _).alloc (Nat.le_refl _) _) (Nat.le_refl _)⟩
section
variable {p b q : Nat} {T : TypeId} {nx n bl th wd en bl' th' wd' en' ow bs fd : Int} {jd : Bool} {tl tl' : List Value} {o : TO} {M M' : MV} {w w' X : World}
theorem overJ_nil (w : World) : Calls Tryd.prog 37 #[.pointer none] w fun e w' => e = .returned (.bool true) ∧ w' = w := by
  go_enter Tryd.func37, Tryd.ntmps37
  go_wp2_with fail
  go_ret
  exact ⟨rfl, rfl⟩
theorem overJ (k : Bq q T (PC nx bl th wd en tl) w) : Calls Tryd.prog 37 #[.pointer (some ⟨q, 0, none⟩)] w fun e w' => e = .returned (.bool (nx == 0)) ∧ w' = w := by
  have HK := Lib.hid k
  clear k
  go_enter Tryd.func37, Tryd.ntmps37
  go_wp2_with fail
  ((with_reducible refine (overP HK.out).mono ?_); rintro ee w1 ⟨rfl, rfl⟩)
  go_wp2_with fail
  go_ret
  exact ⟨rfl, rfl⟩
theorem stepJ_nil (m : Value) (w : World) : Calls Tryd.prog 35 #[.pointer none, m] w fun e w' => e = .returned (.bool true) ∧ w' = w := by
  go_enter Tryd.func35, Tryd.ntmps35
  go_wp2_with fail
  ((with_reducible refine (overJ_nil _).mono ?_); rintro ee w1 ⟨rfl, rfl⟩)
  go_wp2_with fail
  go_ret
  exact ⟨rfl, rfl⟩
theorem stepJ_over (m : Value) (k : Bq q T (PC 0 bl th wd en tl) w) : Calls Tryd.prog 35 #[.pointer (some ⟨q, 0, none⟩), m] w fun e w' => e = .returned (.bool true) ∧ w' = w := by
  have HK := Lib.hid k
  clear k
  go_enter Tryd.func35, Tryd.ntmps35
  go_wp2_with fail
  ((with_reducible refine (overJ HK.out).mono ?_); rintro ee w1 ⟨rfl, rfl⟩)
  go_wp2_with fail
  go_ret
  exact ⟨rfl, rfl⟩
set_option maxRecDepth 100000 in
set_option maxHeartbeats 4000000 in
theorem stepJ_1 (hq : 1 < q) (k : Bq q 131 (PC 1 bl th wd en tl) w) (hl : ∀ X, Below w.heap.size w X → Calls Tryd.prog 87 #[.pointer (some ⟨q, 0, none⟩), .pointer (some ⟨p, 0, none⟩)] X fun e Y => e = .returned (.int .i64 n) ∧ At3 p b q 131 1 bl' th' wd' en' tl' M' X Y) :
    Calls Tryd.prog 35 #[.pointer (some ⟨q, 0, none⟩), .pointer (some ⟨p, 0, none⟩)] w fun e w' => e = .returned (.bool (n == 0)) ∧ At3 p b q 131 n bl' th' wd' en' tl' M' w w' := by
  have HK := Lib.hid k
  have HL := Lib.hid hl
  have c0 := k.pc.1
  have hm := mJ_1 q
  have hi := iJ_1
  clear k hl
  go_enter Tryd.func35, Tryd.ntmps35
  go_wp2_with (go_at_call 37; refine (overJ HK.out).mono ?_; rintro ee w ⟨rfl, rfl⟩)
  go_region_with (first
    | (go_at_call 62; refine (linesJ _).mono ?_; rintro ee wA ⟨rfl, hA⟩; have HA := Lib.hid (show Below w.heap.size w wA from ((Below.refl _ w).drew).trans hA); have cA := (HK.out.below HA.out).pc.1; clear hA)
    | (go_at_call 87; refine (HL.out wA HA.out).mono ?_; rintro ee wB ⟨rfl, aB⟩; have cB := aB.k.pc.1; have zB := aB.k.free 0; have HAB := Lib.hid aB; clear aB))
  all_goals
    have HAC := Lib.hid (HAB.out.set (nx' := n) (bl' := bl') (th' := th') (wd' := wd') (en' := en') (tl' := tl') (by decide) hq 0 (.int .i64 n) rfl)
    go_wp2_with (go_at_call 63; refine (overP HAC.out.k).mono ?_; rintro ee w ⟨rfl, rfl⟩)
    go_ret
    exact ⟨rfl, HAC.out.trans (.of_below HA.out)⟩
set_option maxRecDepth 100000 in
set_option maxHeartbeats 4000000 in
theorem stepJ_2 (hq : 1 < q) (k : Bq q 131 (PC 2 bl th wd en tl) w) (hl : ∀ X, Below w.heap.size w X → Calls Tryd.prog 88 #[.pointer (some ⟨q, 0, none⟩), .pointer (some ⟨p, 0, none⟩)] X fun e Y => e = .returned (.int .i64 n) ∧ At3 p b q 131 2 bl' th' wd' en' tl' M' X Y) :
    Calls Tryd.prog 35 #[.pointer (some ⟨q, 0, none⟩), .pointer (some ⟨p, 0, none⟩)] w fun e w' => e = .returned (.bool (n == 0)) ∧ At3 p b q 131 n bl' th' wd' en' tl' M' w w' := by
  have HK := Lib.hid k
  have HL := Lib.hid hl
  have c0 := k.pc.1
  have hm := mJ_2 q
  have hi := iJ_2
  clear k hl
  go_enter Tryd.func35, Tryd.ntmps35
  go_wp2_with (go_at_call 37; refine (overJ HK.out).mono ?_; rintro ee w ⟨rfl, rfl⟩)
  go_region_with (first
    | (go_at_call 62; refine (linesJ _).mono ?_; rintro ee wA ⟨rfl, hA⟩; have HA := Lib.hid (show Below w.heap.size w wA from ((Below.refl _ w).drew).trans hA); have cA := (HK.out.below HA.out).pc.1; clear hA)
    | (go_at_call 88; refine (HL.out wA HA.out).mono ?_; rintro ee wB ⟨rfl, aB⟩; have cB := aB.k.pc.1; have zB := aB.k.free 0; have HAB := Lib.hid aB; clear aB))
  all_goals
    have HAC := Lib.hid (HAB.out.set (nx' := n) (bl' := bl') (th' := th') (wd' := wd') (en' := en') (tl' := tl') (by decide) hq 0 (.int .i64 n) rfl)
    go_wp2_with (go_at_call 63; refine (overP HAC.out.k).mono ?_; rintro ee w ⟨rfl, rfl⟩)
    go_ret
    exact ⟨rfl, HAC.out.trans (.of_below HA.out)⟩
set_option maxRecDepth 100000 in
set_option maxHeartbeats 4000000 in
theorem stepJ_3 (hq : 1 < q) (k : Bq q 131 (PC 3 bl th wd en tl) w) (hl : ∀ X, Below w.heap.size w X → Calls Tryd.prog 82 #[.pointer (some ⟨q, 0, none⟩), .pointer (some ⟨p, 0, none⟩)] X fun e Y => e = .returned (.int .i64 n) ∧ At3 p b q 131 3 bl' th' wd' en' tl' M' X Y) :
    Calls Tryd.prog 35 #[.pointer (some ⟨q, 0, none⟩), .pointer (some ⟨p, 0, none⟩)] w fun e w' => e = .returned (.bool (n == 0)) ∧ At3 p b q 131 n bl' th' wd' en' tl' M' w w' := by
  have HK := Lib.hid k
  have HL := Lib.hid hl
  have c0 := k.pc.1
  have hi := iJ_3
  clear k hl
  go_enter Tryd.func35, Tryd.ntmps35
  go_wp2_with (go_at_call 37; refine (overJ HK.out).mono ?_; rintro ee w ⟨rfl, rfl⟩)
  go_region_with (first
    | (go_at_call 62; refine (linesJ _).mono ?_; rintro ee wA ⟨rfl, hA⟩; have HA := Lib.hid (show Below w.heap.size w wA from ((Below.refl _ w).drew).trans hA); have cA := (HK.out.below HA.out).pc.1; clear hA)
    | (go_at_call 82; refine (HL.out wA HA.out).mono ?_; rintro ee wB ⟨rfl, aB⟩; have cB := aB.k.pc.1; have zB := aB.k.free 0; have HAB := Lib.hid aB; clear aB))
  all_goals
    have HAC := Lib.hid (HAB.out.set (nx' := n) (bl' := bl') (th' := th') (wd' := wd') (en' := en') (tl' := tl') (by decide) hq 0 (.int .i64 n) rfl)
    go_wp2_with (go_at_call 63; refine (overP HAC.out.k).mono ?_; rintro ee w ⟨rfl, rfl⟩)
    go_ret
    exact ⟨rfl, HAC.out.trans (.of_below HA.out)⟩
set_option maxRecDepth 100000 in
set_option maxHeartbeats 4000000 in
theorem stepJ_4 (hq : 1 < q) (k : Bq q 131 (PC 4 bl th wd en tl) w) (hl : ∀ X, Below w.heap.size w X → Calls Tryd.prog 83 #[.pointer (some ⟨q, 0, none⟩), .pointer (some ⟨p, 0, none⟩)] X fun e Y => e = .returned (.int .i64 n) ∧ At3 p b q 131 4 bl' th' wd' en' tl' M' X Y) :
    Calls Tryd.prog 35 #[.pointer (some ⟨q, 0, none⟩), .pointer (some ⟨p, 0, none⟩)] w fun e w' => e = .returned (.bool (n == 0)) ∧ At3 p b q 131 n bl' th' wd' en' tl' M' w w' := by
  have HK := Lib.hid k
  have HL := Lib.hid hl
  have c0 := k.pc.1
  have hi := iJ_4
  clear k hl
  go_enter Tryd.func35, Tryd.ntmps35
  go_wp2_with (go_at_call 37; refine (overJ HK.out).mono ?_; rintro ee w ⟨rfl, rfl⟩)
  go_region_with (first
    | (go_at_call 62; refine (linesJ _).mono ?_; rintro ee wA ⟨rfl, hA⟩; have HA := Lib.hid (show Below w.heap.size w wA from ((Below.refl _ w).drew).trans hA); have cA := (HK.out.below HA.out).pc.1; clear hA)
    | (go_at_call 83; refine (HL.out wA HA.out).mono ?_; rintro ee wB ⟨rfl, aB⟩; have cB := aB.k.pc.1; have zB := aB.k.free 0; have HAB := Lib.hid aB; clear aB))
  all_goals
    have HAC := Lib.hid (HAB.out.set (nx' := n) (bl' := bl') (th' := th') (wd' := wd') (en' := en') (tl' := tl') (by decide) hq 0 (.int .i64 n) rfl)
    go_wp2_with (go_at_call 63; refine (overP HAC.out.k).mono ?_; rintro ee w ⟨rfl, rfl⟩)
    go_ret
    exact ⟨rfl, HAC.out.trans (.of_below HA.out)⟩
set_option maxRecDepth 100000 in
set_option maxHeartbeats 4000000 in
theorem stepJ_5 (hq : 1 < q) (k : Bq q 131 (PC 5 bl th wd en tl) w) (hl : ∀ X, Below w.heap.size w X → Calls Tryd.prog 84 #[.pointer (some ⟨q, 0, none⟩), .pointer (some ⟨p, 0, none⟩)] X fun e Y => e = .returned (.int .i64 n) ∧ At3 p b q 131 5 bl' th' wd' en' tl' M' X Y) :
    Calls Tryd.prog 35 #[.pointer (some ⟨q, 0, none⟩), .pointer (some ⟨p, 0, none⟩)] w fun e w' => e = .returned (.bool (n == 0)) ∧ At3 p b q 131 n bl' th' wd' en' tl' M' w w' := by
  have HK := Lib.hid k
  have HL := Lib.hid hl
  have c0 := k.pc.1
  have hi := iJ_5
  clear k hl
  go_enter Tryd.func35, Tryd.ntmps35
  go_wp2_with (go_at_call 37; refine (overJ HK.out).mono ?_; rintro ee w ⟨rfl, rfl⟩)
  go_region_with (first
    | (go_at_call 62; refine (linesJ _).mono ?_; rintro ee wA ⟨rfl, hA⟩; have HA := Lib.hid (show Below w.heap.size w wA from ((Below.refl _ w).drew).trans hA); have cA := (HK.out.below HA.out).pc.1; clear hA)
    | (go_at_call 84; refine (HL.out wA HA.out).mono ?_; rintro ee wB ⟨rfl, aB⟩; have cB := aB.k.pc.1; have zB := aB.k.free 0; have HAB := Lib.hid aB; clear aB))
  all_goals
    have HAC := Lib.hid (HAB.out.set (nx' := n) (bl' := bl') (th' := th') (wd' := wd') (en' := en') (tl' := tl') (by decide) hq 0 (.int .i64 n) rfl)
    go_wp2_with (go_at_call 63; refine (overP HAC.out.k).mono ?_; rintro ee w ⟨rfl, rfl⟩)
    go_ret
    exact ⟨rfl, HAC.out.trans (.of_below HA.out)⟩
set_option maxRecDepth 100000 in
set_option maxHeartbeats 4000000 in
theorem stepJ_6 (hq : 1 < q) (k : Bq q 131 (PC 6 bl th wd en tl) w) (hl : ∀ X, Below w.heap.size w X → Calls Tryd.prog 85 #[.pointer (some ⟨q, 0, none⟩), .pointer (some ⟨p, 0, none⟩)] X fun e Y => e = .returned (.int .i64 n) ∧ At3 p b q 131 6 bl' th' wd' en' tl' M' X Y) :
    Calls Tryd.prog 35 #[.pointer (some ⟨q, 0, none⟩), .pointer (some ⟨p, 0, none⟩)] w fun e w' => e = .returned (.bool (n == 0)) ∧ At3 p b q 131 n bl' th' wd' en' tl' M' w w' := by
  have HK := Lib.hid k
  have HL := Lib.hid hl
  have c0 := k.pc.1
  have hi := iJ_6
  clear k hl
  go_enter Tryd.func35, Tryd.ntmps35
  go_wp2_with (go_at_call 37; refine (overJ HK.out).mono ?_; rintro ee w ⟨rfl, rfl⟩)
  go_region_with (first
    | (go_at_call 62; refine (linesJ _).mono ?_; rintro ee wA ⟨rfl, hA⟩; have HA := Lib.hid (show Below w.heap.size w wA from ((Below.refl _ w).drew).trans hA); have cA := (HK.out.below HA.out).pc.1; clear hA)
    | (go_at_call 85; refine (HL.out wA HA.out).mono ?_; rintro ee wB ⟨rfl, aB⟩; have cB := aB.k.pc.1; have zB := aB.k.free 0; have HAB := Lib.hid aB; clear aB))
  all_goals
    have HAC := Lib.hid (HAB.out.set (nx' := n) (bl' := bl') (th' := th') (wd' := wd') (en' := en') (tl' := tl') (by decide) hq 0 (.int .i64 n) rfl)
    go_wp2_with (go_at_call 63; refine (overP HAC.out.k).mono ?_; rintro ee w ⟨rfl, rfl⟩)
    go_ret
    exact ⟨rfl, HAC.out.trans (.of_below HA.out)⟩
set_option maxRecDepth 100000 in
set_option maxHeartbeats 4000000 in
theorem stepJ_7 (hq : 1 < q) (k : Bq q 131 (PC 7 bl th wd en tl) w) (hl : ∀ X, Below w.heap.size w X → Calls Tryd.prog 86 #[.pointer (some ⟨q, 0, none⟩), .pointer (some ⟨p, 0, none⟩)] X fun e Y => e = .returned (.int .i64 n) ∧ At3 p b q 131 7 bl' th' wd' en' tl' M' X Y) :
    Calls Tryd.prog 35 #[.pointer (some ⟨q, 0, none⟩), .pointer (some ⟨p, 0, none⟩)] w fun e w' => e = .returned (.bool (n == 0)) ∧ At3 p b q 131 n bl' th' wd' en' tl' M' w w' := by
  have HK := Lib.hid k
  have HL := Lib.hid hl
  have c0 := k.pc.1
  have hi := iJ_7
  clear k hl
  go_enter Tryd.func35, Tryd.ntmps35
  go_wp2_with (go_at_call 37; refine (overJ HK.out).mono ?_; rintro ee w ⟨rfl, rfl⟩)
  go_region_with (first
    | (go_at_call 62; refine (linesJ _).mono ?_; rintro ee wA ⟨rfl, hA⟩; have HA := Lib.hid (show Below w.heap.size w wA from ((Below.refl _ w).drew).trans hA); have cA := (HK.out.below HA.out).pc.1; clear hA)
    | (go_at_call 86; refine (HL.out wA HA.out).mono ?_; rintro ee wB ⟨rfl, aB⟩; have cB := aB.k.pc.1; have zB := aB.k.free 0; have HAB := Lib.hid aB; clear aB))
  all_goals
    have HAC := Lib.hid (HAB.out.set (nx' := n) (bl' := bl') (th' := th') (wd' := wd') (en' := en') (tl' := tl') (by decide) hq 0 (.int .i64 n) rfl)
    go_wp2_with (go_at_call 63; refine (overP HAC.out.k).mono ?_; rintro ee w ⟨rfl, rfl⟩)
    go_ret
    exact ⟨rfl, HAC.out.trans (.of_below HA.out)⟩
theorem overL_nil (w : World) : Calls Tryd.prog 79 #[.pointer none] w fun e w' => e = .returned (.bool true) ∧ w' = w := by
  go_enter Tryd.func79, Tryd.ntmps79
  go_wp2_with fail
  go_ret
  exact ⟨rfl, rfl⟩
theorem overL (k : Bq q T (PC nx bl th wd en tl) w) : Calls Tryd.prog 79 #[.pointer (some ⟨q, 0, none⟩)] w fun e w' => e = .returned (.bool (nx == 0)) ∧ w' = w := by
  have HK := Lib.hid k
  clear k
  go_enter Tryd.func79, Tryd.ntmps79
  go_wp2_with fail
  ((with_reducible refine (overP HK.out).mono ?_); rintro ee w1 ⟨rfl, rfl⟩)
  go_wp2_with fail
  go_ret
  exact ⟨rfl, rfl⟩
theorem stepL_nil (m : Value) (w : World) : Calls Tryd.prog 52 #[.pointer none, m] w fun e w' => e = .returned (.bool true) ∧ w' = w := by
  go_enter Tryd.func52, Tryd.ntmps52
  go_wp2_with fail
  ((with_reducible refine (overL_nil _).mono ?_); rintro ee w1 ⟨rfl, rfl⟩)
  go_wp2_with fail
  go_ret
  exact ⟨rfl, rfl⟩
theorem stepL_over (m : Value) (k : Bq q T (PC 0 bl th wd en tl) w) : Calls Tryd.prog 52 #[.pointer (some ⟨q, 0, none⟩), m] w fun e w' => e = .returned (.bool true) ∧ w' = w := by
  have HK := Lib.hid k
  clear k
  go_enter Tryd.func52, Tryd.ntmps52
  go_wp2_with fail
  ((with_reducible refine (overL HK.out).mono ?_); rintro ee w1 ⟨rfl, rfl⟩)
  go_wp2_with fail
  go_ret
  exact ⟨rfl, rfl⟩
set_option maxRecDepth 100000 in
set_option maxHeartbeats 4000000 in
theorem stepL_1 (hq : 1 < q) (k : Bq q 142 (PC 1 bl th wd en tl) w) (hl : ∀ X, Below w.heap.size w X → Calls Tryd.prog 87 #[.pointer (some ⟨q, 0, none⟩), .pointer (some ⟨p, 0, none⟩)] X fun e Y => e = .returned (.int .i64 n) ∧ At3 p b q 142 1 bl' th' wd' en' tl' M' X Y) :
    Calls Tryd.prog 52 #[.pointer (some ⟨q, 0, none⟩), .pointer (some ⟨p, 0, none⟩)] w fun e w' => e = .returned (.bool (n == 0)) ∧ At3 p b q 142 n bl' th' wd' en' tl' M' w w' := by
  have HK := Lib.hid k
  have HL := Lib.hid hl
  have c0 := k.pc.1
  have hm := mL_1 q
  have hi := iL_1
  clear k hl
  go_enter Tryd.func52, Tryd.ntmps52
  go_wp2_with (go_at_call 79; refine (overL HK.out).mono ?_; rintro ee w ⟨rfl, rfl⟩)
  go_region_with (first
    | (go_at_call 80; refine (linesL _).mono ?_; rintro ee wA ⟨rfl, hA⟩; have HA := Lib.hid (show Below w.heap.size w wA from ((Below.refl _ w).drew).trans hA); have cA := (HK.out.below HA.out).pc.1; clear hA)
    | (go_at_call 87; refine (HL.out wA HA.out).mono ?_; rintro ee wB ⟨rfl, aB⟩; have cB := aB.k.pc.1; have zB := aB.k.free 0; have HAB := Lib.hid aB; clear aB))
  all_goals
    have HAC := Lib.hid (HAB.out.set (nx' := n) (bl' := bl') (th' := th') (wd' := wd') (en' := en') (tl' := tl') (by decide) hq 0 (.int .i64 n) rfl)
    go_wp2_with (go_at_call 63; refine (overP HAC.out.k).mono ?_; rintro ee w ⟨rfl, rfl⟩)
    go_ret
    exact ⟨rfl, HAC.out.trans (.of_below HA.out)⟩
set_option maxRecDepth 100000 in
set_option maxHeartbeats 4000000 in
theorem stepL_2 (hq : 1 < q) (k : Bq q 142 (PC 2 bl th wd en tl) w) (hl : ∀ X, Below w.heap.size w X → Calls Tryd.prog 88 #[.pointer (some ⟨q, 0, none⟩), .pointer (some ⟨p, 0, none⟩)] X fun e Y => e = .returned (.int .i64 n) ∧ At3 p b q 142 2 bl' th' wd' en' tl' M' X Y) :
    Calls Tryd.prog 52 #[.pointer (some ⟨q, 0, none⟩), .pointer (some ⟨p, 0, none⟩)] w fun e w' => e = .returned (.bool (n == 0)) ∧ At3 p b q 142 n bl' th' wd' en' tl' M' w w' := by
  have HK := Lib.hid k
  have HL := Lib.hid hl
  have c0 := k.pc.1
  have hm := mL_2 q
  have hi := iL_2
  clear k hl
  go_enter Tryd.func52, Tryd.ntmps52
  go_wp2_with (go_at_call 79; refine (overL HK.out).mono ?_; rintro ee w ⟨rfl, rfl⟩)
  go_region_with (first
    | (go_at_call 80; refine (linesL _).mono ?_; rintro ee wA ⟨rfl, hA⟩; have HA := Lib.hid (show Below w.heap.size w wA from ((Below.refl _ w).drew).trans hA); have cA := (HK.out.below HA.out).pc.1; clear hA)
    | (go_at_call 88; refine (HL.out wA HA.out).mono ?_; rintro ee wB ⟨rfl, aB⟩; have cB := aB.k.pc.1; have zB := aB.k.free 0; have HAB := Lib.hid aB; clear aB))
  all_goals
    have HAC := Lib.hid (HAB.out.set (nx' := n) (bl' := bl') (th' := th') (wd' := wd') (en' := en') (tl' := tl') (by decide) hq 0 (.int .i64 n) rfl)
    go_wp2_with (go_at_call 63; refine (overP HAC.out.k).mono ?_; rintro ee w ⟨rfl, rfl⟩)
    go_ret
    exact ⟨rfl, HAC.out.trans (.of_below HA.out)⟩
set_option maxRecDepth 100000 in
set_option maxHeartbeats 4000000 in
theorem stepL_3 (hq : 1 < q) (k : Bq q 142 (PC 3 bl th wd en tl) w) (hl : ∀ X, Below w.heap.size w X → Calls Tryd.prog 98 #[.pointer (some ⟨q, 0, none⟩), .pointer (some ⟨p, 0, none⟩)] X fun e Y => e = .returned (.int .i64 n) ∧ At3 p b q 142 3 bl' th' wd' en' tl' M' X Y) :
    Calls Tryd.prog 52 #[.pointer (some ⟨q, 0, none⟩), .pointer (some ⟨p, 0, none⟩)] w fun e w' => e = .returned (.bool (n == 0)) ∧ At3 p b q 142 n bl' th' wd' en' tl' M' w w' := by
  have HK := Lib.hid k
  have HL := Lib.hid hl
  have c0 := k.pc.1
  have hi := iL_3
  clear k hl
  go_enter Tryd.func52, Tryd.ntmps52
  go_wp2_with (go_at_call 79; refine (overL HK.out).mono ?_; rintro ee w ⟨rfl, rfl⟩)
  go_region_with (first
    | (go_at_call 80; refine (linesL _).mono ?_; rintro ee wA ⟨rfl, hA⟩; have HA := Lib.hid (show Below w.heap.size w wA from ((Below.refl _ w).drew).trans hA); have cA := (HK.out.below HA.out).pc.1; clear hA)
    | (go_at_call 98; refine (HL.out wA HA.out).mono ?_; rintro ee wB ⟨rfl, aB⟩; have cB := aB.k.pc.1; have zB := aB.k.free 0; have HAB := Lib.hid aB; clear aB))
  all_goals
    have HAC := Lib.hid (HAB.out.set (nx' := n) (bl' := bl') (th' := th') (wd' := wd') (en' := en') (tl' := tl') (by decide) hq 0 (.int .i64 n) rfl)
    go_wp2_with (go_at_call 63; refine (overP HAC.out.k).mono ?_; rintro ee w ⟨rfl, rfl⟩)
    go_ret
    exact ⟨rfl, HAC.out.trans (.of_below HA.out)⟩
set_option maxRecDepth 100000 in
set_option maxHeartbeats 4000000 in
theorem stepL_4 (hq : 1 < q) (k : Bq q 142 (PC 4 bl th wd en tl) w) (hl : ∀ X, Below w.heap.size w X → Calls Tryd.prog 99 #[.pointer (some ⟨q, 0, none⟩), .pointer (some ⟨p, 0, none⟩)] X fun e Y => e = .returned (.int .i64 n) ∧ At3 p b q 142 4 bl' th' wd' en' tl' M' X Y) :
    Calls Tryd.prog 52 #[.pointer (some ⟨q, 0, none⟩), .pointer (some ⟨p, 0, none⟩)] w fun e w' => e = .returned (.bool (n == 0)) ∧ At3 p b q 142 n bl' th' wd' en' tl' M' w w' := by
  have HK := Lib.hid k
  have HL := Lib.hid hl
  have c0 := k.pc.1
  have hi := iL_4
  clear k hl
  go_enter Tryd.func52, Tryd.ntmps52
  go_wp2_with (go_at_call 79; refine (overL HK.out).mono ?_; rintro ee w ⟨rfl, rfl⟩)
  go_region_with (first
    | (go_at_call 80; refine (linesL _).mono ?_; rintro ee wA ⟨rfl, hA⟩; have HA := Lib.hid (show Below w.heap.size w wA from ((Below.refl _ w).drew).trans hA); have cA := (HK.out.below HA.out).pc.1; clear hA)
    | (go_at_call 99; refine (HL.out wA HA.out).mono ?_; rintro ee wB ⟨rfl, aB⟩; have cB := aB.k.pc.1; have zB := aB.k.free 0; have HAB := Lib.hid aB; clear aB))
  all_goals
    have HAC := Lib.hid (HAB.out.set (nx' := n) (bl' := bl') (th' := th') (wd' := wd') (en' := en') (tl' := tl') (by decide) hq 0 (.int .i64 n) rfl)
    go_wp2_with (go_at_call 63; refine (overP HAC.out.k).mono ?_; rintro ee w ⟨rfl, rfl⟩)
    go_ret
    exact ⟨rfl, HAC.out.trans (.of_below HA.out)⟩
set_option maxRecDepth 100000 in
set_option maxHeartbeats 4000000 in
theorem stepL_5 (hq : 1 < q) (k : Bq q 142 (PC 5 bl th wd en tl) w) (hl : ∀ X, Below w.heap.size w X → Calls Tryd.prog 100 #[.pointer (some ⟨q, 0, none⟩), .pointer (some ⟨p, 0, none⟩)] X fun e Y => e = .returned (.int .i64 n) ∧ At3 p b q 142 5 bl' th' wd' en' tl' M' X Y) :
    Calls Tryd.prog 52 #[.pointer (some ⟨q, 0, none⟩), .pointer (some ⟨p, 0, none⟩)] w fun e w' => e = .returned (.bool (n == 0)) ∧ At3 p b q 142 n bl' th' wd' en' tl' M' w w' := by
  have HK := Lib.hid k
  have HL := Lib.hid hl
  have c0 := k.pc.1
  have hi := iL_5
  clear k hl
  go_enter Tryd.func52, Tryd.ntmps52
  go_wp2_with (go_at_call 79; refine (overL HK.out).mono ?_; rintro ee w ⟨rfl, rfl⟩)
  go_region_with (first
    | (go_at_call 80; refine (linesL _).mono ?_; rintro ee wA ⟨rfl, hA⟩; have HA := Lib.hid (show Below w.heap.size w wA from ((Below.refl _ w).drew).trans hA); have cA := (HK.out.below HA.out).pc.1; clear hA)
    | (go_at_call 100; refine (HL.out wA HA.out).mono ?_; rintro ee wB ⟨rfl, aB⟩; have cB := aB.k.pc.1; have zB := aB.k.free 0; have HAB := Lib.hid aB; clear aB))
  all_goals
    have HAC := Lib.hid (HAB.out.set (nx' := n) (bl' := bl') (th' := th') (wd' := wd') (en' := en') (tl' := tl') (by decide) hq 0 (.int .i64 n) rfl)
    go_wp2_with (go_at_call 63; refine (overP HAC.out.k).mono ?_; rintro ee w ⟨rfl, rfl⟩)
    go_ret
    exact ⟨rfl, HAC.out.trans (.of_below HA.out)⟩
set_option maxRecDepth 100000 in
set_option maxHeartbeats 4000000 in
theorem stepL_6 (hq : 1 < q) (k : Bq q 142 (PC 6 bl th wd en tl) w) (hl : ∀ X, Below w.heap.size w X → Calls Tryd.prog 101 #[.pointer (some ⟨q, 0, none⟩), .pointer (some ⟨p, 0, none⟩)] X fun e Y => e = .returned (.int .i64 n) ∧ At3 p b q 142 6 bl' th' wd' en' tl' M' X Y) :
    Calls Tryd.prog 52 #[.pointer (some ⟨q, 0, none⟩), .pointer (some ⟨p, 0, none⟩)] w fun e w' => e = .returned (.bool (n == 0)) ∧ At3 p b q 142 n bl' th' wd' en' tl' M' w w' := by
  have HK := Lib.hid k
  have HL := Lib.hid hl
  have c0 := k.pc.1
  have hi := iL_6
  clear k hl
  go_enter Tryd.func52, Tryd.ntmps52
  go_wp2_with (go_at_call 79; refine (overL HK.out).mono ?_; rintro ee w ⟨rfl, rfl⟩)
  go_region_with (first
    | (go_at_call 80; refine (linesL _).mono ?_; rintro ee wA ⟨rfl, hA⟩; have HA := Lib.hid (show Below w.heap.size w wA from ((Below.refl _ w).drew).trans hA); have cA := (HK.out.below HA.out).pc.1; clear hA)
    | (go_at_call 101; refine (HL.out wA HA.out).mono ?_; rintro ee wB ⟨rfl, aB⟩; have cB := aB.k.pc.1; have zB := aB.k.free 0; have HAB := Lib.hid aB; clear aB))
  all_goals
    have HAC := Lib.hid (HAB.out.set (nx' := n) (bl' := bl') (th' := th') (wd' := wd') (en' := en') (tl' := tl') (by decide) hq 0 (.int .i64 n) rfl)
    go_wp2_with (go_at_call 63; refine (overP HAC.out.k).mono ?_; rintro ee w ⟨rfl, rfl⟩)
    go_ret
    exact ⟨rfl, HAC.out.trans (.of_below HA.out)⟩
theorem gotJ_nil (w : World) : Calls Tryd.prog 38 #[.pointer none] w fun e w' => e = .returned (.tuple #[.int .i64 (-1), .int .i64 0]) ∧ w' = w := by
  go_enter Tryd.func38, Tryd.ntmps38
  go_wp2_with fail
  go_ret2
  exact ⟨rfl, rfl⟩
theorem gotJ_yes (k : Bq q 131 (PC nx bl th wd en (JT ow bs fd true)) w) : Calls Tryd.prog 38 #[.pointer (some ⟨q, 0, none⟩)] w fun e w' => e = .returned (.tuple #[.int .i64 th, .int .i64 0]) ∧ w' = w := by
  obtain ⟨c0, c1, c2, c3, c4, hz⟩ := k.pc
  obtain ⟨c5, c6, c7, c8⟩ := k.jc
  clear k hz
  go_enter Tryd.func38, Tryd.ntmps38
  go_wp2_with fail
  go_ret2
  exact ⟨rfl, rfl⟩
theorem gotJ_no (k : Bq q 131 (PC nx bl th wd en (JT ow bs fd false)) w) : Calls Tryd.prog 38 #[.pointer (some ⟨q, 0, none⟩)] w fun e w' => e = .returned (.tuple #[.int .i64 (-1), .int .i64 (gotE nx en)]) ∧ w' = w := by
  obtain ⟨c0, c1, c2, c3, c4, hz⟩ := k.pc
  obtain ⟨c5, c6, c7, c8⟩ := k.jc
  have HK := Lib.hid k
  clear k hz
  go_enter Tryd.func38, Tryd.ntmps38
  go_wp2_with fail
  ((with_reducible refine (gotP HK.out).mono ?_); rintro ee w1 ⟨rfl, rfl⟩)
  go_wp2_with fail
  go_ret2
  exact ⟨rfl, rfl⟩
theorem gotL_nil (w : World) : Calls Tryd.prog 53 #[.pointer none] w fun e w' => e = .returned (.int .i64 0) ∧ w' = w := by
  go_enter Tryd.func53, Tryd.ntmps53
  go_wp2_with fail
  go_ret
  exact ⟨rfl, rfl⟩
theorem gotL (k : Bq q 142 (PC nx bl th wd en tl) w) : Calls Tryd.prog 53 #[.pointer (some ⟨q, 0, none⟩)] w fun e w' => e = .returned (.int .i64 (gotE nx en)) ∧ w' = w := by
  have HK := Lib.hid k
  clear k
  go_enter Tryd.func53, Tryd.ntmps53
  go_wp2_with fail
  ((with_reducible refine (gotP HK.out).mono ?_); rintro ee w1 ⟨rfl, rfl⟩)
  go_wp2_with fail
  go_ret
  exact ⟨rfl, rfl⟩
theorem newJoin_bad (n : Int) (h : n < 0) (w : World) : Calls Tryd.prog 34 #[.int .i64 n] w fun e w' => ∃ q, e = .returned (.pointer (some ⟨q, 0, none⟩)) ∧ w.heap.size ≤ q ∧ Bq q 131 (PC 0 0 0 0 1 (JT 0 0 0 false)) w' ∧ Below w.heap.size w w' := by
  go_enter Tryd.func34, Tryd.ntmps34
  go_wp2
  go_ret
  exact ⟨w.heap.size, rfl, Nat.le_refl _, Bq.new w (PC 0 0 0 0 1 (JT 0 0 0 false)) _, (Below.refl _ _).alloc (Nat.le_refl _) _⟩
theorem newJoin_good (n : Int) (h : 0 ≤ n) (w : World) : Calls Tryd.prog 34 #[.int .i64 n] w fun e w' => ∃ q, e = .returned (.pointer (some ⟨q, 0, none⟩)) ∧ w.heap.size ≤ q ∧ Bq q 131 (PC 3 0 0 0 0 (JT n 0 1 false)) w' ∧ Below w.heap.size w w' := by
  go_enter Tryd.func34, Tryd.ntmps34
  go_wp2
  go_ret
  exact ⟨w.heap.size, rfl, Nat.le_refl _, Bq.new w (PC 3 0 0 0 0 (JT n 0 1 false)) _, (Below.refl _ _).alloc (Nat.le_refl _) _⟩
theorem newLeave_low (n : Int) (h : n < 0) (w : World) : Calls Tryd.prog 51 #[.int .i64 n] w fun e w' => ∃ q, e = .returned (.pointer (some ⟨q, 0, none⟩)) ∧ w.heap.size ≤ q ∧ Bq q 142 (PC 0 0 0 0 1 []) w' ∧ Below w.heap.size w w' := by
  go_enter Tryd.func51, Tryd.ntmps51
  go_wp2
  go_ret
  exact ⟨w.heap.size, rfl, Nat.le_refl _, Bq.new w (PC 0 0 0 0 1 []) _, (Below.refl _ _).alloc (Nat.le_refl _) _⟩
theorem newLeave_high (n : Int) (h0 : 0 ≤ n) (h : 16 ≤ n) (w : World) : Calls Tryd.prog 51 #[.int .i64 n] w fun e w' => ∃ q, e = .returned (.pointer (some ⟨q, 0, none⟩)) ∧ w.heap.size ≤ q ∧ Bq q 142 (PC 0 0 0 0 1 []) w' ∧ Below w.heap.size w w' := by
  go_enter Tryd.func51, Tryd.ntmps51
  go_wp2
  go_ret
  exact ⟨w.heap.size, rfl, Nat.le_refl _, Bq.new w (PC 0 0 0 0 1 []) _, (Below.refl _ _).alloc (Nat.le_refl _) _⟩
theorem newLeave_good (n : Int) (h0 : 0 ≤ n) (h : n < 16) (w : World) : Calls Tryd.prog 51 #[.int .i64 n] w fun e w' => ∃ q, e = .returned (.pointer (some ⟨q, 0, none⟩)) ∧ w.heap.size ≤ q ∧ Bq q 142 (PC 3 (n / 4) n 0 0 []) w' ∧ Below w.heap.size w w' := by
  have hw := wrap_small (x := n / 4) (by omega) (by omega)
  go_enter Tryd.func51, Tryd.ntmps51
  go_wp2
  go_ret
  exact ⟨w.heap.size, rfl, Nat.le_refl _, Bq.new w (PC 3 (n / 4) n 0 0 []) _, (Below.refl _ _).alloc (Nat.le_refl _) _⟩
end
end Go.Proofs.YtffkjdmpeeagoaaDoor
