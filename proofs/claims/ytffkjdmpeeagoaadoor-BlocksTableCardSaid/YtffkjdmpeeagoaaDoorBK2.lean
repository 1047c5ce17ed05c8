/-
  Package blocks: tables of lines, a step by its line, whether an operation is over, how it ended, how it begins; condition: the operation and the memory lie as they say, numbers of their kinds.
-/
import Derived.Test.YtffkjdmpeeagoaaDoorBK1
import Derived.Test.YtffkjdmpeeagoaaDoorTB5
namespace Go.Proofs.YtffkjdmpeeagoaaDoor
open Go.RowKit Go.Maps

theorem mKM_1 (q : Nat) (w : World) : (method (317) 40 (.pointer (some ⟨q, 0, none⟩)) "ragpicker/blocks.open").run Tryd.prog w = .ok (75, .pointer (some ⟨q, 0, none⟩)) w := by kernel_rfl
theorem iKM_1 (w : World) : (Instr.index 111 (.agg #[.nilFunc, .func (.methodOf 40 "ragpicker/blocks.open") #[] #[], .func (.func 73) #[] #[], .func (.func 74) #[] #[]]) (.int .i64 1)).run Tryd.prog w = .ok (.func (.methodOf 40 "ragpicker/blocks.open") #[] #[]) w := by kernel_rfl
theorem iKM_2 (w : World) : (Instr.index 111 (.agg #[.nilFunc, .func (.methodOf 40 "ragpicker/blocks.open") #[] #[], .func (.func 73) #[] #[], .func (.func 74) #[] #[]]) (.int .i64 2)).run Tryd.prog w = .ok (.func (.func 73) #[] #[]) w := by kernel_rfl
theorem iKM_3 (w : World) : (Instr.index 111 (.agg #[.nilFunc, .func (.methodOf 40 "ragpicker/blocks.open") #[] #[], .func (.func 73) #[] #[], .func (.func 74) #[] #[]]) (.int .i64 3)).run Tryd.prog w = .ok (.func (.func 74) #[] #[]) w := by kernel_rfl
theorem linesKM (w : World) : Calls Tryd.prog 47 #[] w fun e w' => e = .returned (.agg #[.nilFunc, .func (.methodOf 40 "ragpicker/blocks.open") #[] #[], .func (.func 73) #[] #[], .func (.func 74) #[] #[]]) ∧ Below w.heap.size w w' := by
  go_enter Tryd.func47, Tryd.ntmps47
  have k0 : (w.alloc (.cells #[.nilFunc, .nilFunc, .nilFunc, .nilFunc] 111)).heap[w.heap.size]? = some (.cells #[.nilFunc, .nilFunc, .nilFunc, .nilFunc] 111 (0, 0)) := alloc_blk _ _
  go_wp2_with (refine wpList_store_put rfl 111 _ _ rfl w.heap.size rfl #[.nilFunc, .func (.methodOf 40 "ragpicker/blocks.open") #[] #[], .func (.func 73) #[] #[], .func (.func 74) #[] #[]] rfl 111 _ k0 (by kernel_rfl) rfl (by decide) ?_; intro w1 hp)
  exact bodyPost_ret (results_cell Tryd.results47 _ _ _ _ _ _ _ rfl hp.at_ Tryd.underlying111 rfl (by kernel_rfl)) rfl ⟨rfl, hp.below ((Below.refl _ _).alloc (Nat.le_refl _) _) (Nat.le_refl _)⟩
theorem mKS_1 (q : Nat) (w : World) : (method (317) 44 (.pointer (some ⟨q, 0, none⟩)) "ragpicker/blocks.open").run Tryd.prog w = .ok (75, .pointer (some ⟨q, 0, none⟩)) w := by kernel_rfl
theorem iKS_1 (w : World) : (Instr.index 114 (.agg #[.nilFunc, .func (.methodOf 44 "ragpicker/blocks.open") #[] #[], .func (.func 76) #[] #[], .func (.func 77) #[] #[], .func (.func 78) #[] #[]]) (.int .i64 1)).run Tryd.prog w = .ok (.func (.methodOf 44 "ragpicker/blocks.open") #[] #[]) w := by kernel_rfl
theorem iKS_2 (w : World) : (Instr.index 114 (.agg #[.nilFunc, .func (.methodOf 44 "ragpicker/blocks.open") #[] #[], .func (.func 76) #[] #[], .func (.func 77) #[] #[], .func (.func 78) #[] #[]]) (.int .i64 2)).run Tryd.prog w = .ok (.func (.func 76) #[] #[]) w := by kernel_rfl
theorem iKS_3 (w : World) : (Instr.index 114 (.agg #[.nilFunc, .func (.methodOf 44 "ragpicker/blocks.open") #[] #[], .func (.func 76) #[] #[], .func (.func 77) #[] #[], .func (.func 78) #[] #[]]) (.int .i64 3)).run Tryd.prog w = .ok (.func (.func 77) #[] #[]) w := by kernel_rfl
theorem iKS_4 (w : World) : (Instr.index 114 (.agg #[.nilFunc, .func (.methodOf 44 "ragpicker/blocks.open") #[] #[], .func (.func 76) #[] #[], .func (.func 77) #[] #[], .func (.func 78) #[] #[]]) (.int .i64 4)).run Tryd.prog w = .ok (.func (.func 78) #[] #[]) w := by kernel_rfl
theorem linesKS (w : World) : Calls Tryd.prog 50 #[] w fun e w' => e = .returned (.agg #[.nilFunc, .func (.methodOf 44 "ragpicker/blocks.open") #[] #[], .func (.func 76) #[] #[], .func (.func 77) #[] #[], .func (.func 78) #[] #[]]) ∧ Below w.heap.size w w' := by
  go_enter Tryd.func50, Tryd.ntmps50
  have k0 : (w.alloc (.cells #[.nilFunc, .nilFunc, .nilFunc, .nilFunc, .nilFunc] 114)).heap[w.heap.size]? = some (.cells #[.nilFunc, .nilFunc, .nilFunc, .nilFunc, .nilFunc] 114 (0, 0)) := alloc_blk _ _
  go_wp2_with (refine wpList_store_put rfl 114 _ _ rfl w.heap.size rfl #[.nilFunc, .func (.methodOf 44 "ragpicker/blocks.open") #[] #[], .func (.func 76) #[] #[], .func (.func 77) #[] #[], .func (.func 78) #[] #[]] rfl 114 _ k0 (by kernel_rfl) rfl (by decide) ?_; intro w1 hp)
  exact bodyPost_ret (results_cell Tryd.results50 _ _ _ _ _ _ _ rfl hp.at_ Tryd.underlying114 rfl (by kernel_rfl)) rfl ⟨rfl, hp.below ((Below.refl _ _).alloc (Nat.le_refl _) _) (Nat.le_refl _)⟩
section
variable {p b q : Nat} {T : TypeId} {nx bs bl en n v nx' bs' bl' en' : Int} {c : Bool} {M M' : MV} {w w' X : World}
theorem overKM_nil (w : World) : Calls Tryd.prog 19 #[.pointer none] w fun e w' => e = .returned (.bool true) ∧ w' = w := by
  go_enter Tryd.func19, Tryd.ntmps19
  go_wp2_with fail
  go_ret
  exact ⟨rfl, rfl⟩
theorem overKM (k : Bq q T (KC nx bs bl en) w) : Calls Tryd.prog 19 #[.pointer (some ⟨q, 0, none⟩)] w fun e w' => e = .returned (.bool (nx == 0)) ∧ w' = w := by
  have HK := Lib.hid k
  clear k
  go_enter Tryd.func19, Tryd.ntmps19
  go_wp2_with fail
  ((with_reducible refine (overE HK.out).mono ?_); rintro ee w1 ⟨rfl, rfl⟩)
  go_wp2_with fail
  go_ret
  exact ⟨rfl, rfl⟩
theorem stepKM_nil (m : Value) (w : World) : Calls Tryd.prog 18 #[.pointer none, m] w fun e w' => e = .returned (.bool true) ∧ w' = w := by
  go_enter Tryd.func18, Tryd.ntmps18
  go_wp2_with fail
  ((with_reducible refine (overKM_nil _).mono ?_); rintro ee w1 ⟨rfl, rfl⟩)
  go_wp2_with fail
  go_ret
  exact ⟨rfl, rfl⟩
theorem stepKM_over (m : Value) (k : Bq q T (KC 0 bs bl en) w) : Calls Tryd.prog 18 #[.pointer (some ⟨q, 0, none⟩), m] w fun e w' => e = .returned (.bool true) ∧ w' = w := by
  have HK := Lib.hid k
  clear k
  go_enter Tryd.func18, Tryd.ntmps18
  go_wp2_with fail
  ((with_reducible refine (overKM HK.out).mono ?_); rintro ee w1 ⟨rfl, rfl⟩)
  go_wp2_with fail
  go_ret
  exact ⟨rfl, rfl⟩
set_option maxRecDepth 100000 in
set_option maxHeartbeats 4000000 in
theorem stepKM_1 (hq : 1 < q) (k : Bq q 57 (KC 1 bs bl en) w) (hl : ∀ X, Below w.heap.size w X → Calls Tryd.prog 75 #[.pointer (some ⟨q, 0, none⟩), .pointer (some ⟨p, 0, none⟩)] X fun e Y => e = .returned (.int .i64 n) ∧ AtB p b q 57 1 bs' bl' en' M' X Y) :
    Calls Tryd.prog 18 #[.pointer (some ⟨q, 0, none⟩), .pointer (some ⟨p, 0, none⟩)] w fun e w' => e = .returned (.bool (n == 0)) ∧ AtB p b q 57 n bs' bl' en' M' w w' := by
  have HK := Lib.hid k
  have HL := Lib.hid hl
  have c0 := k.kc.1
  have hm := mKM_1 q
  have hi := iKM_1
  clear k hl
  go_enter Tryd.func18, Tryd.ntmps18
  go_wp2_with (go_at_call 19; refine (overKM HK.out).mono ?_; rintro ee w ⟨rfl, rfl⟩)
  go_region_with (first
    | (go_at_call 47; refine (linesKM _).mono ?_; rintro ee wA ⟨rfl, hA⟩; have HA := Lib.hid (show Below w.heap.size w wA from ((Below.refl _ w).drew).trans hA); have cA := (HK.out.below HA.out).kc.1; clear hA)
    | (go_at_call 75; refine (HL.out wA HA.out).mono ?_; rintro ee wB ⟨rfl, aB⟩; have cB := aB.k.kc.1; have zB := aB.k.free 0; have HAB := Lib.hid aB; clear aB))
  all_goals
    have HAC := Lib.hid (HAB.out.set (nx' := n) (bs' := bs') (bl' := bl') (en' := en') (by decide) hq 0 (.int .i64 n) rfl)
    go_wp2_with (go_at_call 48; refine (overE HAC.out.k).mono ?_; rintro ee w ⟨rfl, rfl⟩)
    go_ret
    exact ⟨rfl, HAC.out.trans (.of_below HA.out)⟩
set_option maxRecDepth 100000 in
set_option maxHeartbeats 4000000 in
theorem stepKM_2 (hq : 1 < q) (k : Bq q 57 (KC 2 bs bl en) w) (hl : ∀ X, Below w.heap.size w X → Calls Tryd.prog 73 #[.pointer (some ⟨q, 0, none⟩), .pointer (some ⟨p, 0, none⟩)] X fun e Y => e = .returned (.int .i64 n) ∧ AtB p b q 57 2 bs' bl' en' M' X Y) :
    Calls Tryd.prog 18 #[.pointer (some ⟨q, 0, none⟩), .pointer (some ⟨p, 0, none⟩)] w fun e w' => e = .returned (.bool (n == 0)) ∧ AtB p b q 57 n bs' bl' en' M' w w' := by
  have HK := Lib.hid k
  have HL := Lib.hid hl
  have c0 := k.kc.1
  have hi := iKM_2
  clear k hl
  go_enter Tryd.func18, Tryd.ntmps18
  go_wp2_with (go_at_call 19; refine (overKM HK.out).mono ?_; rintro ee w ⟨rfl, rfl⟩)
  go_region_with (first
    | (go_at_call 47; refine (linesKM _).mono ?_; rintro ee wA ⟨rfl, hA⟩; have HA := Lib.hid (show Below w.heap.size w wA from ((Below.refl _ w).drew).trans hA); have cA := (HK.out.below HA.out).kc.1; clear hA)
    | (go_at_call 73; refine (HL.out wA HA.out).mono ?_; rintro ee wB ⟨rfl, aB⟩; have cB := aB.k.kc.1; have zB := aB.k.free 0; have HAB := Lib.hid aB; clear aB))
  all_goals
    have HAC := Lib.hid (HAB.out.set (nx' := n) (bs' := bs') (bl' := bl') (en' := en') (by decide) hq 0 (.int .i64 n) rfl)
    go_wp2_with (go_at_call 48; refine (overE HAC.out.k).mono ?_; rintro ee w ⟨rfl, rfl⟩)
    go_ret
    exact ⟨rfl, HAC.out.trans (.of_below HA.out)⟩
set_option maxRecDepth 100000 in
set_option maxHeartbeats 4000000 in
theorem stepKM_3 (hq : 1 < q) (k : Bq q 57 (KC 3 bs bl en) w) (hl : ∀ X, Below w.heap.size w X → Calls Tryd.prog 74 #[.pointer (some ⟨q, 0, none⟩), .pointer (some ⟨p, 0, none⟩)] X fun e Y => e = .returned (.int .i64 n) ∧ AtB p b q 57 3 bs' bl' en' M' X Y) :
    Calls Tryd.prog 18 #[.pointer (some ⟨q, 0, none⟩), .pointer (some ⟨p, 0, none⟩)] w fun e w' => e = .returned (.bool (n == 0)) ∧ AtB p b q 57 n bs' bl' en' M' w w' := by
  have HK := Lib.hid k
  have HL := Lib.hid hl
  have c0 := k.kc.1
  have hi := iKM_3
  clear k hl
  go_enter Tryd.func18, Tryd.ntmps18
  go_wp2_with (go_at_call 19; refine (overKM HK.out).mono ?_; rintro ee w ⟨rfl, rfl⟩)
  go_region_with (first
    | (go_at_call 47; refine (linesKM _).mono ?_; rintro ee wA ⟨rfl, hA⟩; have HA := Lib.hid (show Below w.heap.size w wA from ((Below.refl _ w).drew).trans hA); have cA := (HK.out.below HA.out).kc.1; clear hA)
    | (go_at_call 74; refine (HL.out wA HA.out).mono ?_; rintro ee wB ⟨rfl, aB⟩; have cB := aB.k.kc.1; have zB := aB.k.free 0; have HAB := Lib.hid aB; clear aB))
  all_goals
    have HAC := Lib.hid (HAB.out.set (nx' := n) (bs' := bs') (bl' := bl') (en' := en') (by decide) hq 0 (.int .i64 n) rfl)
    go_wp2_with (go_at_call 48; refine (overE HAC.out.k).mono ?_; rintro ee w ⟨rfl, rfl⟩)
    go_ret
    exact ⟨rfl, HAC.out.trans (.of_below HA.out)⟩
theorem gotKM_nil (w : World) : Calls Tryd.prog 20 #[.pointer none] w fun e w' => e = .returned (.int .i64 0) ∧ w' = w := by
  go_enter Tryd.func20, Tryd.ntmps20
  go_wp2_with fail
  go_ret
  exact ⟨rfl, rfl⟩
theorem gotKM (k : Bq q T (KC nx bs bl en) w) : Calls Tryd.prog 20 #[.pointer (some ⟨q, 0, none⟩)] w fun e w' => e = .returned (.int .i64 (gotE nx en)) ∧ w' = w := by
  have HK := Lib.hid k
  clear k
  go_enter Tryd.func20, Tryd.ntmps20
  go_wp2_with fail
  ((with_reducible refine (gotEd HK.out).mono ?_); rintro ee w1 ⟨rfl, rfl⟩)
  go_wp2_with fail
  go_ret
  exact ⟨rfl, rfl⟩
theorem newMore_raw (w : World) : Calls Tryd.prog 10 #[] w fun e w' => ∃ q, e = .returned (.pointer (some ⟨q, 0, none⟩)) ∧ w.heap.size ≤ q ∧ Bq q 57 (KC 2 0 0 0) w' ∧ Below w.heap.size w w' := by
  go_enter Tryd.func10, Tryd.ntmps10
  go_wp2
  go_ret
  exact ⟨w.heap.size, rfl, Nat.le_refl _, Bq.new w (KC 2 0 0 0) _, (Below.refl _ _).alloc (Nat.le_refl _) _⟩
theorem overKS_nil (w : World) : Calls Tryd.prog 22 #[.pointer none] w fun e w' => e = .returned (.bool true) ∧ w' = w := by
  go_enter Tryd.func22, Tryd.ntmps22
  go_wp2_with fail
  go_ret
  exact ⟨rfl, rfl⟩
theorem overKS (k : Bq q T (KC nx bs bl en) w) : Calls Tryd.prog 22 #[.pointer (some ⟨q, 0, none⟩)] w fun e w' => e = .returned (.bool (nx == 0)) ∧ w' = w := by
  have HK := Lib.hid k
  clear k
  go_enter Tryd.func22, Tryd.ntmps22
  go_wp2_with fail
  ((with_reducible refine (overE HK.out).mono ?_); rintro ee w1 ⟨rfl, rfl⟩)
  go_wp2_with fail
  go_ret
  exact ⟨rfl, rfl⟩
theorem stepKS_nil (m : Value) (w : World) : Calls Tryd.prog 21 #[.pointer none, m] w fun e w' => e = .returned (.bool true) ∧ w' = w := by
  go_enter Tryd.func21, Tryd.ntmps21
  go_wp2_with fail
  ((with_reducible refine (overKS_nil _).mono ?_); rintro ee w1 ⟨rfl, rfl⟩)
  go_wp2_with fail
  go_ret
  exact ⟨rfl, rfl⟩
theorem stepKS_over (m : Value) (k : Bq q T (KC 0 bs bl en) w) : Calls Tryd.prog 21 #[.pointer (some ⟨q, 0, none⟩), m] w fun e w' => e = .returned (.bool true) ∧ w' = w := by
  have HK := Lib.hid k
  clear k
  go_enter Tryd.func21, Tryd.ntmps21
  go_wp2_with fail
  ((with_reducible refine (overKS HK.out).mono ?_); rintro ee w1 ⟨rfl, rfl⟩)
  go_wp2_with fail
  go_ret
  exact ⟨rfl, rfl⟩
set_option maxRecDepth 100000 in
set_option maxHeartbeats 4000000 in
theorem stepKS_1 (hq : 1 < q) (k : Bq q 58 (KC 1 bs bl en) w) (hl : ∀ X, Below w.heap.size w X → Calls Tryd.prog 75 #[.pointer (some ⟨q, 0, none⟩), .pointer (some ⟨p, 0, none⟩)] X fun e Y => e = .returned (.int .i64 n) ∧ AtB p b q 58 1 bs' bl' en' M' X Y) :
    Calls Tryd.prog 21 #[.pointer (some ⟨q, 0, none⟩), .pointer (some ⟨p, 0, none⟩)] w fun e w' => e = .returned (.bool (n == 0)) ∧ AtB p b q 58 n bs' bl' en' M' w w' := by
  have HK := Lib.hid k
  have HL := Lib.hid hl
  have c0 := k.kc.1
  have hm := mKS_1 q
  have hi := iKS_1
  clear k hl
  go_enter Tryd.func21, Tryd.ntmps21
  go_wp2_with (go_at_call 22; refine (overKS HK.out).mono ?_; rintro ee w ⟨rfl, rfl⟩)
  go_region_with (first
    | (go_at_call 50; refine (linesKS _).mono ?_; rintro ee wA ⟨rfl, hA⟩; have HA := Lib.hid (show Below w.heap.size w wA from ((Below.refl _ w).drew).trans hA); have cA := (HK.out.below HA.out).kc.1; clear hA)
    | (go_at_call 75; refine (HL.out wA HA.out).mono ?_; rintro ee wB ⟨rfl, aB⟩; have cB := aB.k.kc.1; have zB := aB.k.free 0; have HAB := Lib.hid aB; clear aB))
  all_goals
    have HAC := Lib.hid (HAB.out.set (nx' := n) (bs' := bs') (bl' := bl') (en' := en') (by decide) hq 0 (.int .i64 n) rfl)
    go_wp2_with (go_at_call 48; refine (overE HAC.out.k).mono ?_; rintro ee w ⟨rfl, rfl⟩)
    go_ret
    exact ⟨rfl, HAC.out.trans (.of_below HA.out)⟩
set_option maxRecDepth 100000 in
set_option maxHeartbeats 4000000 in
theorem stepKS_2 (hq : 1 < q) (k : Bq q 58 (KC 2 bs bl en) w) (hl : ∀ X, Below w.heap.size w X → Calls Tryd.prog 76 #[.pointer (some ⟨q, 0, none⟩), .pointer (some ⟨p, 0, none⟩)] X fun e Y => e = .returned (.int .i64 n) ∧ AtB p b q 58 2 bs' bl' en' M' X Y) :
    Calls Tryd.prog 21 #[.pointer (some ⟨q, 0, none⟩), .pointer (some ⟨p, 0, none⟩)] w fun e w' => e = .returned (.bool (n == 0)) ∧ AtB p b q 58 n bs' bl' en' M' w w' := by
  have HK := Lib.hid k
  have HL := Lib.hid hl
  have c0 := k.kc.1
  have hi := iKS_2
  clear k hl
  go_enter Tryd.func21, Tryd.ntmps21
  go_wp2_with (go_at_call 22; refine (overKS HK.out).mono ?_; rintro ee w ⟨rfl, rfl⟩)
  go_region_with (first
    | (go_at_call 50; refine (linesKS _).mono ?_; rintro ee wA ⟨rfl, hA⟩; have HA := Lib.hid (show Below w.heap.size w wA from ((Below.refl _ w).drew).trans hA); have cA := (HK.out.below HA.out).kc.1; clear hA)
    | (go_at_call 76; refine (HL.out wA HA.out).mono ?_; rintro ee wB ⟨rfl, aB⟩; have cB := aB.k.kc.1; have zB := aB.k.free 0; have HAB := Lib.hid aB; clear aB))
  all_goals
    have HAC := Lib.hid (HAB.out.set (nx' := n) (bs' := bs') (bl' := bl') (en' := en') (by decide) hq 0 (.int .i64 n) rfl)
    go_wp2_with (go_at_call 48; refine (overE HAC.out.k).mono ?_; rintro ee w ⟨rfl, rfl⟩)
    go_ret
    exact ⟨rfl, HAC.out.trans (.of_below HA.out)⟩
set_option maxRecDepth 100000 in
set_option maxHeartbeats 4000000 in
theorem stepKS_3 (hq : 1 < q) (k : Bq q 58 (KC 3 bs bl en) w) (hl : ∀ X, Below w.heap.size w X → Calls Tryd.prog 77 #[.pointer (some ⟨q, 0, none⟩), .pointer (some ⟨p, 0, none⟩)] X fun e Y => e = .returned (.int .i64 n) ∧ AtB p b q 58 3 bs' bl' en' M' X Y) :
    Calls Tryd.prog 21 #[.pointer (some ⟨q, 0, none⟩), .pointer (some ⟨p, 0, none⟩)] w fun e w' => e = .returned (.bool (n == 0)) ∧ AtB p b q 58 n bs' bl' en' M' w w' := by
  have HK := Lib.hid k
  have HL := Lib.hid hl
  have c0 := k.kc.1
  have hi := iKS_3
  clear k hl
  go_enter Tryd.func21, Tryd.ntmps21
  go_wp2_with (go_at_call 22; refine (overKS HK.out).mono ?_; rintro ee w ⟨rfl, rfl⟩)
  go_region_with (first
    | (go_at_call 50; refine (linesKS _).mono ?_; rintro ee wA ⟨rfl, hA⟩; have HA := Lib.hid (show Below w.heap.size w wA from ((Below.refl _ w).drew).trans hA); have cA := (HK.out.below HA.out).kc.1; clear hA)
    | (go_at_call 77; refine (HL.out wA HA.out).mono ?_; rintro ee wB ⟨rfl, aB⟩; have cB := aB.k.kc.1; have zB := aB.k.free 0; have HAB := Lib.hid aB; clear aB))
  all_goals
    have HAC := Lib.hid (HAB.out.set (nx' := n) (bs' := bs') (bl' := bl') (en' := en') (by decide) hq 0 (.int .i64 n) rfl)
    go_wp2_with (go_at_call 48; refine (overE HAC.out.k).mono ?_; rintro ee w ⟨rfl, rfl⟩)
    go_ret
    exact ⟨rfl, HAC.out.trans (.of_below HA.out)⟩
set_option maxRecDepth 100000 in
set_option maxHeartbeats 4000000 in
theorem stepKS_4 (hq : 1 < q) (k : Bq q 58 (KC 4 bs bl en) w) (hl : ∀ X, Below w.heap.size w X → Calls Tryd.prog 78 #[.pointer (some ⟨q, 0, none⟩), .pointer (some ⟨p, 0, none⟩)] X fun e Y => e = .returned (.int .i64 n) ∧ AtB p b q 58 4 bs' bl' en' M' X Y) :
    Calls Tryd.prog 21 #[.pointer (some ⟨q, 0, none⟩), .pointer (some ⟨p, 0, none⟩)] w fun e w' => e = .returned (.bool (n == 0)) ∧ AtB p b q 58 n bs' bl' en' M' w w' := by
  have HK := Lib.hid k
  have HL := Lib.hid hl
  have c0 := k.kc.1
  have hi := iKS_4
  clear k hl
  go_enter Tryd.func21, Tryd.ntmps21
  go_wp2_with (go_at_call 22; refine (overKS HK.out).mono ?_; rintro ee w ⟨rfl, rfl⟩)
  go_region_with (first
    | (go_at_call 50; refine (linesKS _).mono ?_; rintro ee wA ⟨rfl, hA⟩; have HA := Lib.hid (show Below w.heap.size w wA from ((Below.refl _ w).drew).trans hA); have cA := (HK.out.below HA.out).kc.1; clear hA)
    | (go_at_call 78; refine (HL.out wA HA.out).mono ?_; rintro ee wB ⟨rfl, aB⟩; have cB := aB.k.kc.1; have zB := aB.k.free 0; have HAB := Lib.hid aB; clear aB))
  all_goals
    have HAC := Lib.hid (HAB.out.set (nx' := n) (bs' := bs') (bl' := bl') (en' := en') (by decide) hq 0 (.int .i64 n) rfl)
    go_wp2_with (go_at_call 48; refine (overE HAC.out.k).mono ?_; rintro ee w ⟨rfl, rfl⟩)
    go_ret
    exact ⟨rfl, HAC.out.trans (.of_below HA.out)⟩
theorem gotKS_nil (w : World) : Calls Tryd.prog 23 #[.pointer none] w fun e w' => e = .returned (.int .i64 0) ∧ w' = w := by
  go_enter Tryd.func23, Tryd.ntmps23
  go_wp2_with fail
  go_ret
  exact ⟨rfl, rfl⟩
theorem gotKS (k : Bq q T (KC nx bs bl en) w) : Calls Tryd.prog 23 #[.pointer (some ⟨q, 0, none⟩)] w fun e w' => e = .returned (.int .i64 (gotE nx en)) ∧ w' = w := by
  have HK := Lib.hid k
  clear k
  go_enter Tryd.func23, Tryd.ntmps23
  go_wp2_with fail
  ((with_reducible refine (gotEd HK.out).mono ?_); rintro ee w1 ⟨rfl, rfl⟩)
  go_wp2_with fail
  go_ret
  exact ⟨rfl, rfl⟩
theorem newLess_raw (w : World) : Calls Tryd.prog 12 #[] w fun e w' => ∃ q, e = .returned (.pointer (some ⟨q, 0, none⟩)) ∧ w.heap.size ≤ q ∧ Bq q 58 (KC 2 0 0 0) w' ∧ Below w.heap.size w w' := by
  go_enter Tryd.func12, Tryd.ntmps12
  go_wp2
  go_ret
  exact ⟨w.heap.size, rfl, Nat.le_refl _, Bq.new w (KC 2 0 0 0) _, (Below.refl _ _).alloc (Nat.le_refl _) _⟩
end
end Go.Proofs.YtffkjdmpeeagoaaDoor
