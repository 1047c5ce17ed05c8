/-
  Package blocks: tables of lines, a step by its line, whether an operation is over, how it ended, how it begins; condition: the operation and the memory lie as they say, numbers of their kinds.
  Package blocks: a step of a More and of a Less does what the chapter's does; new ones, whether one is over, how it ended; condition: the operation and the memory lie as they say, numbers of their kinds.
-/
import Derived.Test.YtffkjdmpeeagoaaDoorBK0
import Derived.Test.YtffkjdmpeeagoaaDoorTB5
namespace Go.Proofs.YtffkjdmpeeagoaaDoor
open Go.RowKit Go.Maps

theorem mKM_1 (q : Nat) (w : World) : (method (317) 40 (.pointer (some ⟨q, 0, none⟩)) "ragpicker/blocks.open").run Tryd.prog w = .ok (75, .pointer (some ⟨q, 0, none⟩)) w := by kernel_rfl
theorem iKM_1 (w : World) : (Instr.index 111 (.agg #[.nilFunc, .func (.methodOf 40 "ragpicker/blocks.open") #[] #[], .func (.func 73) #[] #[], .func (.func 74) #[] #[]]) (.int .i64 1)).run Tryd.prog w = .ok (.func (.methodOf 40 "ragpicker/blocks.open") #[] #[]) w := by kernel_rfl
theorem iKM_2 (w : World) : (Instr.index 111 (.agg #[.nilFunc, .func (.methodOf 40 "ragpicker/blocks.open") #[] #[], .func (.func 73) #[] #[], .func (.func 74) #[] #[]]) (.int .i64 2)).run Tryd.prog w = .ok (.func (.func 73) #[] #[]) w := by kernel_rfl
theorem iKM_3 (w : World) : (Instr.index 111 (.agg #[.nilFunc, .func (.methodOf 40 "ragpicker/blocks.open") #[] #[], .func (.func 73) #[] #[], .func (.func 74) #[] #[]]) (.int .i64 3)).run Tryd.prog w = .ok (.func (.func 74) #[] #[]) w := by kernel_rfl
theorem linesKM (w : World) : Calls Tryd.prog 47 #[] w fun e w' => e = .returned (.agg #[.nilFunc, .func (.methodOf 40 "ragpicker/blocks.open") #[] #[], .func (.func 73) #[] #[], .func (.func 74) #[] #[]]) ∧ Below w.heap.size w w' := by
  go_enter Tryd.func47, Tryd.ntmps47
  have k0 : (w.alloc (.cells #[.nilFunc, .nilFunc, .nilFunc, .nilFunc] 111)).heap[w.heap.size]? = some (.cells #[.nilFunc, .nilFunc, .nilFunc, .nilFunc] 111 (0, 0)) := alloc_blk _ _
  go_wp2_with (refine wpList_store_put rfl 111 _ _ rfl w.heap.size rfl #[.nilFunc, .func (.methodOf 40 "ragpicker/blocks.open") #[] #[], .func (.func 73) #[] #[], .func (.func 74) #[] #[]] rfl 111 _ k0 (by kernel_rfl) rfl (by decide) ?_; intro w1 hp)
  exact bodyPost_ret (results_cell Tryd.results47 _ _ _ _ _ _ _ rfl hp.at_ Tryd.underlying111 rfl (by kernel_rfl)) rfl ⟨rfl, hp.below ((Below.refl _ _).alloc (Nat.le_refl _) _) (Nat.le_refl _)⟩
theorem mKS_1 (q : Nat) (w : World) : (method (317) 44 (.pointer (some ⟨q, 0, none⟩)) "ragpicker/blocks.open").run Tryd.prog w = .ok (75, .pointer (some ⟨q, 0, none⟩)) w := by kernel_rfl
theorem iKS_1 (w : World) : (Instr.index 114 (.agg #[.nilFunc, .func (.methodOf 44 "ragpicker/blocks.open") #[] #[], .func (.func 76) #[] #[], .func (.func 77) #[] #[], .func (.func 78) #[] #[]]) (.int .i64 1)).run Tryd.prog w = .ok (.func (.methodOf 44 "ragpicker/blocks.open") #[] #[]) w := by kernel_rfl
theorem iKS_2 (w : World) : (Instr.index 114 (.agg #[.nilFunc, .func (.methodOf 44 "ragpicker/blocks.open") #[] #[], .func (.func 76) #[] #[], .func (.func 77) #[] #[], .func (.func 78) #[] #[]]) (.int .i64 2)).run Tryd.prog w = .ok (.func (.func 76) #[] #[]) w := by kernel_rfl
theorem iKS_3 (w : World) : (Instr.index 114 (.agg #[.nilFunc, .func (.methodOf 44 "ragpicker/blocks.open") #[] #[], .func (.func 76) #[] #[], .func (.func 77) #[] #[], .func (.func 78) #[] #[]]) (.int .i64 3)).run Tryd.prog w = .ok (.func (.func 77) #[] #[]) w := by kernel_rfl
theorem iKS_4 (w : World) : (Instr.index 114 (.agg #[.nilFunc, .func (.methodOf 44 "ragpicker/blocks.open") #[] #[], .func (.func 76) #[] #[], .func (.func 77) #[] #[], .func (.func 78) #[] #[]]) (.int .i64 4)).run Tryd.prog w = .ok (.func (.func 78) #[] #[]) w := by kernel_rfl
theorem linesKS (w : World) : Calls Tryd.prog 50 #[] w fun e w' => e = .returned (.agg #[.nilFunc, .func (.methodOf 44 "ragpicker/blocks.open") #[] #[], .func (.func 76) #[] #[], .func (.func 77) #[] #[], .func (.func 78) #[] #[]]) ∧ Below w.heap.size w w' := by
  go_enter Tryd.func50, Tryd.ntmps50
  have k0 : (w.alloc (.cells #[.nilFunc, .nilFunc, .nilFunc, .nilFunc, .nilFunc] 114)).heap[w.heap.size]? = some (.cells #[.nilFunc, .nilFunc, .nilFunc, .nilFunc, .nilFunc] 114 (0, 0)) := alloc_blk _ _
  go_wp2_with (refine wpList_store_put rfl 114 _ _ rfl w.heap.size rfl #[.nilFunc, .func (.methodOf 44 "ragpicker/blocks.open") #[] #[], .func (.func 76) #[] #[], .func (.func 77) #[] #[], .func (.func 78) #[] #[]] rfl 114 _ k0 (by kernel_rfl) rfl (by decide) ?_; intro w1 hp)
  exact bodyPost_ret (results_cell Tryd.results50 _ _ _ _ _ _ _ rfl hp.at_ Tryd.underlying114 rfl (by kernel_rfl)) rfl ⟨rfl, hp.below ((Below.refl _ _).alloc (Nat.le_refl _) _) (Nat.le_refl _)⟩
section
variable {p b q : Nat} {T : TypeId} {nx bs bl en n v nx' bs' bl' en' : Int} {c : Bool} {M M' : MV} {w w' X : World}
theorem overKM_nil (w : World) : Calls Tryd.prog 19 #[.pointer none] w fun e w' => e = .returned (.bool true) ∧ w' = w := by
  go_enter Tryd.func19, Tryd.ntmps19
  go_wp2_with fail
  go_ret
  exact ⟨rfl, rfl⟩
theorem overKM (k : Bq q T (KC nx bs bl en) w) : Calls Tryd.prog 19 #[.pointer (some ⟨q, 0, none⟩)] w fun e w' => e = .returned (.bool (nx == 0)) ∧ w' = w := by
  have HK := Lib.hid k
  clear k
  go_enter Tryd.func19, Tryd.ntmps19
  go_wp2_with fail
  ((with_reducible refine (overE HK.out).mono ?_); rintro ee w1 ⟨rfl, rfl⟩)
  go_wp2_with fail
  go_ret
  exact ⟨rfl, rfl⟩
theorem stepKM_nil (m : Value) (w : World) : Calls Tryd.prog 18 #[.pointer none, m] w fun e w' => e = .returned (.bool true) ∧ w' = w := by
  go_enter Tryd.func18, Tryd.ntmps18
  go_wp2_with fail
  ((with_reducible refine (overKM_nil _).mono ?_); rintro ee w1 ⟨rfl, rfl⟩)
  go_wp2_with fail
  go_ret
  exact ⟨rfl, rfl⟩
theorem stepKM_over (m : Value) (k : Bq q T (KC 0 bs bl en) w) : Calls Tryd.prog 18 #[.pointer (some ⟨q, 0, none⟩), m] w fun e w' => e = .returned (.bool true) ∧ w' = w := by
  have HK := Lib.hid k
  clear k
  go_enter Tryd.func18, Tryd.ntmps18
  go_wp2_with fail
  ((with_reducible refine (overKM HK.out).mono ?_); rintro ee w1 ⟨rfl, rfl⟩)
  go_wp2_with fail
  go_ret
  exact ⟨rfl, rfl⟩
set_option maxRecDepth 100000 in
set_option maxHeartbeats 4000000 in
theorem stepKM_1 (hq : 1 < q) (k : Bq q 57 (KC 1 bs bl en) w) (hl : ∀ X, Below w.heap.size w X → Calls Tryd.prog 75 #[.pointer (some ⟨q, 0, none⟩), .pointer (some ⟨p, 0, none⟩)] X fun e Y => e = .returned (.int .i64 n) ∧ AtB p b q 57 1 bs' bl' en' M' X Y) :
    Calls Tryd.prog 18 #[.pointer (some ⟨q, 0, none⟩), .pointer (some ⟨p, 0, none⟩)] w fun e w' => e = .returned (.bool (n == 0)) ∧ AtB p b q 57 n bs' bl' en' M' w w' := by
  have HK := Lib.hid k
  have HL := Lib.hid hl
  have c0 := k.kc.1
  have hm := mKM_1 q
  have hi := iKM_1
  clear k hl
  go_enter Tryd.func18, Tryd.ntmps18
  go_wp2_with (go_at_call 19; refine (overKM HK.out).mono ?_; rintro ee w ⟨rfl, rfl⟩)
  go_region_with (first
    | (go_at_call 47; refine (linesKM _).mono ?_; rintro ee wA ⟨rfl, hA⟩; have HA := Lib.hid (show Below w.heap.size w wA from ((Below.refl _ w).drew).trans hA); have cA := (HK.out.below HA.out).kc.1; clear hA)
    | (go_at_call 75; refine (HL.out wA HA.out).mono ?_; rintro ee wB ⟨rfl, aB⟩; have cB := aB.k.kc.1; have zB := aB.k.free 0; have HAB := Lib.hid aB; clear aB))
  all_goals
    have HAC := Lib.hid (HAB.out.set (nx' := n) (bs' := bs') (bl' := bl') (en' := en') (by decide) hq 0 (.int .i64 n) rfl)
    go_wp2_with (go_at_call 48; refine (overE HAC.out.k).mono ?_; rintro ee w ⟨rfl, rfl⟩)
    go_ret
    exact ⟨rfl, HAC.out.trans (.of_below HA.out)⟩
set_option maxRecDepth 100000 in
set_option maxHeartbeats 4000000 in
theorem stepKM_2 (hq : 1 < q) (k : Bq q 57 (KC 2 bs bl en) w) (hl : ∀ X, Below w.heap.size w X → Calls Tryd.prog 73 #[.pointer (some ⟨q, 0, none⟩), .pointer (some ⟨p, 0, none⟩)] X fun e Y => e = .returned (.int .i64 n) ∧ AtB p b q 57 2 bs' bl' en' M' X Y) :
    Calls Tryd.prog 18 #[.pointer (some ⟨q, 0, none⟩), .pointer (some ⟨p, 0, none⟩)] w fun e w' => e = .returned (.bool (n == 0)) ∧ AtB p b q 57 n bs' bl' en' M' w w' := by
  have HK := Lib.hid k
  have HL := Lib.hid hl
  have c0 := k.kc.1
  have hi := iKM_2
  clear k hl
  go_enter Tryd.func18, Tryd.ntmps18
  go_wp2_with (go_at_call 19; refine (overKM HK.out).mono ?_; rintro ee w ⟨rfl, rfl⟩)
  go_region_with (first
    | (go_at_call 47; refine (linesKM _).mono ?_; rintro ee wA ⟨rfl, hA⟩; have HA := Lib.hid (show Below w.heap.size w wA from ((Below.refl _ w).drew).trans hA); have cA := (HK.out.below HA.out).kc.1; clear hA)
    | (go_at_call 73; refine (HL.out wA HA.out).mono ?_; rintro ee wB ⟨rfl, aB⟩; have cB := aB.k.kc.1; have zB := aB.k.free 0; have HAB := Lib.hid aB; clear aB))
  all_goals
    have HAC := Lib.hid (HAB.out.set (nx' := n) (bs' := bs') (bl' := bl') (en' := en') (by decide) hq 0 (.int .i64 n) rfl)
    go_wp2_with (go_at_call 48; refine (overE HAC.out.k).mono ?_; rintro ee w ⟨rfl, rfl⟩)
    go_ret
    exact ⟨rfl, HAC.out.trans (.of_below HA.out)⟩
set_option maxRecDepth 100000 in
set_option maxHeartbeats 4000000 in
theorem stepKM_3 (hq : 1 < q) (k : Bq q 57 (KC 3 bs bl en) w) (hl : ∀ X, Below w.heap.size w X → Calls Tryd.prog 74 #[.pointer (some ⟨q, 0, none⟩), .pointer (some ⟨p, 0, none⟩)] X fun e Y => e = .returned (.int .i64 n) ∧ AtB p b q 57 3 bs' bl' en' M' X Y) :
    Calls Tryd.prog 18 #[.pointer (some ⟨q, 0, none⟩), .pointer (some ⟨p, 0, none⟩)] w fun e w' => e = .returned (.bool (n == 0)) ∧ AtB p b q 57 n bs' bl' en' M' w w' := by
  have HK := Lib.hid k
  have HL := Lib.hid hl
  have c0 := k.kc.1
  have hi := iKM_3
  clear k hl
  go_enter Tryd.func18, Tryd.ntmps18
  go_wp2_with (go_at_call 19; refine (overKM HK.out).mono ?_; rintro ee w ⟨rfl, rfl⟩)
  go_region_with (first
    | (go_at_call 47; refine (linesKM _).mono ?_; rintro ee wA ⟨rfl, hA⟩; have HA := Lib.hid (show Below w.heap.size w wA from ((Below.refl _ w).drew).trans hA); have cA := (HK.out.below HA.out).kc.1; clear hA)
    | (go_at_call 74; refine (HL.out wA HA.out).mono ?_; rintro ee wB ⟨rfl, aB⟩; have cB := aB.k.kc.1; have zB := aB.k.free 0; have HAB := Lib.hid aB; clear aB))
  all_goals
    have HAC := Lib.hid (HAB.out.set (nx' := n) (bs' := bs') (bl' := bl') (en' := en') (by decide) hq 0 (.int .i64 n) rfl)
    go_wp2_with (go_at_call 48; refine (overE HAC.out.k).mono ?_; rintro ee w ⟨rfl, rfl⟩)
    go_ret
    exact ⟨rfl, HAC.out.trans (.of_below HA.out)⟩
theorem gotKM_nil (w : World) : Calls Tryd.prog 20 #[.pointer none] w fun e w' => e = .returned (.int .i64 0) ∧ w' = w := by
  go_enter Tryd.func20, Tryd.ntmps20
  go_wp2_with fail
  go_ret
  exact ⟨rfl, rfl⟩
theorem gotKM (k : Bq q T (KC nx bs bl en) w) : Calls Tryd.prog 20 #[.pointer (some ⟨q, 0, none⟩)] w fun e w' => e = .returned (.int .i64 (gotE nx en)) ∧ w' = w := by
  have HK := Lib.hid k
  clear k
  go_enter Tryd.func20, Tryd.ntmps20
  go_wp2_with fail
  ((with_reducible refine (gotEd HK.out).mono ?_); rintro ee w1 ⟨rfl, rfl⟩)
  go_wp2_with fail
  go_ret
  exact ⟨rfl, rfl⟩
theorem newMore_raw (w : World) : Calls Tryd.prog 10 #[] w fun e w' => ∃ q, e = .returned (.pointer (some ⟨q, 0, none⟩)) ∧ w.heap.size ≤ q ∧ Bq q 57 (KC 2 0 0 0) w' ∧ Below w.heap.size w w' := by
  go_enter Tryd.func10, Tryd.ntmps10
  go_wp2
  go_ret
  exact ⟨w.heap.size, rfl, Nat.le_refl _, Bq.new w (KC 2 0 0 0) _, (Below.refl _ _).alloc (Nat.le_refl _) _⟩
theorem overKS_nil (w : World) : Calls Tryd.prog 22 #[.pointer none] w fun e w' => e = .returned (.bool true) ∧ w' = w := by
  go_enter Tryd.func22, Tryd.ntmps22
  go_wp2_with fail
  go_ret
  exact ⟨rfl, rfl⟩
theorem overKS (k : Bq q T (KC nx bs bl en) w) : Calls Tryd.prog 22 #[.pointer (some ⟨q, 0, none⟩)] w fun e w' => e = .returned (.bool (nx == 0)) ∧ w' = w := by
  have HK := Lib.hid k
  clear k
  go_enter Tryd.func22, Tryd.ntmps22
  go_wp2_with fail
  ((with_reducible refine (overE HK.out).mono ?_); rintro ee w1 ⟨rfl, rfl⟩)
  go_wp2_with fail
  go_ret
  exact ⟨rfl, rfl⟩
theorem stepKS_nil (m : Value) (w : World) : Calls Tryd.prog 21 #[.pointer none, m] w fun e w' => e = .returned (.bool true) ∧ w' = w := by
  go_enter Tryd.func21, Tryd.ntmps21
  go_wp2_with fail
  ((with_reducible refine (overKS_nil _).mono ?_); rintro ee w1 ⟨rfl, rfl⟩)
  go_wp2_with fail
  go_ret
  exact ⟨rfl, rfl⟩
theorem stepKS_over (m : Value) (k : Bq q T (KC 0 bs bl en) w) : Calls Tryd.prog 21 #[.pointer (some ⟨q, 0, none⟩), m] w fun e w' => e = .returned (.bool true) ∧ w' = w := by
  have HK := Lib.hid k
  clear k
  go_enter Tryd.func21, Tryd.ntmps21
  go_wp2_with fail
  ((with_reducible refine (overKS HK.out).mono ?_); rintro ee w1 ⟨rfl, rfl⟩)
  go_wp2_with fail
  go_ret
  exact ⟨rfl, rfl⟩
set_option maxRecDepth 100000 in
set_option maxHeartbeats 4000000 in
theorem stepKS_1 (hq : 1 < q) (k : Bq q 58 (KC 1 bs bl en) w) (hl : ∀ X, Below w.heap.size w X → Calls Tryd.prog 75 #[.pointer (some ⟨q, 0, none⟩), .pointer (some ⟨p, 0, none⟩)] X fun e Y => e = .returned (.int .i64 n) ∧ AtB p b q 58 1 bs' bl' en' M' X Y) :
    Calls Tryd.prog 21 #[.pointer (some ⟨q, 0, none⟩), .pointer (some ⟨p, 0, none⟩)] w fun e w' => e = .returned (.bool (n == 0)) ∧ AtB p b q 58 n bs' bl' en' M' w w' := by
  have HK := Lib.hid k
  have HL := Lib.hid hl
  have c0 := k.kc.1
  have hm := mKS_1 q
  have hi := iKS_1
  clear k hl
  go_enter Tryd.func21, Tryd.ntmps21
  go_wp2_with (go_at_call 22; refine (overKS HK.out).mono ?_; rintro ee w ⟨rfl, rfl⟩)
  go_region_with (first
    | (go_at_call 50; refine (linesKS _).mono ?_; rintro ee wA ⟨rfl, hA⟩; have HA := Lib.hid (show Below w.heap.size w wA from ((Below.refl _ w).drew).trans hA); have cA := (HK.out.below HA.out).kc.1; clear hA)
    | (go_at_call 75; refine (HL.out wA HA.out).mono ?_; rintro ee wB ⟨rfl, aB⟩; have cB := aB.k.kc.1; have zB := aB.k.free 0; have HAB := Lib.hid aB; clear aB))
  all_goals
    have HAC := Lib.hid (HAB.out.set (nx' := n) (bs' := bs') (bl' := bl') (en' := en') (by decide) hq 0 (.int .i64 n) rfl)
    go_wp2_with (go_at_call 48; refine (overE HAC.out.k).mono ?_; rintro ee w ⟨rfl, rfl⟩)
    go_ret
    exact ⟨rfl, HAC.out.trans (.of_below HA.out)⟩
set_option maxRecDepth 100000 in
set_option maxHeartbeats 4000000 in
theorem stepKS_2 (hq : 1 < q) (k : Bq q 58 (KC 2 bs bl en) w) (hl : ∀ X, Below w.heap.size w X → Calls Tryd.prog 76 #[.pointer (some ⟨q, 0, none⟩), .pointer (some ⟨p, 0, none⟩)] X fun e Y => e = .returned (.int .i64 n) ∧ AtB p b q 58 2 bs' bl' en' M' X Y) :
    Calls Tryd.prog 21 #[.pointer (some ⟨q, 0, none⟩), .pointer (some ⟨p, 0, none⟩)] w fun e w' => e = .returned (.bool (n == 0)) ∧ AtB p b q 58 n bs' bl' en' M' w w' := by
  have HK := Lib.hid k
  have HL := Lib.hid hl
  have c0 := k.kc.1
  have hi := iKS_2
  clear k hl
  go_enter Tryd.func21, Tryd.ntmps21
  go_wp2_with (go_at_call 22; refine (overKS HK.out).mono ?_; rintro ee w ⟨rfl, rfl⟩)
  go_region_with (first
    | (go_at_call 50; refine (linesKS _).mono ?_; rintro ee wA ⟨rfl, hA⟩; have HA := Lib.hid (show Below w.heap.size w wA from ((Below.refl _ w).drew).trans hA); have cA := (HK.out.below HA.out).kc.1; clear hA)
    | (go_at_call 76; refine (HL.out wA HA.out).mono ?_; rintro ee wB ⟨rfl, aB⟩; have cB := aB.k.kc.1; have zB := aB.k.free 0; have HAB := Lib.hid aB; clear aB))
  all_goals
    have HAC := Lib.hid (HAB.out.set (nx' := n) (bs' := bs') (bl' := bl') (en' := en') (by decide) hq 0 (.int .i64 n) rfl)
    go_wp2_with (go_at_call 48; refine (overE HAC.out.k).mono ?_; rintro ee w ⟨rfl, rfl⟩)
    go_ret
    exact ⟨rfl, HAC.out.trans (.of_below HA.out)⟩
set_option maxRecDepth 100000 in
set_option maxHeartbeats 4000000 in
theorem stepKS_3 (hq : 1 < q) (k : Bq q 58 (KC 3 bs bl en) w) (hl : ∀ X, Below w.heap.size w X → Calls Tryd.prog 77 #[.pointer (some ⟨q, 0, none⟩), .pointer (some ⟨p, 0, none⟩)] X fun e Y => e = .returned (.int .i64 n) ∧ AtB p b q 58 3 bs' bl' en' M' X Y) :
    Calls Tryd.prog 21 #[.pointer (some ⟨q, 0, none⟩), .pointer (some ⟨p, 0, none⟩)] w fun e w' => e = .returned (.bool (n == 0)) ∧ AtB p b q 58 n bs' bl' en' M' w w' := by
  have HK := Lib.hid k
  have HL := Lib.hid hl
  have c0 := k.kc.1
  have hi := iKS_3
  clear k hl
  go_enter Tryd.func21, Tryd.ntmps21
  go_wp2_with (go_at_call 22; refine (overKS HK.out).mono ?_; rintro ee w ⟨rfl, rfl⟩)
  go_region_with (first
    | (go_at_call 50; refine (linesKS _).mono ?_; rintro ee wA ⟨rfl, hA⟩; have HA := Lib.hid (show Below w.heap.size w wA from ((Below.refl _ w).drew).trans hA); have cA := (HK.out.below HA.out).kc.1; clear hA)
    | (go_at_call 77; refine (HL.out wA HA.out).mono ?_; rintro ee wB ⟨rfl, aB⟩; have cB := aB.k.kc.1; have zB := aB.k.free 0; have HAB := Lib.hid aB; clear aB))
  all_goals
    have HAC := Lib.hid (HAB.out.set (nx' := n) (bs' := bs') (bl' := bl') (en' := en') (by decide) hq 0 (.int .i64 n) rfl)
    go_wp2_with (go_at_call 48; refine (overE HAC.out.k).mono ?_; rintro ee w ⟨rfl, rfl⟩)
    go_ret
    exact ⟨rfl, HAC.out.trans (.of_below HA.out)⟩
set_option maxRecDepth 100000 in
set_option maxHeartbeats 4000000 in
theorem stepKS_4 (hq : 1 < q) (k : Bq q 58 (KC 4 bs bl en) w) (hl : ∀ X, Below w.heap.size w X → Calls Tryd.prog 78 #[.pointer (some ⟨q, 0, none⟩), .pointer (some ⟨p, 0, none⟩)] X fun e Y => e = .returned (.int .i64 n) ∧ AtB p b q 58 4 bs' bl' en' M' X Y) :
    Calls Tryd.prog 21 #[.pointer (some ⟨q, 0, none⟩), .pointer (some ⟨p, 0, none⟩)] w fun e w' => e = .returned (.bool (n == 0)) ∧ AtB p b q 58 n bs' bl' en' M' w w' := by
  have HK := Lib.hid k
  have HL := Lib.hid hl
  have c0 := k.kc.1
  have hi := iKS_4
  clear k hl
  go_enter Tryd.func21, Tryd.ntmps21
  go_wp2_with (go_at_call 22; refine (overKS HK.out).mono ?_; rintro ee w ⟨rfl, rfl⟩)
  go_region_with (first
    | (go_at_call 50; refine (linesKS _).mono ?_; rintro ee wA ⟨rfl, hA⟩; have HA := Lib.hid (show Below w.heap.size w wA from ((Below.refl _ w).drew).trans hA); have cA := (HK.out.below HA.out).kc.1; clear hA)
    | (go_at_call 78; refine (HL.out wA HA.out).mono ?_; rintro ee wB ⟨rfl, aB⟩; have cB := aB.k.kc.1; have zB := aB.k.free 0; have HAB := Lib.hid aB; clear aB))
  all_goals
    have HAC := Lib.hid (HAB.out.set (nx' := n) (bs' := bs') (bl' := bl') (en' := en') (by decide) hq 0 (.int .i64 n) rfl)
    go_wp2_with (go_at_call 48; refine (overE HAC.out.k).mono ?_; rintro ee w ⟨rfl, rfl⟩)
    go_ret
    exact ⟨rfl, HAC.out.trans (.of_below HA.out)⟩
theorem gotKS_nil (w : World) : Calls Tryd.prog 23 #[.pointer none] w fun e w' => e = .returned (.int .i64 0) ∧ w' = w := by
  go_enter Tryd.func23, Tryd.ntmps23
  go_wp2_with fail
  go_ret
  exact ⟨rfl, rfl⟩
theorem gotKS (k : Bq q T (KC nx bs bl en) w) : Calls Tryd.prog 23 #[.pointer (some ⟨q, 0, none⟩)] w fun e w' => e = .returned (.int .i64 (gotE nx en)) ∧ w' = w := by
  have HK := Lib.hid k
  clear k
  go_enter Tryd.func23, Tryd.ntmps23
  go_wp2_with fail
  ((with_reducible refine (gotEd HK.out).mono ?_); rintro ee w1 ⟨rfl, rfl⟩)
  go_wp2_with fail
  go_ret
  exact ⟨rfl, rfl⟩
theorem newLess_raw (w : World) : Calls Tryd.prog 12 #[] w fun e w' => ∃ q, e = .returned (.pointer (some ⟨q, 0, none⟩)) ∧ w.heap.size ≤ q ∧ Bq q 58 (KC 2 0 0 0) w' ∧ Below w.heap.size w w' := by
  go_enter Tryd.func12, Tryd.ntmps12
  go_wp2
  go_ret
  exact ⟨w.heap.size, rfl, Nat.le_refl _, Bq.new w (KC 2 0 0 0) _, (Below.refl _ _).alloc (Nat.le_refl _) _⟩
end
end Go.Proofs.YtffkjdmpeeagoaaDoor
namespace Go.Proofs.YtffkjdmpeeagoaaDoor
open Go.RowKit Go.Maps

/-- The program's number of a line. -/
def nxM (l : Int) : Int := if l = 0 then 0 else if l = 3 then 1 else l + 1
def nxS (l : Int) : Int := if l = 0 then 0 else if l = 4 then 1 else l + 1
/-- The program's More, and Less, says what the chapter's does. -/
def MOk (o : BO) (bs bl en : Int) : Prop := (2 ≤ o.ln → bs = o.b ∧ bl = o.b) ∧ (o.ln ≠ 0 → en = 0) ∧ (o.ln = 0 → en = o.e)
def SOk (o : BO) (bs bl en : Int) : Prop := (2 ≤ o.ln → bs = o.b ∧ bl = o.b - 1) ∧ (o.ln ≠ 0 → o.ln ≠ 4 → en = 0) ∧ (o.ln = 4 → en = 7) ∧ (o.ln = 0 → en = o.e)
def MRep (q : Nat) (o : BO) (w : World) : Prop := ∃ bs bl en, Bq q 57 (KC (nxM o.ln) bs bl en) w ∧ MOk o bs bl en
def SRep (q : Nat) (o : BO) (w : World) : Prop := ∃ bs bl en, Bq q 58 (KC (nxS o.ln) bs bl en) w ∧ SOk o bs bl en
/-- The program's operation. -/
def KRep (q : Nat) (o : BO) (w : World) : Prop := (o.lv = false ∧ MRep q o w) ∨ (o.lv = true ∧ SRep q o w)
def fnK (lv : Bool) : FuncId := if lv = true then 21 else 18
/-- Behind a step of the program's. -/
def KDone (p b q : Nat) (R : BO × MV) (w : World) (ee : Ending) (w' : World) : Prop := ee = .returned (.bool (R.1.ln == 0)) ∧ KRep q R.1 w' ∧ VX p b R.2 w' ∧ Onl p b [q] w w'
section
variable {p b q : Nat} {n bs bl en : Int} {o o' : BO} {M M' : MV} {w w' : World}
theorem KRep.bq (h : KRep q o w) : ∃ t cs, Bq q t cs w ∧ (t = 57 ∨ t = 58) := by
  rcases h with ⟨h, bs, bl, en, k, g⟩ | ⟨h, bs, bl, en, k, g⟩
  · exact ⟨_, _, k, .inl rfl⟩
  · exact ⟨_, _, k, .inr rfl⟩
theorem KRep.same (h : KRep q o w) (hs : w'.heap[q]? = w.heap[q]?) : KRep q o w' := by
  rcases h with ⟨h, bs, bl, en, k, g⟩ | ⟨h, bs, bl, en, k, g⟩
  · exact .inl ⟨h, bs, bl, en, k.same hs, g⟩
  · exact .inr ⟨h, bs, bl, en, k.same hs, g⟩
theorem mdone {e : Ending} {b1 : Bool} {n' bs' bl' en' : Int} (he : e = .returned (.bool b1)) (A : AtB p b q 57 n' bs' bl' en' M' w w') (hv : o'.lv = false) (hn : n' = nxM o'.ln) (hb : b1 = (o'.ln == 0)) (g : MOk o' bs' bl' en') : KDone p b q (o', M') w e w' := by
  subst hn hb
  exact ⟨he, .inl ⟨hv, _, _, _, A.k, g⟩, A.f, A.o⟩
theorem sdone {e : Ending} {b1 : Bool} {n' bs' bl' en' : Int} (he : e = .returned (.bool b1)) (A : AtB p b q 58 n' bs' bl' en' M' w w') (hv : o'.lv = true) (hn : n' = nxS o'.ln) (hb : b1 = (o'.ln == 0)) (g : SOk o' bs' bl' en') : KDone p b q (o', M') w e w' := by
  subst hn hb
  exact ⟨he, .inr ⟨hv, _, _, _, A.k, g⟩, A.f, A.o⟩
set_option maxHeartbeats 4000000 in
theorem more_step (hq : 1 < q) (F : VX p b M w) (hs : M.s.st < 1000000) (ok : BNum o) (hv : o.lv = false) (R : MRep q o w) : Calls Tryd.prog 18 #[.pointer (some ⟨q, 0, none⟩), .pointer (some ⟨p, 0, none⟩)] w (KDone p b q (moreX o M) w) := by
  obtain ⟨bs, bl, en, k, g1, g2, g3⟩ := R
  obtain ⟨lv, ln, oe, ob⟩ := o
  obtain ⟨h1, h2, h3, h4, _⟩ := ok
  replace h4 := h4 hv
  simp only at hv h1 h2 h3 h4 g1 g2 g3 k
  subst hv
  have hu := F.u64 adN
  obtain ⟨u0, u1⟩ := hu
  unfold moreX
  dsimp only
  obtain ⟨h5, h6⟩ := h4
  obtain rfl | rfl | rfl | rfl : ln = 0 ∨ ln = 1 ∨ ln = 2 ∨ ln = 3 := by omega
  · rw [if_neg (show ¬ (0 : Int) = 1 by decide), if_neg (show ¬ (0 : Int) = 2 by decide), if_neg (show ¬ (0 : Int) = 3 by decide)]
    refine (stepKM_over (T := 57) _ k).mono ?_
    rintro e w' ⟨he, rfl⟩
    exact ⟨he, .inl ⟨rfl, _, _, _, k, g1, g2, g3⟩, F, .refl _⟩
  · rw [if_pos rfl]
    obtain rfl := g2 (by decide)
    obtain rfl := h3 (by decide)
    have k : Bq q 57 (KC 2 _ _ _) w := k
    by_cases h0 : 4 ≤ M.V adN
    · rw [if_pos h0]
      refine (stepKM_2 hq k (fun X hX => room_full (by decide) hq (F.below hX) hs (k.below hX) rfl h0)).mono ?_
      rintro e w' ⟨he, A⟩
      exact mdone he A rfl rfl rfl ⟨(by dsimp only; intro h; omega), (fun h => absurd rfl h), fun _ => rfl⟩
    · rw [if_neg h0]
      refine (stepKM_2 hq k (fun X hX => room_on (by decide) hq (F.below hX) hs (k.below hX) rfl u0 (by omega))).mono ?_
      rintro e w' ⟨he, A⟩
      exact mdone he A rfl rfl rfl ⟨fun _ => ⟨rfl, rfl⟩, fun _ => rfl, (by dsimp only; intro h; omega)⟩
  · rw [if_neg (show ¬ (2 : Int) = 1 by decide), if_pos rfl]
    obtain rfl := g2 (by decide)
    obtain rfl := h3 (by decide)
    obtain ⟨rfl, rfl⟩ := g1 (by decide)
    have hl := h6 (by decide)
    have k : Bq q 57 (KC 3 _ _ _) w := k
    have hb0 := h1.1
    by_cases hc : casV M.V adN bl = true
    · rw [if_pos hc]
      refine (stepKM_3 hq k (fun X hX => raise_true (by decide) hq (F.below hX) hs (k.below hX) hb0 hl hc)).mono ?_
      rintro e w' ⟨he, A⟩
      exact mdone he A rfl rfl rfl ⟨fun _ => ⟨rfl, rfl⟩, fun _ => rfl, (by dsimp only; intro h; omega)⟩
    · rw [if_neg hc]
      have hc2 : casV M.V adN bl = false := by simpa using hc
      refine (stepKM_3 hq k (fun X hX => raise_false (by decide) hq (F.below hX) hs (k.below hX) hb0 hl hc2)).mono ?_
      rintro e w' ⟨he, A⟩
      exact mdone he A rfl rfl rfl ⟨(by dsimp only; intro h; omega), fun _ => rfl, (by dsimp only; intro h; omega)⟩
  · rw [if_neg (show ¬ (3 : Int) = 1 by decide), if_neg (show ¬ (3 : Int) = 2 by decide), if_pos rfl]
    obtain rfl := g2 (by decide)
    obtain rfl := h3 (by decide)
    obtain ⟨rfl, rfl⟩ := g1 (by decide)
    have hl := h6 (by decide)
    have hb0 := h1.1
    have k : Bq q 57 (KC 1 _ _ _) w := k
    refine (stepKM_1 hq k (fun X hX => openE (by decide) hq (F.below hX) hs (k.below hX) ⟨hb0, hl⟩)).mono ?_
    rintro e w' ⟨he, A⟩
    exact mdone he A rfl rfl rfl ⟨(by dsimp only; intro h; omega), (fun h => absurd rfl h), fun _ => rfl⟩
set_option maxHeartbeats 4000000 in
theorem less_step (hq : 1 < q) (F : VX p b M w) (hs : M.s.st < 1000000) (ok : BNum o) (hv : o.lv = true) (R : SRep q o w) : Calls Tryd.prog 21 #[.pointer (some ⟨q, 0, none⟩), .pointer (some ⟨p, 0, none⟩)] w (KDone p b q (lessX o M) w) := by
  obtain ⟨bs, bl, en, k, g1, g2, g3, g4⟩ := R
  obtain ⟨lv, ln, oe, ob⟩ := o
  obtain ⟨h1, h2, h3, _, h4⟩ := ok
  replace h4 := h4 hv
  simp only at hv h1 h2 h3 h4 g1 g2 g3 g4 k
  subst hv
  unfold lessX
  dsimp only
  obtain rfl | rfl | rfl | rfl | rfl : ln = 0 ∨ ln = 1 ∨ ln = 2 ∨ ln = 3 ∨ ln = 4 := by omega
  · rw [if_neg (show ¬ (0 : Int) = 1 by decide), if_neg (show ¬ (0 : Int) = 2 by decide), if_neg (show ¬ (0 : Int) = 3 by decide), if_neg (show ¬ (0 : Int) = 4 by decide)]
    refine (stepKS_over (T := 58) _ k).mono ?_
    rintro e w' ⟨he, rfl⟩
    exact ⟨he, .inr ⟨rfl, _, _, _, k, g1, g2, g3, g4⟩, F, .refl _⟩
  · rw [if_pos rfl]
    obtain rfl := g2 (by decide) (by decide)
    obtain rfl := h3 (by decide)
    have k : Bq q 58 (KC 2 _ _ _) w := k
    by_cases h0 : M.V adN ≤ 1
    · rw [if_pos h0]
      refine (stepKS_2 hq k (fun X hX => last_low (by decide) hq (F.below hX) hs (k.below hX) rfl h0)).mono ?_
      rintro e w' ⟨he, A⟩
      exact sdone he A rfl rfl rfl ⟨(by dsimp only; intro h; omega), (fun h => absurd rfl h), (by dsimp only; intro h; omega), fun _ => rfl⟩
    · rw [if_neg h0]
      by_cases h5 : 4 < M.V adN
      · rw [if_pos h5]
        refine (stepKS_2 hq k (fun X hX => last_high (by decide) hq (F.below hX) hs (k.below hX) rfl h5)).mono ?_
        rintro e w' ⟨he, A⟩
        exact sdone he A rfl rfl rfl ⟨(by dsimp only; intro h; omega), (fun h => absurd rfl h), (by dsimp only; intro h; omega), fun _ => rfl⟩
      · rw [if_neg h5]
        refine (stepKS_2 hq k (fun X hX => last_on (by decide) hq (F.below hX) hs (k.below hX) rfl (by omega) (by omega))).mono ?_
        rintro e w' ⟨he, A⟩
        exact sdone he A rfl rfl rfl ⟨fun _ => ⟨rfl, rfl⟩, fun _ _ => rfl, (by dsimp only; intro h; omega), (by dsimp only; intro h; omega)⟩
  · rw [if_neg (show ¬ (2 : Int) = 1 by decide), if_pos rfl]
    obtain rfl := g2 (by decide) (by decide)
    obtain rfl := h3 (by decide)
    obtain ⟨rfl, rfl⟩ := g1 (by decide)
    have hl := h4 (by decide)
    have hb : 0 ≤ bs - 1 ∧ bs - 1 < 4 := by omega
    have k : Bq q 58 (KC 3 _ _ _) w := k
    by_cases hc : casV M.V (adK (bs - 1)) opnW = true
    · rw [if_pos hc]
      refine (stepKS_3 hq k (fun X hX => shut_true (by decide) hq (F.below hX) hs (k.below hX) hb hc)).mono ?_
      rintro e w' ⟨he, A⟩
      exact sdone he A rfl rfl rfl ⟨fun _ => ⟨rfl, rfl⟩, fun _ _ => rfl, (by dsimp only; intro h; omega), (by dsimp only; intro h; omega)⟩
    · rw [if_neg hc]
      have hc2 : casV M.V (adK (bs - 1)) opnW = false := by simpa using hc
      refine (stepKS_3 hq k (fun X hX => shut_false (by decide) hq (F.below hX) hs (k.below hX) hb hc2)).mono ?_
      rintro e w' ⟨he, A⟩
      exact sdone he A rfl rfl rfl ⟨(by dsimp only; intro h; omega), (fun h => absurd rfl h), (by dsimp only; intro h; omega), fun _ => rfl⟩
  · rw [if_neg (show ¬ (3 : Int) = 1 by decide), if_neg (show ¬ (3 : Int) = 2 by decide), if_pos rfl]
    obtain rfl := g2 (by decide) (by decide)
    obtain rfl := h3 (by decide)
    obtain ⟨rfl, rfl⟩ := g1 (by decide)
    have hl := h4 (by decide)
    have k : Bq q 58 (KC 4 _ _ _) w := k
    by_cases hc : casV M.V adN bs = true
    · rw [if_pos hc]
      refine (stepKS_4 hq k (fun X hX => lower_true (by decide) hq (F.below hX) hs (k.below hX) (by omega) hl.2 hc)).mono ?_
      rintro e w' ⟨he, A⟩
      exact sdone he A rfl rfl rfl ⟨(by dsimp only; intro h; omega), (fun h => absurd rfl h), (by dsimp only; intro h; omega), fun _ => rfl⟩
    · rw [if_neg hc]
      have hc2 : casV M.V adN bs = false := by simpa using hc
      refine (stepKS_4 hq k (fun X hX => lower_false (by decide) hq (F.below hX) hs (k.below hX) (by omega) hl.2 hc2)).mono ?_
      rintro e w' ⟨he, A⟩
      exact sdone he A rfl rfl rfl ⟨fun _ => ⟨rfl, rfl⟩, fun _ h => absurd rfl h, fun _ => rfl, (by dsimp only; intro h; omega)⟩
  · rw [if_neg (show ¬ (4 : Int) = 1 by decide), if_neg (show ¬ (4 : Int) = 2 by decide), if_neg (show ¬ (4 : Int) = 3 by decide), if_pos rfl]
    obtain rfl := g3 rfl
    obtain ⟨rfl, rfl⟩ := g1 (by decide)
    have hl := h4 (by decide)
    have hb : 0 ≤ bs - 1 ∧ bs - 1 < 4 := by omega
    have k : Bq q 58 (KC 1 _ _ _) w := k
    refine (stepKS_1 hq k (fun X hX => openE (by decide) hq (F.below hX) hs (k.below hX) hb)).mono ?_
    rintro e w' ⟨he, A⟩
    exact sdone he A rfl rfl rfl ⟨(by dsimp only; intro h; omega), (fun h => absurd rfl h), (by dsimp only; intro h; omega), fun _ => rfl⟩
theorem prgK_stepE (hq : 1 < q) (F : VX p b M w) (hs : M.s.st < 1000000) (ok : BNum o) (R : KRep q o w) {o2 : BO} {M2 : MV} (hE : kX o M = (o2, M2)) : Calls Tryd.prog (fnK o.lv) #[.pointer (some ⟨q, 0, none⟩), .pointer (some ⟨p, 0, none⟩)] w fun e w' => e = .returned (.bool (o2.ln == 0)) ∧ KRep q o2 w' ∧ VX p b M2 w' ∧ Onl p b [q] w w' := by
  have key : Calls Tryd.prog (fnK o.lv) #[.pointer (some ⟨q, 0, none⟩), .pointer (some ⟨p, 0, none⟩)] w (KDone p b q (kX o M) w) := by
    rcases R with ⟨h, R⟩ | ⟨h, R⟩
    · have e1 : kX o M = moreX o M := by unfold kX; rw [if_neg (by rw [h]; decide)]
      have e2 : fnK o.lv = 18 := by unfold fnK; rw [if_neg (by rw [h]; decide)]
      rw [e1, e2]
      exact more_step hq F hs ok h R
    · have e1 : kX o M = lessX o M := by unfold kX; rw [if_pos h]
      have e2 : fnK o.lv = 21 := by unfold fnK; rw [if_pos h]
      rw [e1, e2]
      exact less_step hq F hs ok h R
  refine key.mono ?_
  rintro e w' ⟨h1, h2, h3, h4⟩
  rw [hE] at h1 h2 h3
  exact ⟨h1, h2, h3, h4⟩
theorem newMore_all (w : World) : Calls Tryd.prog 10 #[] w fun e w' => ∃ q, e = .returned (.pointer (some ⟨q, 0, none⟩)) ∧ w.heap.size ≤ q ∧ KRep q (newB false) w' ∧ Below w.heap.size w w' := by
  refine (newMore_raw w).mono ?_
  rintro e w' ⟨q, rfl, h1, k, hb⟩
  exact ⟨q, rfl, h1, .inl ⟨rfl, _, _, _, k, (by intro h; exact absurd h (by decide)), fun _ => rfl, fun _ => rfl⟩, hb⟩
theorem newLess_all (w : World) : Calls Tryd.prog 12 #[] w fun e w' => ∃ q, e = .returned (.pointer (some ⟨q, 0, none⟩)) ∧ w.heap.size ≤ q ∧ KRep q (newB true) w' ∧ Below w.heap.size w w' := by
  refine (newLess_raw w).mono ?_
  rintro e w' ⟨q, rfl, h1, k, hb⟩
  exact ⟨q, rfl, h1, .inr ⟨rfl, _, _, _, k, (by intro h; exact absurd h (by decide)), fun _ _ => rfl, (by intro h; exact absurd h (by decide)), fun _ => rfl⟩, hb⟩
theorem nxM_beq {l : Int} (h : 0 ≤ l ∧ l ≤ 4) : (nxM l == 0) = (l == 0) := by
  obtain rfl | rfl | rfl | rfl | rfl : l = 0 ∨ l = 1 ∨ l = 2 ∨ l = 3 ∨ l = 4 := by omega
  all_goals rfl
theorem nxS_beq {l : Int} (h : 0 ≤ l ∧ l ≤ 4) : (nxS l == 0) = (l == 0) := by
  obtain rfl | rfl | rfl | rfl | rfl : l = 0 ∨ l = 1 ∨ l = 2 ∨ l = 3 ∨ l = 4 := by omega
  all_goals rfl
theorem nxM_ne {l : Int} (h : 0 ≤ l ∧ l ≤ 4) (h0 : l ≠ 0) : nxM l ≠ 0 := fun e => by
  have := nxM_beq h
  rw [e, beq_eq_false_iff_ne.2 h0] at this
  cases this
theorem nxS_ne {l : Int} (h : 0 ≤ l ∧ l ≤ 4) (h0 : l ≠ 0) : nxS l ≠ 0 := fun e => by
  have := nxS_beq h
  rw [e, beq_eq_false_iff_ne.2 h0] at this
  cases this
theorem gotK_no {nx en : Int} (h : nx ≠ 0) : gotE nx en = 0 := if_neg h
theorem overM_any (ok : BNum o) (hv : o.lv = false) (R : KRep q o w) : Calls Tryd.prog 19 #[.pointer (some ⟨q, 0, none⟩)] w fun e w' => e = .returned (.bool (o.ln == 0)) ∧ w' = w := by
  rcases R with ⟨_, bs, bl, en, k, g1, g2, g3⟩ | ⟨h, _⟩
  · rw [← nxM_beq ok.ln]
    exact overKM k
  · rw [hv] at h; cases h
theorem gotM_any (ok : BNum o) (hv : o.lv = false) (R : KRep q o w) : Calls Tryd.prog 20 #[.pointer (some ⟨q, 0, none⟩)] w fun e w' => e = .returned (.int .i64 o.e) ∧ w' = w := by
  rcases R with ⟨_, bs, bl, en, k, g1, g2, g3⟩ | ⟨h, _⟩
  · by_cases h0 : o.ln = 0
    · rw [h0] at k
      rw [← g3 h0]
      exact gotKM k
    · have he := ok.e h0
      have := gotKM k
      rw [gotK_no (nxM_ne ok.ln h0)] at this
      rw [he]
      exact this
  · rw [hv] at h; cases h
theorem overS_any (ok : BNum o) (hv : o.lv = true) (R : KRep q o w) : Calls Tryd.prog 22 #[.pointer (some ⟨q, 0, none⟩)] w fun e w' => e = .returned (.bool (o.ln == 0)) ∧ w' = w := by
  rcases R with ⟨h, _⟩ | ⟨_, bs, bl, en, k, g1, g2, g3, g4⟩
  · rw [hv] at h; cases h
  · rw [← nxS_beq ok.ln]
    exact overKS k
theorem gotS_any (ok : BNum o) (hv : o.lv = true) (R : KRep q o w) : Calls Tryd.prog 23 #[.pointer (some ⟨q, 0, none⟩)] w fun e w' => e = .returned (.int .i64 o.e) ∧ w' = w := by
  rcases R with ⟨h, _⟩ | ⟨_, bs, bl, en, k, g1, g2, g3, g4⟩
  · rw [hv] at h; cases h
  · by_cases h0 : o.ln = 0
    · rw [h0] at k
      rw [← g4 h0]
      exact gotKS k
    · have he := ok.e h0
      have := gotKS k
      rw [gotK_no (nxS_ne ok.ln h0)] at this
      rw [he]
      exact this
end
end Go.Proofs.YtffkjdmpeeagoaaDoor
