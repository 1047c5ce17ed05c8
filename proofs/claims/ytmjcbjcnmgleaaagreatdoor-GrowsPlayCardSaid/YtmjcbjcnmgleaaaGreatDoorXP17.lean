/-
  Package allocs; Package allocs; conditions as each theorem says.
-/
import Derived.Test.YtmjcbjcnmgleaaaGreatDoorXP16
import Derived.Deep.RegionWith
namespace Go.Proofs.YtmjcbjcnmgleaaaGreatDoor
open Go.RowKit Go.Maps
section
variable {p b r : Nat} {t : TypeId} {M : MV} {x : Ad} {g u v n : Int} {d : Bool} {w w' : World}
theorem Bq.s4 {c0 c1 c2 c3 : Value} (k : Bq r t [c0, c1, c2, c3] w) : w.cell? ⟨r, 0, none⟩ = some c0 ∧ w.cell? ⟨r, 1, none⟩ = some c1 ∧ w.cell? ⟨r, 2, none⟩ = some c2 ∧ w.cell? ⟨r, 3, none⟩ = some c3 ∧ ∀ i, w.frozen? ⟨r, i, none⟩ = false := ⟨k.cell 0, k.cell 1, k.cell 2, k.cell 3, k.free⟩
theorem Bq.s6 {c0 c1 c2 c3 c4 c5 : Value} (k : Bq r t [c0, c1, c2, c3, c4, c5] w) : w.cell? ⟨r, 0, none⟩ = some c0 ∧ w.cell? ⟨r, 1, none⟩ = some c1 ∧ w.cell? ⟨r, 2, none⟩ = some c2 ∧ w.cell? ⟨r, 3, none⟩ = some c3 ∧ w.cell? ⟨r, 4, none⟩ = some c4 ∧ w.cell? ⟨r, 5, none⟩ = some c5 ∧ ∀ i, w.frozen? ⟨r, i, none⟩ = false := ⟨k.cell 0, k.cell 1, k.cell 2, k.cell 3, k.cell 4, k.cell 5, k.free⟩
theorem Bq.only {cs : List Value} (k : Bq r t cs w) (F : VX p b M w) (ht : t ≠ 121) (h : Only p b w w') : Bq r t cs w' := k.same (h.block r k.lt (F.ne ht k).1 (F.ne ht k).2)
def LdC (x : Ad) (g : Int) : List Value := [.int .u8 x.k, .int .i64 x.a, .int .i64 x.f, .int .u64 g]
def SwC (x : Ad) (u v : Int) (d : Bool) : List Value := [.int .u8 x.k, .int .i64 x.a, .int .i64 x.f, .int .u64 u, .int .u64 v, .bool d]
def CtC (x : Ad) (g u : Int) (d : Bool) : List Value := [.int .u8 x.k, .int .i64 x.a, .int .i64 x.f, .int .i64 g, .int .u64 u, .bool d]
set_option maxRecDepth 100000 in
set_option maxHeartbeats 4000000 in
theorem loadLn_step (hr : 1 < r) (ht : t ≠ 121) (F : VX p b M w) (hs : M.s.st < 1000000) (k : Bq r t (LdC x g) w) :
    Calls Tryz.prog 189 #[.pointer (some ⟨r, 0, none⟩), .pointer (some ⟨p, 0, none⟩)] w fun e w' => e = .returned (.bool true) ∧ Bq r t (LdC x (M.V x)) w' ∧ VX p b (ldM M x) w' ∧ Onl p b [r] w w' := by
  obtain ⟨c0, c1, c2, c3, z⟩ := Bq.s4 k
  have HK := Lib.hid k
  have HF := Lib.hid F
  clear k F
  go_enter Tryz.func189, Tryz.ntmps189
  go_wp2_with fail
  ((with_reducible refine (HF.out.load hs x).mono ?_); rintro ee w1 ⟨rfl, F1, h1⟩)
  have HK1 := Lib.hid (HK.out.only HF.out ht h1)
  have HF1 := Lib.hid F1
  have HO1 := Lib.hid (Onl.of_only (E := [r]) h1)
  have hne := HF.out.ne ht HK.out
  clear c0 c1 c2 c3 z F1 h1
  obtain ⟨c0, c1, c2, c3, z⟩ := Bq.s4 HK1.out
  have z3 := z 3
  clear z
  go_wp2_with fail
  go_ret
  exact ⟨rfl, HK1.out.set 3 (.int .u64 (M.V x)) rfl, HF1.out.setQ hne.1 hne.2 hr 3 _, HO1.out.trans (.setCell _ (by simp) 3 _)⟩
def St4 (r : Nat) (c0 c1 c2 c3 : Value) (W : World) : Prop := W.cell? ⟨r, 0, none⟩ = some c0 ∧ W.cell? ⟨r, 1, none⟩ = some c1 ∧ W.cell? ⟨r, 2, none⟩ = some c2 ∧ W.cell? ⟨r, 3, none⟩ = some c3
theorem Bq.t4 {c0 c1 c2 c3 : Value} (k : Bq r t [c0, c1, c2, c3] w) : St4 r c0 c1 c2 c3 w := ⟨k.cell 0, k.cell 1, k.cell 2, k.cell 3⟩
theorem LdC.t4 (k : Bq r t (LdC x g) w) : St4 r (.int .u8 x.k) (.int .i64 x.a) (.int .i64 x.f) (.int .u64 g) w := Bq.t4 k
set_option maxRecDepth 100000 in
set_option maxHeartbeats 4000000 in
theorem storeLn_step (ht : t ≠ 121) (F : VX p b M w) (hs : M.s.st < 1000000) (hv : U64 v) (k : Bq r t (LdC x v) w) :
    Calls Tryz.prog 199 #[.pointer (some ⟨r, 0, none⟩), .pointer (some ⟨p, 0, none⟩)] w fun e w' => e = .returned (.bool true) ∧ Bq r t (LdC x v) w' ∧ VX p b (stM M x v) w' ∧ Onl p b [] w w' := by
  have hd := (Below.refl w.heap.size w).drew
  have HK := Lib.hid (k.below hd)
  have HF := Lib.hid (F.below hd)
  have HO := Lib.hid (Onl.of_below (p := p) (b := b) (E := []) hd)
  have hS := Lib.hid (LdC.t4 HK.out)
  clear k F hd
  go_enter Tryz.func199, Tryz.ntmps199
  go_wp2_with fail
  go_region_held3 (fun w1 => w1.cell? ⟨r, 0, none⟩ = some (.int .u8 x.k) ∧ w1.cell? ⟨r, 1, none⟩ = some (.int .i64 x.a) ∧ w1.cell? ⟨r, 2, none⟩ = some (.int .i64 x.f) ∧ w1.cell? ⟨r, 3, none⟩ = some (.int .u64 v))
    (first | exact hS.out | exact hS1.out | fail)
    (first
      | (go_at_call 32; with_reducible refine (HF.out.store hs x v hv).mono ?_; rintro e wB ⟨rfl, FB, hB⟩; have HKB := Lib.hid (HK.out.only HF.out ht hB); have hS1 := Lib.hid (LdC.t4 HKB.out); have HFB := Lib.hid FB; have HOB := Lib.hid (HO.out.trans (Onl.of_only hB)); clear FB hB)
      | fail)
  go_wp2_with fail
  go_ret
  exact ⟨rfl, HKB.out, HFB.out, HOB.out⟩
set_option maxRecDepth 100000 in
set_option maxHeartbeats 4000000 in
theorem swapLn_step (hr : 1 < r) (ht : t ≠ 121) (F : VX p b M w) (hs : M.s.st < 1000000) (hv : U64 v) (k : Bq r t (SwC x u v d) w) {c : Bool} (hc : casV M.V x u = c) :
    Calls Tryz.prog 202 #[.pointer (some ⟨r, 0, none⟩), .pointer (some ⟨p, 0, none⟩)] w fun e w' => e = .returned (.bool true) ∧ Bq r t (SwC x u v c) w' ∧ VX p b (csM M x u v) w' ∧ Onl p b [r] w w' := by
  subst hc
  have hd := (Below.refl w.heap.size w).drew
  have HK := Lib.hid (k.below hd)
  have HF := Lib.hid (F.below hd)
  have HO := Lib.hid (Onl.of_below (p := p) (b := b) (E := [r]) hd)
  have hne := F.ne ht k
  clear k F hd
  go_enter Tryz.func202, Tryz.ntmps202
  go_wp2_with fail
  obtain ⟨c0, c1, c2, c3, c4, c5, _⟩ := Bq.s6 HK.out
  go_region_with (go_at_call 108; with_reducible refine (HF.out.cas hs x u v hv).mono ?_; rintro ee w1 ⟨rfl, F1, h1⟩; have HK1 := Lib.hid (HK.out.only HF.out ht h1); have HF1 := Lib.hid F1; have HO1 := Lib.hid (HO.out.trans (Onl.of_only h1)); clear c0 c1 c2 c3 c4 c5 F1 h1; obtain ⟨c0, c1, c2, c3, c4, c5, z⟩ := Bq.s6 HK1.out; have z5 := z 5; clear z)
  all_goals
    go_wp2_with fail
    go_ret
    exact ⟨rfl, HK1.out.set 5 (.bool (casV M.V x u)) rfl, HF1.out.setQ hne.1 hne.2 hr 5 _, HO1.out.trans (.setCell _ (by simp) 5 _)⟩
set_option maxRecDepth 100000 in
set_option maxHeartbeats 4000000 in
theorem count_load (hr : 1 < r) (ht : t ≠ 121) (F : VX p b M w) (hs : M.s.st < 1000000) (k : Bq r t (CtC x g u false) w) :
    Calls Tryz.prog 200 #[.pointer (some ⟨r, 0, none⟩), .pointer (some ⟨p, 0, none⟩)] w fun e w' => e = .returned (.bool false) ∧ Bq r t (CtC x g (M.V x) true) w' ∧ VX p b (ldM M x) w' ∧ Onl p b [r] w w' := by
  obtain ⟨c0, c1, c2, c3, c4, c5, _⟩ := Bq.s6 k
  have HK := Lib.hid k
  have HF := Lib.hid F
  have hne := F.ne ht k
  clear k F
  go_enter Tryz.func200, Tryz.ntmps200
  go_wp2_with fail
  ((with_reducible refine (HF.out.load hs x).mono ?_); rintro ee w1 ⟨rfl, F1, h1⟩)
  have HK1 := Lib.hid (HK.out.only HF.out ht h1)
  have HF1 := Lib.hid F1
  have HO1 := Lib.hid (Onl.of_only (E := [r]) h1)
  clear c0 c1 c2 c3 c4 c5 F1 h1
  obtain ⟨c0, c1, c2, c3, c4, c5, z⟩ := Bq.s6 HK1.out
  have z4 := z 4
  have HK2 := Lib.hid (HK1.out.set 4 (.int .u64 (M.V x)) (cs' := CtC x g (M.V x) false) rfl)
  have z5 := HK2.out.free 5
  have c25 : (w1.setCell ⟨r, 4, none⟩ (.int .u64 (M.V x))).cell? ⟨r, 5, none⟩ = some (.bool false) := HK2.out.cell 5
  clear z
  go_wp2_with fail
  go_ret
  exact ⟨rfl, HK2.out.set 5 (.bool true) rfl, (HF1.out.setQ hne.1 hne.2 hr 4 _).setQ hne.1 hne.2 hr 5 _, (HO1.out.trans (.setCell _ (by simp) 4 _)).trans (.setCell _ (by simp) 5 _)⟩
set_option maxRecDepth 100000 in
set_option maxHeartbeats 4000000 in
theorem count_cas (hr : 1 < r) (ht : t ≠ 121) (F : VX p b M w) (hs : M.s.st < 1000000) {gg : Int} (hg : IntKind.u64.wrap g = gg) (hv : IntKind.u64.wrap (u + gg) = v) (hu : U64 v) (k : Bq r t (CtC x g u true) w) {c : Bool} (hc : casV M.V x u = c) :
    Calls Tryz.prog 200 #[.pointer (some ⟨r, 0, none⟩), .pointer (some ⟨p, 0, none⟩)] w fun e w' => e = .returned (.bool c) ∧ Bq r t (CtC x g u false) w' ∧ VX p b (csM M x u v) w' ∧ Onl p b [r] w w' := by
  subst hc
  obtain ⟨c0, c1, c2, c3, c4, c5, z⟩ := Bq.s6 k
  have z5 := z 5
  have hne := F.ne ht k
  have k2 := k.set 5 (.bool false) (cs' := CtC x g u false) rfl
  have F2 := F.setQ hne.1 hne.2 hr 5 (.bool false)
  have O2 := Onl.setCell (q := r) (p := p) (b := b) (E := [r]) w (List.mem_singleton.2 rfl) 5 (.bool false)
  have hd := (Below.refl (w.setCell ⟨r, 5, none⟩ (.bool false)).heap.size (w.setCell ⟨r, 5, none⟩ (.bool false))).drew
  have HK := Lib.hid (k2.below hd)
  have HF := Lib.hid (F2.below hd)
  have HO := Lib.hid (O2.trans (Onl.of_below hd))
  clear k F hd k2 F2 O2 z
  go_enter Tryz.func200, Tryz.ntmps200
  go_wp2_with fail
  refine wp_region_still_tail 19 (by kernel_rfl) (by kernel_rfl) ?_
  change wpStill _ _ (w.setCell ⟨r, 5, none⟩ (.bool false)).drew (fun a' => wpList _ _ _ _ a' (w.setCell ⟨r, 5, none⟩ (.bool false)).drew) _ _
  clear c0 c1 c2 c3 c4 c5
  revert HK HF HO
  generalize (w.setCell ⟨r, 5, none⟩ (.bool false)).drew = wd
  intro HK HF HO
  obtain ⟨c0, c1, c2, c3, c4, c5, _⟩ := Bq.s6 HK.out
  simp only [List.take_succ_cons, List.take_zero, List.drop_succ_cons, List.drop_zero]
  iterate 19 still_step
  refine wpStill_nil ?_
  go_wp2_with fail
  ((with_reducible refine (HF.out.cas hs x u v hu).mono ?_); rintro ee w1 ⟨rfl, F1, h1⟩)
  have HK1 := Lib.hid (HK.out.only HF.out ht h1)
  have HF1 := Lib.hid F1
  have HO1 := Lib.hid (HO.out.trans (Onl.of_only h1))
  go_wp2_with fail
  go_ret
  exact ⟨rfl, HK1.out, HF1.out, HO1.out⟩
end
end Go.Proofs.YtmjcbjcnmgleaaaGreatDoor
namespace Go.Proofs.YtmjcbjcnmgleaaaGreatDoor
open Go.RowKit Go.Maps
def NewAt (t : TypeId) (cs : List Value) (w : World) (e : Ending) (w' : World) : Prop := ∃ r, e = .returned (.pointer (some ⟨r, 0, none⟩)) ∧ w.heap.size ≤ r ∧ Bq r t cs w' ∧ Below w.heap.size w w'
section
variable {q r : Nat} {t : TypeId} {nx v0 v1 v2 v3 v4 : Value} {s f g : Int} {w w' : World}
theorem slotAt_any (s f : Int) (w : World) : Calls Tryz.prog 121 #[.int .i64 s, .int .i64 f] w fun e w' => e = .returned (.agg #[.int .u8 9, .int .i64 s, .int .i64 f]) ∧ Below w.heap.size w w' := by
  go_enter Tryz.func121, Tryz.ntmps121
  go_wp2
  exact bodyPost_ret (v := .agg #[.int .u8 9, .int .i64 s, .int .i64 f]) (by simp [results, Tryz.results121, go_sem]) rfl ⟨rfl, (Below.refl _ _).alloc (Nat.le_refl _) _⟩
theorem segAt_any (s f g : Int) (hg : Int.tdiv s 8 = g) (hw : IntKind.i64.wrap g = g) (w : World) : Calls Tryz.prog 145 #[.int .i64 s, .int .i64 f] w fun e w' => e = .returned (.agg #[.int .u8 6, .int .i64 g, .int .i64 f]) ∧ Below w.heap.size w w' := by
  go_enter Tryz.func145, Tryz.ntmps145
  go_wp2
  exact bodyPost_ret (v := .agg #[.int .u8 6, .int .i64 g, .int .i64 f]) (by simp [results, Tryz.results145, go_sem]) rfl ⟨rfl, (Below.refl _ _).alloc (Nat.le_refl _) _⟩
theorem may_yes (h0 : 0 ≤ s) (h1 : s < 256) (w : World) : Calls Tryz.prog 87 #[.int .i64 s] w fun e w' => e = .returned (.bool true) ∧ w' = w := by
  go_enter Tryz.func87, Tryz.ntmps87
  go_wp2
  go_ret
  exact ⟨rfl, rfl⟩
theorem newHeader_any (s : Int) (w : World) : Calls Tryz.prog 88 #[.int .i64 s] w (NewAt 209 [.int .u8 9, .int .i64 s, .int .i64 0, .int .u64 0] w) := by
  go_enter Tryz.func88, Tryz.ntmps88
  go_wp2_with fail
  ((with_reducible refine (slotAt_any s 0 _).mono ?_); rintro e w1 ⟨rfl, hb⟩)
  have HB := Lib.hid hb
  clear hb
  go_wp2_with fail
  go_ret
  exact ⟨_, rfl, HB.out.size, Bq.new _ _ _, HB.out.alloc HB.out.size _⟩
theorem newState_any (s : Int) (hg : Int.tdiv s 8 = g) (hw : IntKind.i64.wrap g = g) (w : World) : Calls Tryz.prog 122 #[.int .i64 s] w (NewAt 213 [.int .u8 6, .int .i64 g, .int .i64 0, .int .u64 0] w) := by
  go_enter Tryz.func122, Tryz.ntmps122
  go_wp2_with fail
  ((with_reducible refine (segAt_any s 0 g hg hw _).mono ?_); rintro e w1 ⟨rfl, hb⟩)
  have HB := Lib.hid hb
  clear hb
  go_wp2_with fail
  go_ret
  exact ⟨_, rfl, HB.out.size, Bq.new _ _ _, HB.out.alloc HB.out.size _⟩
theorem newAside_any (s : Int) (hg : Int.tdiv s 8 = g) (hw : IntKind.i64.wrap g = g) (w : World) : Calls Tryz.prog 124 #[.int .i64 s] w (NewAt 249 [.int .u8 6, .int .i64 g, .int .i64 1, .int .i64 1, .int .u64 0, .bool false] w) := by
  go_enter Tryz.func124, Tryz.ntmps124
  go_wp2_with fail
  ((with_reducible refine (segAt_any s 1 g hg hw _).mono ?_); rintro e w1 ⟨rfl, hb⟩)
  have HB := Lib.hid hb
  clear hb
  go_wp2_with fail
  go_ret
  exact ⟨_, rfl, HB.out.size, Bq.new _ _ _, HB.out.alloc HB.out.size _⟩
theorem overAlloc_no (k : Bq q 167 [.iface t v0, v1, v2, v3, v4] w) : Calls Tryz.prog 58 #[.pointer (some ⟨q, 0, none⟩)] w fun e w' => e = .returned (.bool false) ∧ w' = w := by
  have c0 : w.cell? ⟨q, 0, none⟩ = some (.iface t v0) := k.cell 0
  go_enter Tryz.func58, Tryz.ntmps58
  go_wp2
  go_ret
  exact ⟨rfl, rfl⟩
theorem overAlloc_yes (k : Bq q 167 [.nilIface, v1, v2, v3, v4] w) : Calls Tryz.prog 58 #[.pointer (some ⟨q, 0, none⟩)] w fun e w' => e = .returned (.bool true) ∧ w' = w := by
  have c0 : w.cell? ⟨q, 0, none⟩ = some (.nilIface) := k.cell 0
  go_enter Tryz.func58, Tryz.ntmps58
  go_wp2
  go_ret
  exact ⟨rfl, rfl⟩
theorem stepAlloc_over (m : Value) (k : Bq q 167 [.nilIface, v1, v2, v3, v4] w) : Calls Tryz.prog 52 #[.pointer (some ⟨q, 0, none⟩), m] w fun e w' => e = .returned (.bool true) ∧ w' = w := by
  have HK := Lib.hid k
  clear k
  go_enter Tryz.func52, Tryz.ntmps52
  go_wp2_with (go_at_call 58; refine (overAlloc_yes HK.out).mono ?_; rintro e w' ⟨rfl, rfl⟩)
  go_ret
  exact ⟨rfl, rfl⟩
theorem overPark_no (k : Bq q 245 [.iface t v0, v1, v2, v3] w) : Calls Tryz.prog 196 #[.pointer (some ⟨q, 0, none⟩)] w fun e w' => e = .returned (.bool false) ∧ w' = w := by
  have c0 : w.cell? ⟨q, 0, none⟩ = some (.iface t v0) := k.cell 0
  go_enter Tryz.func196, Tryz.ntmps196
  go_wp2
  go_ret
  exact ⟨rfl, rfl⟩
theorem overPark_yes (k : Bq q 245 [.nilIface, v1, v2, v3] w) : Calls Tryz.prog 196 #[.pointer (some ⟨q, 0, none⟩)] w fun e w' => e = .returned (.bool true) ∧ w' = w := by
  have c0 : w.cell? ⟨q, 0, none⟩ = some (.nilIface) := k.cell 0
  go_enter Tryz.func196, Tryz.ntmps196
  go_wp2
  go_ret
  exact ⟨rfl, rfl⟩
theorem stepPark_over (m : Value) (k : Bq q 245 [.nilIface, v1, v2, v3] w) : Calls Tryz.prog 195 #[.pointer (some ⟨q, 0, none⟩), m] w fun e w' => e = .returned (.bool true) ∧ w' = w := by
  have HK := Lib.hid k
  clear k
  go_enter Tryz.func195, Tryz.ntmps195
  go_wp2_with (go_at_call 196; refine (overPark_yes HK.out).mono ?_; rintro e w' ⟨rfl, rfl⟩)
  go_ret
  exact ⟨rfl, rfl⟩
theorem newPark_yes (h0 : 0 ≤ s) (h1 : s < 256) (w : World) : Calls Tryz.prog 123 #[.int .i64 s] w fun e w' => ∃ q r, e = .returned (.pointer (some ⟨q, 0, none⟩)) ∧ w.heap.size ≤ r ∧ r < q ∧ Bq q 245 [.iface 162 (.pointer (some ⟨r, 0, none⟩)), .int .i64 s, .int .u32 0, .bool false] w' ∧ Bq r 209 [.int .u8 9, .int .i64 s, .int .i64 0, .int .u64 0] w' ∧ Below w.heap.size w w' := by
  go_enter Tryz.func123, Tryz.ntmps123
  go_wp2_with fail
  ((with_reducible refine (may_yes h0 h1 _).mono ?_); rintro e w1 ⟨rfl, rfl⟩)
  go_wp2_with fail
  ((with_reducible refine (newHeader_any s _).mono ?_); rintro e w2 ⟨r, rfl, hr, hk, hb⟩)
  have HB := Lib.hid hb
  have HK := Lib.hid hk
  clear hb hk
  go_wp2_with fail
  go_ret
  exact ⟨_, r, rfl, hr, HK.out.lt, Bq.new _ _ _, HK.out.below ((Below.refl _ _).alloc (Nat.le_refl _) _), HB.out.alloc HB.out.size _⟩
theorem newAlloc_any (w : World) : Calls Tryz.prog 51 #[] w fun e w' => ∃ q r, e = .returned (.pointer (some ⟨q, 0, none⟩)) ∧ w.heap.size ≤ r ∧ r < q ∧ Bq q 167 [.iface 164 (.pointer (some ⟨r, 0, none⟩)), .int .i64 0, .int .u32 0, .bool false, .bool false] w' ∧ OpAt 210 r 1 0 0 w' ∧ Below w.heap.size w w' := by
  go_enter Tryz.func51, Tryz.ntmps51
  go_wp2_with fail
  ((with_reducible refine (newPop_any _).mono ?_); rintro e w2 ⟨rfl, hk, hb, -⟩)
  have HB := Lib.hid hb
  have HK := Lib.hid hk
  clear hb hk
  go_wp2_with fail
  go_ret
  exact ⟨_, _, rfl, Nat.le_refl _, HK.out.lt, Bq.new _ _ _, HK.out.below ((Below.refl _ _).alloc (Nat.le_refl _) _), HB.out.alloc HB.out.size _⟩
theorem gotAlloc_no (k : Bq q 167 [nx, v1, v2, v3, .bool false] w) : Calls Tryz.prog 53 #[.pointer (some ⟨q, 0, none⟩)] w fun e w' => e = .returned (.tuple #[.agg #[.int .i64 (-1), .int .u32 0, .bool false], .bool false]) ∧ Below w.heap.size w w' := by
  have c4 : (w.alloc (.cells #[.int .i64 0, .int .u32 0, .bool false] 85)).cell? ⟨q, 4, none⟩ = some (.bool false) := (k.below ((Below.refl _ _).alloc (Nat.le_refl _) _)).cell 4
  go_enter Tryz.func53, Tryz.ntmps53
  go_wp2
  exact bodyPost_ret (v := .tuple #[.agg #[.int .i64 (-1), .int .u32 0, .bool false], .bool false]) (by simp [results, Tryz.results53, go_sem]) rfl ⟨rfl, (Below.refl _ _).alloc (Nat.le_refl _) _⟩
theorem gotAlloc_yes {m : Bool} (k : Bq q 167 [nx, .int .i64 s, .int .u32 g, .bool m, .bool true] w) : Calls Tryz.prog 53 #[.pointer (some ⟨q, 0, none⟩)] w fun e w' => e = .returned (.tuple #[.agg #[.int .i64 s, .int .u32 g, .bool m], .bool true]) ∧ Below w.heap.size w w' := by
  have k' := k.below ((Below.refl _ w).alloc (Nat.le_refl _) (.cells #[.int .i64 0, .int .u32 0, .bool false] 85))
  have c1 := k'.cell 1
  have c2 := k'.cell 2
  have c3 := k'.cell 3
  have c4 := k'.cell 4
  simp only [List.getElem?_cons_zero, List.getElem?_cons_succ] at c1 c2 c3 c4
  clear k k'
  go_enter Tryz.func53, Tryz.ntmps53
  go_wp2
  exact bodyPost_ret (v := .tuple #[.agg #[.int .i64 s, .int .u32 g, .bool m], .bool true]) (by simp [results, Tryz.results53, go_sem]) rfl ⟨rfl, (Below.refl _ _).alloc (Nat.le_refl _) _⟩
end
end Go.Proofs.YtmjcbjcnmgleaaaGreatDoor
namespace Go.Proofs.YtmjcbjcnmgleaaaGreatDoor
open Go.RowKit Go.Maps
section
variable {p q : Nat} {pt : TypeId} {f : FuncId} {rv v1 v2 v3 v4 u1 u2 u3 u4 : Value} {w : World} {R : World → Prop} {S : Value → World → Prop}
set_option maxRecDepth 100000 in
set_option maxHeartbeats 4000000 in
theorem parkStep_no (he : ∀ args X, (callFunc f args).run Tryz.prog X = .ok (.enter f args) X) (hm : ∀ X, (method (409) pt rv "Step").run Tryz.prog X = .ok (f, rv) X) (k : Bq q 245 [.iface pt rv, v1, v2, v3] w)
    (hs : Calls Tryz.prog f #[rv, .pointer (some ⟨p, 0, none⟩)] w fun e w1 => e = .returned (.bool false) ∧ R w1) (hR : ∀ w1, R w1 → Bq q 245 [.iface pt rv, v1, v2, v3] w1) :
    Calls Tryz.prog 195 #[.pointer (some ⟨q, 0, none⟩), .pointer (some ⟨p, 0, none⟩)] w fun e w' => e = .returned (.bool false) ∧ R w' := by
  have c0 : w.cell? ⟨q, 0, none⟩ = some (.iface pt rv) := k.cell 0
  have HK := Lib.hid k
  have HS := Lib.hid hs
  have HR := Lib.hid hR
  clear k hs hR
  go_enter Tryz.func195, Tryz.ntmps195
  go_wp2_with fail
  ((with_reducible refine (overPark_no HK.out).mono ?_); rintro e w1 ⟨rfl, rfl⟩)
  go_wp2_with fail
  ((with_reducible refine HS.out.mono ?_); rintro e w2 ⟨rfl, h2⟩)
  have HK2 := Lib.hid (HR.out _ h2)
  go_wp2_with fail
  ((with_reducible refine (overPark_no HK2.out).mono ?_); rintro e w3 ⟨rfl, rfl⟩)
  go_wp2_with fail
  go_ret
  exact ⟨rfl, h2⟩
set_option maxRecDepth 100000 in
set_option maxHeartbeats 4000000 in
theorem parkStep_on (he : ∀ args X, (callFunc f args).run Tryz.prog X = .ok (.enter f args) X) (hm : ∀ X, (method (409) pt rv "Step").run Tryz.prog X = .ok (f, rv) X) (k : Bq q 245 [.iface pt rv, v1, v2, v3] w)
    (hs : Calls Tryz.prog f #[rv, .pointer (some ⟨p, 0, none⟩)] w fun e w1 => e = .returned (.bool true) ∧ R w1)
    (hR : ∀ w1, R w1 → Calls Tryz.prog 197 #[.pointer (some ⟨q, 0, none⟩)] w1 fun e w2 => ∃ t z, e = .returned (.iface t z) ∧ S (.iface t z) w2)
    (hS : ∀ z X, S z X → ∃ u1 u2 u3, Bq q 245 [.iface pt rv, u1, u2, u3] X) :
    Calls Tryz.prog 195 #[.pointer (some ⟨q, 0, none⟩), .pointer (some ⟨p, 0, none⟩)] w fun e w' => ∃ t z X, S (.iface t z) X ∧ e = .returned (.bool false) ∧ w' = X.setCell ⟨q, 0, none⟩ (.iface t z) := by
  have c0 : w.cell? ⟨q, 0, none⟩ = some (.iface pt rv) := k.cell 0
  have HK := Lib.hid k
  have HS := Lib.hid hs
  have HR := Lib.hid hR
  have HSS := Lib.hid hS
  clear k hs hR hS
  go_enter Tryz.func195, Tryz.ntmps195
  go_wp2_with fail
  ((with_reducible refine (overPark_no HK.out).mono ?_); rintro e w1 ⟨rfl, rfl⟩)
  go_wp2_with fail
  ((with_reducible refine HS.out.mono ?_); rintro e w2 ⟨rfl, h2⟩)
  go_wp2_with fail
  ((with_reducible refine (HR.out _ h2).mono ?_); rintro e w3 ⟨t, z, rfl, h3⟩)
  obtain ⟨u1, u2, u3, k3⟩ := HSS.out _ _ h3
  have z0 := k3.free 0
  have c3 : w3.cell? ⟨q, 0, none⟩ = some (.iface pt rv) := k3.cell 0
  have HK3 := Lib.hid (k3.set 0 (.iface t z) rfl)
  clear k3
  go_wp2_with fail
  ((with_reducible refine (overPark_no HK3.out).mono ?_); rintro e w4 ⟨rfl, rfl⟩)
  go_wp2_with fail
  go_ret
  exact ⟨t, z, _, h3, rfl, rfl⟩
set_option maxRecDepth 100000 in
set_option maxHeartbeats 4000000 in
theorem parkStep_end (he : ∀ args X, (callFunc f args).run Tryz.prog X = .ok (.enter f args) X) (hm : ∀ X, (method (409) pt rv "Step").run Tryz.prog X = .ok (f, rv) X) (k : Bq q 245 [.iface pt rv, v1, v2, v3] w)
    (hs : Calls Tryz.prog f #[rv, .pointer (some ⟨p, 0, none⟩)] w fun e w1 => e = .returned (.bool true) ∧ R w1)
    (hR : ∀ w1, R w1 → Calls Tryz.prog 197 #[.pointer (some ⟨q, 0, none⟩)] w1 fun e w2 => e = .returned .nilIface ∧ S .nilIface w2)
    (hS : ∀ z X, S z X → ∃ u1 u2 u3, Bq q 245 [.iface pt rv, u1, u2, u3] X) :
    Calls Tryz.prog 195 #[.pointer (some ⟨q, 0, none⟩), .pointer (some ⟨p, 0, none⟩)] w fun e w' => ∃ X, S .nilIface X ∧ e = .returned (.bool true) ∧ w' = X.setCell ⟨q, 0, none⟩ .nilIface := by
  have c0 : w.cell? ⟨q, 0, none⟩ = some (.iface pt rv) := k.cell 0
  have HK := Lib.hid k
  have HS := Lib.hid hs
  have HR := Lib.hid hR
  have HSS := Lib.hid hS
  clear k hs hR hS
  go_enter Tryz.func195, Tryz.ntmps195
  go_wp2_with fail
  ((with_reducible refine (overPark_no HK.out).mono ?_); rintro e w1 ⟨rfl, rfl⟩)
  go_wp2_with fail
  ((with_reducible refine HS.out.mono ?_); rintro e w2 ⟨rfl, h2⟩)
  go_wp2_with fail
  ((with_reducible refine (HR.out _ h2).mono ?_); rintro e w3 ⟨rfl, h3⟩)
  obtain ⟨u1, u2, u3, k3⟩ := HSS.out _ _ h3
  have z0 := k3.free 0
  have c3 : w3.cell? ⟨q, 0, none⟩ = some (.iface pt rv) := k3.cell 0
  have HK3 := Lib.hid (k3.set 0 (.nilIface) rfl)
  clear k3
  go_wp2_with fail
  ((with_reducible refine (overPark_yes HK3.out).mono ?_); rintro e w4 ⟨rfl, rfl⟩)
  go_wp2_with fail
  go_ret
  exact ⟨_, h3, rfl, rfl⟩
set_option maxRecDepth 100000 in
set_option maxHeartbeats 4000000 in
theorem allocStep_no (he : ∀ args X, (callFunc f args).run Tryz.prog X = .ok (.enter f args) X) (hm : ∀ X, (method (409) pt rv "Step").run Tryz.prog X = .ok (f, rv) X) (k : Bq q 167 [.iface pt rv, v1, v2, v3, v4] w)
    (hs : Calls Tryz.prog f #[rv, .pointer (some ⟨p, 0, none⟩)] w fun e w1 => e = .returned (.bool false) ∧ R w1) (hR : ∀ w1, R w1 → Bq q 167 [.iface pt rv, v1, v2, v3, v4] w1) :
    Calls Tryz.prog 52 #[.pointer (some ⟨q, 0, none⟩), .pointer (some ⟨p, 0, none⟩)] w fun e w' => e = .returned (.bool false) ∧ R w' := by
  have c0 : w.cell? ⟨q, 0, none⟩ = some (.iface pt rv) := k.cell 0
  have HK := Lib.hid k
  have HS := Lib.hid hs
  have HR := Lib.hid hR
  clear k hs hR
  go_enter Tryz.func52, Tryz.ntmps52
  go_wp2_with fail
  ((with_reducible refine (overAlloc_no HK.out).mono ?_); rintro e w1 ⟨rfl, rfl⟩)
  go_wp2_with fail
  ((with_reducible refine HS.out.mono ?_); rintro e w2 ⟨rfl, h2⟩)
  have HK2 := Lib.hid (HR.out _ h2)
  go_wp2_with fail
  ((with_reducible refine (overAlloc_no HK2.out).mono ?_); rintro e w3 ⟨rfl, rfl⟩)
  go_wp2_with fail
  go_ret
  exact ⟨rfl, h2⟩
set_option maxRecDepth 100000 in
set_option maxHeartbeats 4000000 in
theorem allocStep_on (he : ∀ args X, (callFunc f args).run Tryz.prog X = .ok (.enter f args) X) (hm : ∀ X, (method (409) pt rv "Step").run Tryz.prog X = .ok (f, rv) X) (k : Bq q 167 [.iface pt rv, v1, v2, v3, v4] w)
    (hs : Calls Tryz.prog f #[rv, .pointer (some ⟨p, 0, none⟩)] w fun e w1 => e = .returned (.bool true) ∧ R w1)
    (hR : ∀ w1, R w1 → Calls Tryz.prog 90 #[.pointer (some ⟨q, 0, none⟩)] w1 fun e w2 => ∃ t z, e = .returned (.iface t z) ∧ S (.iface t z) w2)
    (hS : ∀ z X, S z X → ∃ u1 u2 u3 u4, Bq q 167 [.iface pt rv, u1, u2, u3, u4] X) :
    Calls Tryz.prog 52 #[.pointer (some ⟨q, 0, none⟩), .pointer (some ⟨p, 0, none⟩)] w fun e w' => ∃ t z X, S (.iface t z) X ∧ e = .returned (.bool false) ∧ w' = X.setCell ⟨q, 0, none⟩ (.iface t z) := by
  have c0 : w.cell? ⟨q, 0, none⟩ = some (.iface pt rv) := k.cell 0
  have HK := Lib.hid k
  have HS := Lib.hid hs
  have HR := Lib.hid hR
  have HSS := Lib.hid hS
  clear k hs hR hS
  go_enter Tryz.func52, Tryz.ntmps52
  go_wp2_with fail
  ((with_reducible refine (overAlloc_no HK.out).mono ?_); rintro e w1 ⟨rfl, rfl⟩)
  go_wp2_with fail
  ((with_reducible refine HS.out.mono ?_); rintro e w2 ⟨rfl, h2⟩)
  go_wp2_with fail
  ((with_reducible refine (HR.out _ h2).mono ?_); rintro e w3 ⟨t, z, rfl, h3⟩)
  obtain ⟨u1, u2, u3, u4, k3⟩ := HSS.out _ _ h3
  have z0 := k3.free 0
  have c3 : w3.cell? ⟨q, 0, none⟩ = some (.iface pt rv) := k3.cell 0
  have HK3 := Lib.hid (k3.set 0 (.iface t z) rfl)
  clear k3
  go_wp2_with fail
  ((with_reducible refine (overAlloc_no HK3.out).mono ?_); rintro e w4 ⟨rfl, rfl⟩)
  go_wp2_with fail
  go_ret
  exact ⟨t, z, _, h3, rfl, rfl⟩
set_option maxRecDepth 100000 in
set_option maxHeartbeats 4000000 in
theorem allocStep_end (he : ∀ args X, (callFunc f args).run Tryz.prog X = .ok (.enter f args) X) (hm : ∀ X, (method (409) pt rv "Step").run Tryz.prog X = .ok (f, rv) X) (k : Bq q 167 [.iface pt rv, v1, v2, v3, v4] w)
    (hs : Calls Tryz.prog f #[rv, .pointer (some ⟨p, 0, none⟩)] w fun e w1 => e = .returned (.bool true) ∧ R w1)
    (hR : ∀ w1, R w1 → Calls Tryz.prog 90 #[.pointer (some ⟨q, 0, none⟩)] w1 fun e w2 => e = .returned .nilIface ∧ S .nilIface w2)
    (hS : ∀ z X, S z X → ∃ u1 u2 u3 u4, Bq q 167 [.iface pt rv, u1, u2, u3, u4] X) :
    Calls Tryz.prog 52 #[.pointer (some ⟨q, 0, none⟩), .pointer (some ⟨p, 0, none⟩)] w fun e w' => ∃ X, S .nilIface X ∧ e = .returned (.bool true) ∧ w' = X.setCell ⟨q, 0, none⟩ .nilIface := by
  have c0 : w.cell? ⟨q, 0, none⟩ = some (.iface pt rv) := k.cell 0
  have HK := Lib.hid k
  have HS := Lib.hid hs
  have HR := Lib.hid hR
  have HSS := Lib.hid hS
  clear k hs hR hS
  go_enter Tryz.func52, Tryz.ntmps52
  go_wp2_with fail
  ((with_reducible refine (overAlloc_no HK.out).mono ?_); rintro e w1 ⟨rfl, rfl⟩)
  go_wp2_with fail
  ((with_reducible refine HS.out.mono ?_); rintro e w2 ⟨rfl, h2⟩)
  go_wp2_with fail
  ((with_reducible refine (HR.out _ h2).mono ?_); rintro e w3 ⟨rfl, h3⟩)
  obtain ⟨u1, u2, u3, u4, k3⟩ := HSS.out _ _ h3
  have z0 := k3.free 0
  have c3 : w3.cell? ⟨q, 0, none⟩ = some (.iface pt rv) := k3.cell 0
  have HK3 := Lib.hid (k3.set 0 (.nilIface) rfl)
  clear k3
  go_wp2_with fail
  ((with_reducible refine (overAlloc_yes HK3.out).mono ?_); rintro e w4 ⟨rfl, rfl⟩)
  go_wp2_with fail
  go_ret
  exact ⟨_, h3, rfl, rfl⟩
end
end Go.Proofs.YtmjcbjcnmgleaaaGreatDoor
