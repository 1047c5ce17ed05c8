/-
  Package allocs: its lines, a load, a store, a swap, a count: what each does; condition: the tables as laid, the line and the memory lie as they say, numbers of their kinds.
-/
import Derived.Test.YtmjcbjcnmgleaaaGreatDoorVM2
import Derived.Deep.RegionWith
namespace Go.Proofs.YtmjcbjcnmgleaaaGreatDoor
open Go.RowKit Go.Maps

section
variable {p b r : Nat} {t : TypeId} {M : MV} {x : Ad} {g u v n : Int} {d : Bool} {w w' : World}
theorem Bq.s4 {c0 c1 c2 c3 : Value} (k : Bq r t [c0, c1, c2, c3] w) : w.cell? ⟨r, 0, none⟩ = some c0 ∧ w.cell? ⟨r, 1, none⟩ = some c1 ∧ w.cell? ⟨r, 2, none⟩ = some c2 ∧ w.cell? ⟨r, 3, none⟩ = some c3 ∧ ∀ i, w.frozen? ⟨r, i, none⟩ = false := ⟨k.cell 0, k.cell 1, k.cell 2, k.cell 3, k.free⟩
theorem Bq.s6 {c0 c1 c2 c3 c4 c5 : Value} (k : Bq r t [c0, c1, c2, c3, c4, c5] w) : w.cell? ⟨r, 0, none⟩ = some c0 ∧ w.cell? ⟨r, 1, none⟩ = some c1 ∧ w.cell? ⟨r, 2, none⟩ = some c2 ∧ w.cell? ⟨r, 3, none⟩ = some c3 ∧ w.cell? ⟨r, 4, none⟩ = some c4 ∧ w.cell? ⟨r, 5, none⟩ = some c5 ∧ ∀ i, w.frozen? ⟨r, i, none⟩ = false := ⟨k.cell 0, k.cell 1, k.cell 2, k.cell 3, k.cell 4, k.cell 5, k.free⟩
theorem Bq.only {cs : List Value} (k : Bq r t cs w) (F : VX p b M w) (ht : t ≠ 121) (h : Only p b w w') : Bq r t cs w' := k.same (h.block r k.lt (F.ne ht k).1 (F.ne ht k).2)
def LdC (x : Ad) (g : Int) : List Value := [.int .u8 x.k, .int .i64 x.a, .int .i64 x.f, .int .u64 g]
def SwC (x : Ad) (u v : Int) (d : Bool) : List Value := [.int .u8 x.k, .int .i64 x.a, .int .i64 x.f, .int .u64 u, .int .u64 v, .bool d]
def CtC (x : Ad) (g u : Int) (d : Bool) : List Value := [.int .u8 x.k, .int .i64 x.a, .int .i64 x.f, .int .i64 g, .int .u64 u, .bool d]
set_option maxRecDepth 100000 in
set_option maxHeartbeats 4000000 in
theorem loadLn_step (hr : 1 < r) (ht : t ≠ 121) (F : VX p b M w) (hs : M.s.st < 1000000) (k : Bq r t (LdC x g) w) :
    Calls Tryz.prog 189 #[.pointer (some ⟨r, 0, none⟩), .pointer (some ⟨p, 0, none⟩)] w fun e w' => e = .returned (.bool true) ∧ Bq r t (LdC x (M.V x)) w' ∧ VX p b (ldM M x) w' ∧ Onl p b [r] w w' := by
  obtain ⟨c0, c1, c2, c3, z⟩ := Bq.s4 k
  have HK := Lib.hid k
  have HF := Lib.hid F
  clear k F
  go_enter Tryz.func189, Tryz.ntmps189
  go_wp2_with fail
  ((with_reducible refine (HF.out.load hs x).mono ?_); rintro ee w1 ⟨rfl, F1, h1⟩)
  have HK1 := Lib.hid (HK.out.only HF.out ht h1)
  have HF1 := Lib.hid F1
  have HO1 := Lib.hid (Onl.of_only (E := [r]) h1)
  have hne := HF.out.ne ht HK.out
  clear c0 c1 c2 c3 z F1 h1
  obtain ⟨c0, c1, c2, c3, z⟩ := Bq.s4 HK1.out
  have z3 := z 3
  clear z
  go_wp2_with fail
  go_ret
  exact ⟨rfl, HK1.out.set 3 (.int .u64 (M.V x)) rfl, HF1.out.setQ hne.1 hne.2 hr 3 _, HO1.out.trans (.setCell _ (by simp) 3 _)⟩
def St4 (r : Nat) (c0 c1 c2 c3 : Value) (W : World) : Prop := W.cell? ⟨r, 0, none⟩ = some c0 ∧ W.cell? ⟨r, 1, none⟩ = some c1 ∧ W.cell? ⟨r, 2, none⟩ = some c2 ∧ W.cell? ⟨r, 3, none⟩ = some c3
theorem Bq.t4 {c0 c1 c2 c3 : Value} (k : Bq r t [c0, c1, c2, c3] w) : St4 r c0 c1 c2 c3 w := ⟨k.cell 0, k.cell 1, k.cell 2, k.cell 3⟩
theorem LdC.t4 (k : Bq r t (LdC x g) w) : St4 r (.int .u8 x.k) (.int .i64 x.a) (.int .i64 x.f) (.int .u64 g) w := Bq.t4 k
set_option maxRecDepth 100000 in
set_option maxHeartbeats 4000000 in
theorem storeLn_step (ht : t ≠ 121) (F : VX p b M w) (hs : M.s.st < 1000000) (hv : U64 v) (k : Bq r t (LdC x v) w) :
    Calls Tryz.prog 199 #[.pointer (some ⟨r, 0, none⟩), .pointer (some ⟨p, 0, none⟩)] w fun e w' => e = .returned (.bool true) ∧ Bq r t (LdC x v) w' ∧ VX p b (stM M x v) w' ∧ Onl p b [] w w' := by
  have hd := (Below.refl w.heap.size w).drew
  have HK := Lib.hid (k.below hd)
  have HF := Lib.hid (F.below hd)
  have HO := Lib.hid (Onl.of_below (p := p) (b := b) (E := []) hd)
  have hS := Lib.hid (LdC.t4 HK.out)
  clear k F hd
  go_enter Tryz.func199, Tryz.ntmps199
  go_wp2_with fail
  go_region_held3 (fun w1 => w1.cell? ⟨r, 0, none⟩ = some (.int .u8 x.k) ∧ w1.cell? ⟨r, 1, none⟩ = some (.int .i64 x.a) ∧ w1.cell? ⟨r, 2, none⟩ = some (.int .i64 x.f) ∧ w1.cell? ⟨r, 3, none⟩ = some (.int .u64 v))
    (first | exact hS.out | exact hS1.out | fail)
    (first
      | (go_at_call 32; with_reducible refine (HF.out.store hs x v hv).mono ?_; rintro e wB ⟨rfl, FB, hB⟩; have HKB := Lib.hid (HK.out.only HF.out ht hB); have hS1 := Lib.hid (LdC.t4 HKB.out); have HFB := Lib.hid FB; have HOB := Lib.hid (HO.out.trans (Onl.of_only hB)); clear FB hB)
      | fail)
  go_wp2_with fail
  go_ret
  exact ⟨rfl, HKB.out, HFB.out, HOB.out⟩
def St6 (r : Nat) (c0 c1 c2 c3 c4 : Value) (W : World) : Prop := W.cell? ⟨r, 0, none⟩ = some c0 ∧ W.cell? ⟨r, 1, none⟩ = some c1 ∧ W.cell? ⟨r, 2, none⟩ = some c2 ∧ W.cell? ⟨r, 3, none⟩ = some c3 ∧ W.cell? ⟨r, 4, none⟩ = some c4 ∧ W.frozen? ⟨r, 5, none⟩ = false
theorem SwC.t6 (k : Bq r t (SwC x u v d) w) : St6 r (.int .u8 x.k) (.int .i64 x.a) (.int .i64 x.f) (.int .u64 u) (.int .u64 v) w := ⟨k.cell 0, k.cell 1, k.cell 2, k.cell 3, k.cell 4, k.free 5⟩
theorem CtC.t6 (k : Bq r t (CtC x g u d) w) : St6 r (.int .u8 x.k) (.int .i64 x.a) (.int .i64 x.f) (.int .i64 g) (.int .u64 u) w := ⟨k.cell 0, k.cell 1, k.cell 2, k.cell 3, k.cell 4, k.free 5⟩
set_option maxRecDepth 100000 in
set_option maxHeartbeats 4000000 in
theorem swapLn_step (hr : 1 < r) (ht : t ≠ 121) (F : VX p b M w) (hs : M.s.st < 1000000) (hv : U64 v) (k : Bq r t (SwC x u v d) w) {c : Bool} (hc : casV M.V x u = c) :
    Calls Tryz.prog 202 #[.pointer (some ⟨r, 0, none⟩), .pointer (some ⟨p, 0, none⟩)] w fun e w' => e = .returned (.bool true) ∧ Bq r t (SwC x u v c) w' ∧ VX p b (csM M x u v) w' ∧ Onl p b [r] w w' := by
  subst hc
  have hd := (Below.refl w.heap.size w).drew
  have HK := Lib.hid (k.below hd)
  have HF := Lib.hid (F.below hd)
  have HO := Lib.hid (Onl.of_below (p := p) (b := b) (E := [r]) hd)
  have hne := F.ne ht k
  clear k F hd
  go_enter Tryz.func202, Tryz.ntmps202
  go_wp2_with fail
  obtain ⟨c0, c1, c2, c3, c4, c5, _⟩ := Bq.s6 HK.out
  go_region_with (go_at_call 108; with_reducible refine (HF.out.cas hs x u v hv).mono ?_; rintro ee w1 ⟨rfl, F1, h1⟩; have HK1 := Lib.hid (HK.out.only HF.out ht h1); have HF1 := Lib.hid F1; have HO1 := Lib.hid (HO.out.trans (Onl.of_only h1)); clear c0 c1 c2 c3 c4 c5 F1 h1; obtain ⟨c0, c1, c2, c3, c4, c5, z⟩ := Bq.s6 HK1.out; have z5 := z 5; clear z)
  all_goals
    go_wp2_with fail
    go_ret
    exact ⟨rfl, HK1.out.set 5 (.bool (casV M.V x u)) rfl, HF1.out.setQ hne.1 hne.2 hr 5 _, HO1.out.trans (.setCell _ (by simp) 5 _)⟩
set_option maxRecDepth 100000 in
set_option maxHeartbeats 4000000 in
theorem count_load (hr : 1 < r) (ht : t ≠ 121) (F : VX p b M w) (hs : M.s.st < 1000000) (k : Bq r t (CtC x g u false) w) :
    Calls Tryz.prog 200 #[.pointer (some ⟨r, 0, none⟩), .pointer (some ⟨p, 0, none⟩)] w fun e w' => e = .returned (.bool false) ∧ Bq r t (CtC x g (M.V x) true) w' ∧ VX p b (ldM M x) w' ∧ Onl p b [r] w w' := by
  obtain ⟨c0, c1, c2, c3, c4, c5, _⟩ := Bq.s6 k
  have HK := Lib.hid k
  have HF := Lib.hid F
  have hne := F.ne ht k
  clear k F
  go_enter Tryz.func200, Tryz.ntmps200
  go_wp2_with fail
  ((with_reducible refine (HF.out.load hs x).mono ?_); rintro ee w1 ⟨rfl, F1, h1⟩)
  have HK1 := Lib.hid (HK.out.only HF.out ht h1)
  have HF1 := Lib.hid F1
  have HO1 := Lib.hid (Onl.of_only (E := [r]) h1)
  clear c0 c1 c2 c3 c4 c5 F1 h1
  obtain ⟨c0, c1, c2, c3, c4, c5, z⟩ := Bq.s6 HK1.out
  have z4 := z 4
  have HK2 := Lib.hid (HK1.out.set 4 (.int .u64 (M.V x)) (cs' := CtC x g (M.V x) false) rfl)
  have z5 := HK2.out.free 5
  have c25 : (w1.setCell ⟨r, 4, none⟩ (.int .u64 (M.V x))).cell? ⟨r, 5, none⟩ = some (.bool false) := HK2.out.cell 5
  clear z
  go_wp2_with fail
  go_ret
  exact ⟨rfl, HK2.out.set 5 (.bool true) rfl, (HF1.out.setQ hne.1 hne.2 hr 4 _).setQ hne.1 hne.2 hr 5 _, (HO1.out.trans (.setCell _ (by simp) 4 _)).trans (.setCell _ (by simp) 5 _)⟩
set_option maxRecDepth 100000 in
set_option maxHeartbeats 4000000 in
theorem count_cas (hr : 1 < r) (ht : t ≠ 121) (F : VX p b M w) (hs : M.s.st < 1000000) {gg : Int} (hg : IntKind.u64.wrap g = gg) (hv : IntKind.u64.wrap (u + gg) = v) (hu : U64 v) (k : Bq r t (CtC x g u true) w) {c : Bool} (hc : casV M.V x u = c) :
    Calls Tryz.prog 200 #[.pointer (some ⟨r, 0, none⟩), .pointer (some ⟨p, 0, none⟩)] w fun e w' => e = .returned (.bool c) ∧ Bq r t (CtC x g u false) w' ∧ VX p b (csM M x u v) w' ∧ Onl p b [r] w w' := by
  subst hc
  obtain ⟨c0, c1, c2, c3, c4, c5, z⟩ := Bq.s6 k
  have z5 := z 5
  have hne := F.ne ht k
  have k2 := k.set 5 (.bool false) (cs' := CtC x g u false) rfl
  have F2 := F.setQ hne.1 hne.2 hr 5 (.bool false)
  have O2 := Onl.setCell (q := r) (p := p) (b := b) (E := [r]) w (List.mem_singleton.2 rfl) 5 (.bool false)
  have hd := (Below.refl (w.setCell ⟨r, 5, none⟩ (.bool false)).heap.size (w.setCell ⟨r, 5, none⟩ (.bool false))).drew
  have HK := Lib.hid (k2.below hd)
  have HF := Lib.hid (F2.below hd)
  have HO := Lib.hid (O2.trans (Onl.of_below hd))
  clear k F hd k2 F2 O2 z
  go_enter Tryz.func200, Tryz.ntmps200
  go_wp2_with fail
  refine wp_region_still_tail 19 (by kernel_rfl) (by kernel_rfl) ?_
  change wpStill _ _ (w.setCell ⟨r, 5, none⟩ (.bool false)).drew (fun a' => wpList _ _ _ _ a' (w.setCell ⟨r, 5, none⟩ (.bool false)).drew) _ _
  clear c0 c1 c2 c3 c4 c5
  revert HK HF HO
  generalize (w.setCell ⟨r, 5, none⟩ (.bool false)).drew = wd
  intro HK HF HO
  obtain ⟨c0, c1, c2, c3, c4, c5, _⟩ := Bq.s6 HK.out
  simp only [List.take_succ_cons, List.take_zero, List.drop_succ_cons, List.drop_zero]
  iterate 19 still_step
  refine wpStill_nil ?_
  go_wp2_with fail
  ((with_reducible refine (HF.out.cas hs x u v hu).mono ?_); rintro ee w1 ⟨rfl, F1, h1⟩)
  have HK1 := Lib.hid (HK.out.only HF.out ht h1)
  have HF1 := Lib.hid F1
  have HO1 := Lib.hid (HO.out.trans (Onl.of_only h1))
  go_wp2_with fail
  go_ret
  exact ⟨rfl, HK1.out, HF1.out, HO1.out⟩
end
end Go.Proofs.YtmjcbjcnmgleaaaGreatDoor
