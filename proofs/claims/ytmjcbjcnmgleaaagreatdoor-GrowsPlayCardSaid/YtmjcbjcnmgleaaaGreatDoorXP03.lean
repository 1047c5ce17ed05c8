/-
  The program's memory; conditions as each theorem says.
-/
import Derived.Test.YtmjcbjcnmgleaaaGreatDoorXP02
import Derived.Maps.OwnSet
import Derived.Outline
namespace Go.Proofs.YtmjcbjcnmgleaaaGreatDoor
open Go.RowKit Go.Maps
structure Only (p b : Nat) (X Y : World) : Prop where
  os : Y.os = X.os
  tape : Y.tape = X.tape
  output : Y.output = X.output
  size : X.heap.size ≤ Y.heap.size
  block : ∀ q, q < X.heap.size → q ≠ p → q ≠ b → Y.heap[q]? = X.heap[q]?
theorem Only.trans {p b : Nat} {X Y Z : World} (h : Only p b X Y) (k : Only p b Y Z) : Only p b X Z :=
  ⟨k.os.trans h.os, k.tape.trans h.tape, k.output.trans h.output, Nat.le_trans h.size k.size, fun q hq h1 h2 => (k.block q (Nat.lt_of_lt_of_le hq h.size) h1 h2).trans (h.block q hq h1 h2)⟩
theorem Only.of_below {p b : Nat} {X Y : World} (h : Below X.heap.size X Y) : Only p b X Y := ⟨h.os, h.tape, h.output, h.size, fun q hq _ _ => h.block q hq⟩
theorem Only.refl (p b : Nat) (X : World) : Only p b X X := Only.of_below (Below.refl _ X)
theorem Only.setCell (p b : Nat) (X : World) (i : Nat) (v : Value) : Only p b X (X.setCell ⟨p, i, none⟩ v) :=
  ⟨rfl, rfl, rfl, by simp [World.setCell], fun q _ h1 _ => Below.heap_setCell X ⟨p, i, none⟩ v q h1⟩
theorem Only.grown {p b : Nat} {X Y : World} (h : X.grownBy Y (some b)) : Only p b X Y := ⟨h.os, h.tape, h.output, h.size, fun q hq _ h2 => h.block q hq (by simpa using h2)⟩
theorem Only.below {p b B : Nat} {X Y : World} (h : Only p b X Y) (hp : B ≤ p) (hb : B ≤ b) (hB : B ≤ X.heap.size) : Below B X Y :=
  ⟨h.os, h.tape, h.output, h.size, fun k hk => h.block k (by omega) (by omega) (by omega)⟩
theorem setCell_blk {w : World} {p : Nat} {c : Array Value} {t : TypeId} {fr : Nat × Nat} (h : w.heap[p]? = some (.cells c t fr)) (i : Nat) (v : Value) : (w.setCell ⟨p, i, none⟩ v).heap[p]? = some (.cells (c.setIfInBounds i v) t fr) := by
  obtain ⟨hlt, hk⟩ := Array.getElem?_eq_some_iff.1 h
  show (w.heap.modify p _)[p]? = _
  rw [Array.getElem?_eq_getElem (by rw [Array.size_modify]; exact hlt), Array.getElem_modify_self, hk]
  rfl
theorem zero32 : ∀ w : World, (zeroValue 34).run Tryz.prog w = .ok (.int .u64 0) w := Tryz.zeroValue34
def valD (D : DataW Unit) (x : Ad) : Int := match D.atKey x.lit (.lit (.int .u64 0)) with | .lit (.int _ c) => c | _ => 0
def putD (D : DataW Unit) (x : Ad) (v : Int) : DataW Unit := if v = 0 then D.del x.lit else D.put x.lit (.lit (.int .u64 v))
theorem valD_put_same (D : DataW Unit) (hD : IsMap D) (x : Ad) (v : Int) : valD (putD D x v) x = v := by
  unfold putD valD
  by_cases hv : v = 0
  · rw [if_pos hv, atKey_del_same, hv]
  · rw [if_neg hv, atKey_put_same hD x.lit_key]
theorem valD_put_other (D : DataW Unit) {x y : Ad} (e : y ≠ x) (v : Int) : valD (putD D x v) y = valD D y := by
  unfold putD valD
  by_cases hv : v = 0
  · rw [if_pos hv, atKey_del_other (fun h => e (Ad.lit_inj h))]
  · rw [if_neg hv, atKey_put_other (fun h => e (Ad.lit_inj h))]
theorem has_put_same' (D : DataW Unit) (hD : IsMap D) (x : Ad) (v : Int) : has (putD D x v) x.lit = decide (v ≠ 0) := by
  unfold putD
  by_cases hv : v = 0
  · rw [if_pos hv, has_del_same]; simp [hv]
  · rw [if_neg hv, has_put_same hD x.lit_key]; simp [hv]
theorem has_put_other' (D : DataW Unit) {x y : Ad} (e : y ≠ x) (v : Int) : has (putD D x v) y.lit = has D y.lit := by
  unfold putD
  by_cases hv : v = 0
  · rw [if_pos hv, has_del_other (fun h => e (Ad.lit_inj h))]
  · rw [if_neg hv, has_put_other (fun h => e (Ad.lit_inj h))]
theorem isMap_putD {D : DataW Unit} (hD : IsMap D) (x : Ad) (v : Int) : IsMap (putD D x v) := by
  unfold putD
  split
  · exact hD.del _
  · exact hD.put _ _
theorem PM.lookup {p b n : Nat} {D : DataW Unit} {st ak k a f was is : Int} {done : Bool} {w : World} (h : PM p b n D st ak k a f was is done w) (x : Ad) :
    (Instr.lookup 119 (.map (some b)) x.v false).run Tryz.prog w = .ok (.int .u64 (valD D x)) w ∧ (Lit.int .u64 (valD D x)).wf = true := by
  obtain ⟨c, hrun, hat, hwc⟩ := h.own.lookup_int addr_keyed Tryz.underlying119 Tryz.underlying34 (zero32 w) x.key
  have e : valD D x = c := by unfold valD; rw [hat]
  rw [e]
  exact ⟨hrun, hwc⟩
set_option maxRecDepth 100000 in
set_option maxHeartbeats 2000000 in
theorem put_zero (p b n : Nat) (D : DataW Unit) (st ak k a f was is : Int) (done : Bool) (x : Ad) (w : World) (h : PM p b n D st ak k a f was is done w) :
    Calls Tryz.prog 62 #[.pointer (some ⟨p, 0, none⟩), x.v, .int .u64 0] w fun e w' => e = .returned (.tuple #[]) ∧ PM p b n (D.del x.lit) st ak k a f was is done w' ∧ Only p b w w' := by
  have hG : Below w.heap.size w (w.alloc (.cells #[.int .u8 x.k, .int .i64 x.a, .int .i64 x.f] 33)).drew := ((Below.refl _ _).alloc (Nat.le_refl _) _).drew
  have HP := Lib.hid (h.below hG)
  have HG := Lib.hid hG
  have HK := Lib.hid x.key
  clear h hG
  simp only [Ad.v, addrV] at HK ⊢
  go_enter Tryz.func62, Tryz.ntmps62
  go_wp2_with fail
  have d0 : (w.alloc (.cells #[.int .u8 x.k, .int .i64 x.a, .int .i64 x.f] 33)).drew.cell? ⟨w.heap.size, 0, none⟩ = some (.int .u8 x.k) := by simp [go_sem]
  have d1 : (w.alloc (.cells #[.int .u8 x.k, .int .i64 x.a, .int .i64 x.f] 33)).drew.cell? ⟨w.heap.size, 1, none⟩ = some (.int .i64 x.a) := by simp [go_sem]
  have d2 : (w.alloc (.cells #[.int .u8 x.k, .int .i64 x.a, .int .i64 x.f] 33)).drew.cell? ⟨w.heap.size, 2, none⟩ = some (.int .i64 x.f) := by simp [go_sem]
  refine wp_region_still_tail 5 (by kernel_rfl) (by kernel_rfl) ?_
  change wpStill _ _ (w.alloc (.cells #[.int .u8 x.k, .int .i64 x.a, .int .i64 x.f] 33)).drew (fun a' => wpList _ _ _ _ a' (w.alloc (.cells #[.int .u8 x.k, .int .i64 x.a, .int .i64 x.f] 33)).drew) _ _
  revert HP HG d0 d1 d2
  generalize (w.alloc (.cells #[.int .u8 x.k, .int .i64 x.a, .int .i64 x.f] 33)).drew = wd
  intro HP HG d0 d1 d2
  have pc : wd.cell? ⟨p, 0, none⟩ = some (.map (some b)) := HP.out.cell 0
  simp only [List.take_succ_cons, List.take_zero, List.drop_succ_cons, List.drop_zero]
  still_step
  still_step
  still_step
  still_step
  still_step
  refine wpStill_nil ?_
  at_delete
  refine wpList_delete_own _ rfl _ _ 119 33 rfl 34 addr_keyed Tryz.underlying119 _ b n D rfl HP.out.own _ _ rfl HK.out ?_
  intro w1 hown1 hturn1
  have HO1 := Lib.hid hown1
  have HT1 := Lib.hid hturn1
  clear hown1 hturn1
  go_wp2
  have hgr := HT1.out.grown
  exact bodyPost_ret (results_none rfl _ _ _) rfl ⟨rfl, ⟨(hgr.block p HP.out.lt (by simpa using HP.out.ne)).trans HP.out.blk, HO1.out⟩, (Only.of_below HG.out).trans (Only.grown hgr)⟩
set_option maxRecDepth 100000 in
set_option maxHeartbeats 2000000 in
theorem put_some (p b n : Nat) (D : DataW Unit) (st ak k a f was is : Int) (done : Bool) (x : Ad) (v : Int) (hv : v ≠ 0) (hw : (Lit.int .u64 v).wf = true) (hn : n < 4611686018427387904) (w : World) (h : PM p b n D st ak k a f was is done w) :
    Calls Tryz.prog 62 #[.pointer (some ⟨p, 0, none⟩), x.v, .int .u64 v] w fun e w' => e = .returned (.tuple #[]) ∧ PM p b (n + 1) (D.put x.lit (.lit (.int .u64 v))) st ak k a f was is done w' ∧ Only p b w w' := by
  have hG : Below w.heap.size w (w.alloc (.cells #[.int .u8 x.k, .int .i64 x.a, .int .i64 x.f] 33)).drew := ((Below.refl _ _).alloc (Nat.le_refl _) _).drew
  have HP := Lib.hid (h.below hG)
  have HG := Lib.hid hG
  have HK := Lib.hid x.key
  have hz : (v == 0) = false := by simpa using hv
  have HW := Lib.hid hw
  clear h hG hv hw
  simp only [Ad.v, addrV] at HK ⊢
  go_enter Tryz.func62, Tryz.ntmps62
  go_wp2_with fail
  have d0 : (w.alloc (.cells #[.int .u8 x.k, .int .i64 x.a, .int .i64 x.f] 33)).drew.cell? ⟨w.heap.size, 0, none⟩ = some (.int .u8 x.k) := by simp [go_sem]
  have d1 : (w.alloc (.cells #[.int .u8 x.k, .int .i64 x.a, .int .i64 x.f] 33)).drew.cell? ⟨w.heap.size, 1, none⟩ = some (.int .i64 x.a) := by simp [go_sem]
  have d2 : (w.alloc (.cells #[.int .u8 x.k, .int .i64 x.a, .int .i64 x.f] 33)).drew.cell? ⟨w.heap.size, 2, none⟩ = some (.int .i64 x.f) := by simp [go_sem]
  refine wp_region_still_tail 6 (by kernel_rfl) (by kernel_rfl) ?_
  change wpStill _ _ (w.alloc (.cells #[.int .u8 x.k, .int .i64 x.a, .int .i64 x.f] 33)).drew (fun a' => wpList _ _ _ _ a' (w.alloc (.cells #[.int .u8 x.k, .int .i64 x.a, .int .i64 x.f] 33)).drew) _ _
  revert HP HG d0 d1 d2
  generalize (w.alloc (.cells #[.int .u8 x.k, .int .i64 x.a, .int .i64 x.f] 33)).drew = wd
  intro HP HG d0 d1 d2
  have pc : wd.cell? ⟨p, 0, none⟩ = some (.map (some b)) := HP.out.cell 0
  simp only [List.take_succ_cons, List.take_zero, List.drop_succ_cons, List.drop_zero]
  still_step
  still_step
  still_step
  still_step
  still_step
  still_step
  refine wpStill_nil ?_
  refine wpList_mapUpdate_own _ rfl _ _ _ 119 rfl 33 34 addr_keyed Tryz.underlying119 _ b n D rfl HP.out.own (by unfold maxLen; omega) _ _ _ rfl rfl HK.out _ [] (plainElem_int Tryz.underlying34 HW.out) ?_
  intro w1 hown1 hgrow1
  have HO1 := Lib.hid hown1
  have HT1 := Lib.hid hgrow1
  clear hown1 hgrow1
  go_wp2
  go_end0
  exact ⟨rfl, ⟨(HT1.out.block p HP.out.lt (by simpa using HP.out.ne)).trans HP.out.blk, HO1.out⟩, (Only.of_below HG.out).trans (Only.grown HT1.out)⟩
theorem put_prog (p b n : Nat) (D : DataW Unit) (st ak k a f was is : Int) (done : Bool) (x : Ad) (v : Int) (hw : (Lit.int .u64 v).wf = true) (hn : n < 4611686018427387904) (w : World) (h : PM p b n D st ak k a f was is done w) :
    Calls Tryz.prog 62 #[.pointer (some ⟨p, 0, none⟩), x.v, .int .u64 v] w fun e w' => e = .returned (.tuple #[]) ∧ PM p b (n + 1) (putD D x v) st ak k a f was is done w' ∧ Only p b w w' := by
  by_cases hv : v = 0
  · subst hv
    refine (put_zero p b n D st ak k a f was is done x w h).mono ?_
    rintro e w' ⟨rfl, hp, ho⟩
    refine ⟨rfl, ?_, ho⟩
    unfold putD
    rw [if_pos rfl]
    exact ⟨hp.blk, hp.own.mono (Nat.le_succ n)⟩
  · refine (put_some p b n D st ak k a f was is done x v hv hw hn w h).mono ?_
    rintro e w' ⟨rfl, hp, ho⟩
    refine ⟨rfl, ?_, ho⟩
    unfold putD
    rw [if_neg hv]
    exact hp
theorem PM.setSt {p b n : Nat} {D : DataW Unit} {st ak k a f was is : Int} {done : Bool} {w : World} (h : PM p b n D st ak k a f was is done w) (st' : Int) :
    PM p b n D st' ak k a f was is done (w.setCell ⟨p, 1, none⟩ (.int .i64 st')) := ⟨setCell_blk h.blk 1 _, h.own.setCell (a := ⟨p, 1, none⟩) (Ne.symm h.ne) _⟩
def lastSet (w : World) (b : Nat) (ak k a f was is : Int) (done : Bool) : World :=
  ((((((w.setCell ⟨b, 2, none⟩ (.int .u8 ak)).setCell ⟨b, 3, none⟩ (.int .u8 k)).setCell ⟨b, 4, none⟩ (.int .i64 a)).setCell ⟨b, 5, none⟩ (.int .i64 f)).setCell ⟨b, 6, none⟩ (.int .u64 was)).setCell ⟨b, 7, none⟩ (.int .u64 is)).setCell ⟨b, 8, none⟩ (.bool done)
theorem PM.seven {p b n : Nat} {D : DataW Unit} {st ak k a f was is : Int} {done : Bool} {w : World} (h : PM p b n D st ak k a f was is done w) (ak' k' a' f' was' is' : Int) (done' : Bool) :
    PM p b n D st ak' k' a' f' was' is' done' (lastSet w p ak' k' a' f' was' is' done') := by
  have hn := Ne.symm h.ne
  refine ⟨?_, ((((((h.own.setCell (a := ⟨p, 2, none⟩) hn _).setCell (a := ⟨p, 3, none⟩) hn _).setCell (a := ⟨p, 4, none⟩) hn _).setCell (a := ⟨p, 5, none⟩) hn _).setCell (a := ⟨p, 6, none⟩) hn _).setCell (a := ⟨p, 7, none⟩) hn _).setCell (a := ⟨p, 8, none⟩) hn _⟩
  have := setCell_blk (setCell_blk (setCell_blk (setCell_blk (setCell_blk (setCell_blk (setCell_blk h.blk 2 (.int .u8 ak')) 3 (.int .u8 k')) 4 (.int .i64 a')) 5 (.int .i64 f')) 6 (.int .u64 was')) 7 (.int .u64 is')) 8 (.bool done')
  unfold lastSet
  simpa using this
theorem only_seven (p b : Nat) (w : World) (ak k a f was is : Int) (done : Bool) : Only p b w (lastSet w p ak k a f was is done) :=
  ((((((Only.setCell p b w 2 _).trans (Only.setCell p b _ 3 _)).trans (Only.setCell p b _ 4 _)).trans (Only.setCell p b _ 5 _)).trans (Only.setCell p b _ 6 _)).trans (Only.setCell p b _ 7 _)).trans (Only.setCell p b _ 8 _)
set_option maxRecDepth 100000 in
set_option maxHeartbeats 2000000 in
theorem count_prog (p b n : Nat) (D : DataW Unit) (st ak k a f was is : Int) (done : Bool) (ak' : Int) (x : Ad) (was' : Int) (done' : Bool) (hs0 : 0 ≤ st) (hs1 : st < 4611686018427387904) (w : World) (h : PM p b n D st ak k a f was is done w) :
    Calls Tryz.prog 63 #[.pointer (some ⟨p, 0, none⟩), .int .u8 ak', x.v, .int .u64 was', .bool done'] w fun e w' => e = .returned (.tuple #[]) ∧ PM p b n D (st + 1) ak' x.k x.a x.f was' (valD D x) done' w' ∧ Only p b w w' := by
  have HP := Lib.hid (h.setSt (st + 1))
  have HO := Lib.hid (Only.setCell p b w 1 (.int .i64 (st + 1)))
  have hb := h.below ((Below.refl _ w).alloc (Nat.le_refl _) (.cells #[.int .u8 x.k, .int .i64 x.a, .int .i64 x.f] 33))
  have r1 : (w.alloc (.cells #[.int .u8 x.k, .int .i64 x.a, .int .i64 x.f] 33)).cell? ⟨p, 1, none⟩ = some (.int .i64 st) := hb.cell 1
  have z1 := hb.free 1
  have hlt := h.lt
  clear hb
  have hsz : (w.setCell ⟨p, 1, none⟩ (.int .i64 (st + 1))).heap.size = w.heap.size := by simp [World.setCell]
  clear h
  simp only [Ad.v, addrV]
  go_enter Tryz.func63, Tryz.ntmps63
  go_wp2_with fail
  clear r1 z1 hlt
  revert HP HO hsz
  generalize w.setCell ⟨p, 1, none⟩ (.int .i64 (st + 1)) = w1
  intro HP HO hsz
  have hG : Below w1.heap.size w1 (w1.alloc (.cells #[.int .u8 x.k, .int .i64 x.a, .int .i64 x.f] 33)).drew := ((Below.refl _ _).alloc (Nat.le_refl _) _).drew
  have HP1 := Lib.hid (HP.out.below hG)
  have HO1 := Lib.hid (HO.out.trans (Only.of_below hG))
  have d0 : (w1.alloc (.cells #[.int .u8 x.k, .int .i64 x.a, .int .i64 x.f] 33)).drew.cell? ⟨w.heap.size, 0, none⟩ = some (.int .u8 x.k) := by rw [← hsz]; simp [go_sem]
  have d1 : (w1.alloc (.cells #[.int .u8 x.k, .int .i64 x.a, .int .i64 x.f] 33)).drew.cell? ⟨w.heap.size, 1, none⟩ = some (.int .i64 x.a) := by rw [← hsz]; simp [go_sem]
  have d2 : (w1.alloc (.cells #[.int .u8 x.k, .int .i64 x.a, .int .i64 x.f] 33)).drew.cell? ⟨w.heap.size, 2, none⟩ = some (.int .i64 x.f) := by rw [← hsz]; simp [go_sem]
  clear hG hsz
  refine wp_region_still_tail 14 (by kernel_rfl) (by kernel_rfl) ?_
  change wpStill _ _ (w1.alloc (.cells #[.int .u8 x.k, .int .i64 x.a, .int .i64 x.f] 33)).drew (fun a' => wpList _ _ _ _ a' (w1.alloc (.cells #[.int .u8 x.k, .int .i64 x.a, .int .i64 x.f] 33)).drew) _ _
  revert HP1 HO1 d0 d1 d2
  generalize (w1.alloc (.cells #[.int .u8 x.k, .int .i64 x.a, .int .i64 x.f] 33)).drew = wd
  intro HP1 HO1 d0 d1 d2
  have y0 : wd.cell? ⟨p, 0, none⟩ = some (.map (some b)) := HP1.out.cell 0
  have y2 : wd.cell? ⟨p, 2, none⟩ = some (.int .u8 ak) := HP1.out.cell 2
  have y3 : wd.cell? ⟨p, 3, none⟩ = some (.int .u8 k) := HP1.out.cell 3
  have y4 : wd.cell? ⟨p, 4, none⟩ = some (.int .i64 a) := HP1.out.cell 4
  have y5 : wd.cell? ⟨p, 5, none⟩ = some (.int .i64 f) := HP1.out.cell 5
  have y6 : wd.cell? ⟨p, 6, none⟩ = some (.int .u64 was) := HP1.out.cell 6
  have y7 : wd.cell? ⟨p, 7, none⟩ = some (.int .u64 is) := HP1.out.cell 7
  have y8 : wd.cell? ⟨p, 8, none⟩ = some (.bool done) := HP1.out.cell 8
  have z2 := HP1.out.free 2
  have z3 := HP1.out.free 3
  have z4 := HP1.out.free 4
  have z5 := HP1.out.free 5
  have z6 := HP1.out.free 6
  have z7 := HP1.out.free 7
  have z8 := HP1.out.free 8
  have hrun := (HP1.out.lookup x).1
  simp only [Ad.v, addrV] at hrun
  obtain ⟨c, hc⟩ : ∃ c, valD D x = c := ⟨_, rfl⟩
  rw [hc] at hrun
  have HC := Lib.hid hc
  clear hc
  simp only [List.take_succ_cons, List.take_zero, List.drop_succ_cons, List.drop_zero]
  iterate 14 still_step
  refine wpStill_nil ?_
  go_wp2
  go_end0
  rw [HC.out]
  exact ⟨rfl, HP1.out.seven ak' x.k x.a x.f was' c done', HO1.out.trans (only_seven p b wd ak' x.k x.a x.f was' c done')⟩
end Go.Proofs.YtmjcbjcnmgleaaaGreatDoor
namespace Go.Proofs.YtmjcbjcnmgleaaaGreatDoor
open Go.RowKit Go.Maps
theorem alloc_blk (w : World) (o : Obj) : (w.alloc o).heap[w.heap.size]? = some o := by
  show (w.heap.push o)[w.heap.size]? = _
  simp
theorem new_prog (w : World) : Calls Tryz.prog 30 #[] w fun e w' => e = .returned (.pointer (some ⟨w.heap.size + 1, 0, none⟩)) ∧ PM (w.heap.size + 1) w.heap.size 0 (.map []) 0 0 0 0 0 0 0 false w' ∧ Below w.heap.size w w' := by
  have hmm := @run_makeMap Tryz.prog
  go_enter Tryz.func30, Tryz.ntmps30
  go_wp2
  go_ret
  refine ⟨rfl, ⟨?_, (World.ownsMap_made w Tryz.prog 33 (plainElem Tryz.prog 34)).alloc _⟩, ((Below.refl _ _).alloc (Nat.le_refl _) _).alloc (by simp) _⟩
  have := alloc_blk (w.alloc (.map #[] 0)) (.cells #[.map (some w.heap.size), .int .i64 0, .int .u8 0, .int .u8 0, .int .i64 0, .int .i64 0, .int .u64 0, .int .u64 0, .bool false] 121)
  rwa [World.size_alloc] at this
theorem steps_prog (p b n : Nat) (D : DataW Unit) (st ak k a f was is : Int) (done : Bool) (w : World) (h : PM p b n D st ak k a f was is done w) :
    Calls Tryz.prog 17 #[.pointer (some ⟨p, 0, none⟩)] w fun e w' => e = .returned (.int .i64 st) ∧ w = w' := by
  have c0 : w.cell? ⟨p, 0, none⟩ = some (.map (some b)) := h.cell 0
  have c1 : w.cell? ⟨p, 1, none⟩ = some (.int .i64 st) := h.cell 1
  clear h
  go_enter Tryz.func17, Tryz.ntmps17
  go_wp2_with (go_at_call 44; refine (made_yes p b _ c0).mono ?_; rintro e w' ⟨rfl, rfl⟩)
  go_ret
  exact ⟨rfl, rfl⟩
def accV (ak k a f was is : Int) (done : Bool) : Value := .agg #[.int .u8 ak, .int .u8 k, .int .i64 a, .int .i64 f, .int .u64 was, .int .u64 is, .bool done]
theorem last_prog (p b n : Nat) (D : DataW Unit) (st ak k a f was is : Int) (done : Bool) (w : World) (h : PM p b n D st ak k a f was is done w) :
    Calls Tryz.prog 41 #[.pointer (some ⟨p, 0, none⟩)] w fun e w' => e = .returned (accV ak k a f was is done) ∧ Below w.heap.size w w' := by
  have hb := h.below ((Below.refl _ w).alloc (Nat.le_refl _) (.cells #[.int .u8 0, .int .u8 0, .int .i64 0, .int .i64 0, .int .u64 0, .int .u64 0, .bool false] 101))
  have hlt := h.lt
  have c0 : (w.alloc (.cells #[.int .u8 0, .int .u8 0, .int .i64 0, .int .i64 0, .int .u64 0, .int .u64 0, .bool false] 101)).cell? ⟨p, 0, none⟩ = some (.map (some b)) := hb.cell 0
  have y2 : (w.alloc (.cells #[.int .u8 0, .int .u8 0, .int .i64 0, .int .i64 0, .int .u64 0, .int .u64 0, .bool false] 101)).cell? ⟨p, 2, none⟩ = some (.int .u8 ak) := hb.cell 2
  have y3 : (w.alloc (.cells #[.int .u8 0, .int .u8 0, .int .i64 0, .int .i64 0, .int .u64 0, .int .u64 0, .bool false] 101)).cell? ⟨p, 3, none⟩ = some (.int .u8 k) := hb.cell 3
  have y4 : (w.alloc (.cells #[.int .u8 0, .int .u8 0, .int .i64 0, .int .i64 0, .int .u64 0, .int .u64 0, .bool false] 101)).cell? ⟨p, 4, none⟩ = some (.int .i64 a) := hb.cell 4
  have y5 : (w.alloc (.cells #[.int .u8 0, .int .u8 0, .int .i64 0, .int .i64 0, .int .u64 0, .int .u64 0, .bool false] 101)).cell? ⟨p, 5, none⟩ = some (.int .i64 f) := hb.cell 5
  have y6 : (w.alloc (.cells #[.int .u8 0, .int .u8 0, .int .i64 0, .int .i64 0, .int .u64 0, .int .u64 0, .bool false] 101)).cell? ⟨p, 6, none⟩ = some (.int .u64 was) := hb.cell 6
  have y7 : (w.alloc (.cells #[.int .u8 0, .int .u8 0, .int .i64 0, .int .i64 0, .int .u64 0, .int .u64 0, .bool false] 101)).cell? ⟨p, 7, none⟩ = some (.int .u64 is) := hb.cell 7
  have y8 : (w.alloc (.cells #[.int .u8 0, .int .u8 0, .int .i64 0, .int .i64 0, .int .u64 0, .int .u64 0, .bool false] 101)).cell? ⟨p, 8, none⟩ = some (.bool done) := hb.cell 8
  clear h hb
  unfold accV
  go_enter Tryz.func41, Tryz.ntmps41
  go_wp2_with (go_at_call 44; refine (made_yes p b _ c0).mono ?_; rintro e w' ⟨rfl, rfl⟩)
  exact bodyPost_ret (v := .agg #[.int .u8 ak, .int .u8 k, .int .i64 a, .int .i64 f, .int .u64 was, .int .u64 is, .bool done]) (by simp [results, Tryz.results41, go_sem]) rfl ⟨rfl, (Below.refl _ _).alloc (Nat.le_refl _) _⟩
def boxA (x : Ad) : Obj := .cells #[.int .u8 x.k, .int .i64 x.a, .int .i64 x.f] 33
theorem box_cells (w : World) (x : Ad) : (w.alloc (boxA x)).drew.cell? ⟨w.heap.size, 0, none⟩ = some (.int .u8 x.k) ∧ (w.alloc (boxA x)).drew.cell? ⟨w.heap.size, 1, none⟩ = some (.int .i64 x.a) ∧ (w.alloc (boxA x)).drew.cell? ⟨w.heap.size, 2, none⟩ = some (.int .i64 x.f) := by
  unfold boxA
  refine ⟨?_, ?_, ?_⟩ <;> simp [go_sem]
theorem box_below (w : World) (x : Ad) : Below w.heap.size w (w.alloc (boxA x)) := (Below.refl _ _).alloc (Nat.le_refl _) _
set_option maxRecDepth 100000 in
set_option maxHeartbeats 2000000 in
theorem load_prog (p b n : Nat) (D : DataW Unit) (st ak k a f was is : Int) (done : Bool) (x : Ad) (hs0 : 0 ≤ st) (hs1 : st < 4611686018427387904) (w : World) (h : PM p b n D st ak k a f was is done w) :
    Calls Tryz.prog 60 #[.pointer (some ⟨p, 0, none⟩), x.v] w fun e w' => e = .returned (.int .u64 (valD D x)) ∧ PM p b n D (st + 1) 1 x.k x.a x.f (valD D x) (valD D x) false w' ∧ Only p b w w' := by
  have HP := Lib.hid (h.below (box_below w x).drew)
  have HO := Lib.hid (Only.of_below (p := p) (b := b) (box_below w x).drew)
  obtain ⟨d0, d1, d2⟩ := box_cells w x
  have c0 : (w.alloc (boxA x)).cell? ⟨p, 0, none⟩ = some (.map (some b)) := HP.out.cell 0
  unfold boxA at c0
  clear h
  simp only [Ad.v, addrV]
  go_enter Tryz.func60, Tryz.ntmps60
  go_wp2_with (go_at_call 44; refine (made_yes p b _ c0).mono ?_; rintro e w' ⟨rfl, rfl⟩)
  refine wp_region_still_tail 6 (by kernel_rfl) (by kernel_rfl) ?_
  change wpStill _ _ (w.alloc (boxA x)).drew (fun a' => wpList _ _ _ _ a' (w.alloc (boxA x)).drew) _ _
  clear c0
  revert HP HO d0 d1 d2
  generalize (w.alloc (boxA x)).drew = wd
  intro HP HO d0 d1 d2
  have pc : wd.cell? ⟨p, 0, none⟩ = some (.map (some b)) := HP.out.cell 0
  have hrun := (HP.out.lookup x).1
  have hcnt := count_prog p b n D st ak k a f was is done 1 x (valD D x) false hs0 hs1 wd HP.out
  simp only [Ad.v, addrV] at hrun hcnt
  obtain ⟨c, hc⟩ : ∃ c, valD D x = c := ⟨_, rfl⟩
  rw [hc] at hrun hcnt
  have HC := Lib.hid hc
  clear hc
  simp only [List.take_succ_cons, List.take_zero, List.drop_succ_cons, List.drop_zero]
  iterate 6 still_step
  refine wpStill_nil ?_
  go_wp2_with (go_at_call 63; refine hcnt.mono ?_; rintro e w1 ⟨rfl, hp1, ho1⟩; have HP1 := Lib.hid hp1; have HO1 := Lib.hid ho1; clear hp1 ho1 hcnt)
  go_ret
  rw [HC.out]
  exact ⟨rfl, HP1.out, HO.out.trans HO1.out⟩
def storeD (D : DataW Unit) (x : Ad) (v : Int) : DataW Unit := if mayB x.k x.a x.f = true then putD D x v else D
set_option maxRecDepth 100000 in
set_option maxHeartbeats 4000000 in
theorem store_prog (p b n : Nat) (D : DataW Unit) (st ak k a f was is : Int) (done : Bool) (x : Ad) (v : Int) (hv : (Lit.int .u64 v).wf = true) (hs0 : 0 ≤ st) (hs1 : st < 4611686018427387904) (hn : n < 4611686018427387904) (w : World) (hl : LayM w) (h : PM p b n D st ak k a f was is done w) :
    Calls Tryz.prog 32 #[.pointer (some ⟨p, 0, none⟩), x.v, .int .u64 v] w fun e w' => e = .returned (.tuple #[]) ∧ PM p b (n + 1) (storeD D x v) (st + 1) 2 x.k x.a x.f (valD D x) (valD (storeD D x v) x) false w' ∧ Only p b w w' := by
  have hbx := (box_below w x).drew
  have HP := Lib.hid (h.below hbx)
  have HO := Lib.hid (Only.of_below (p := p) (b := b) hbx)
  have HL := Lib.hid (hl.below hbx)
  have hww : w.heap.size < (w.alloc (boxA x)).drew.heap.size := by simp [boxA, World.drew]
  have hpw := h.lt
  have hbw := h.own.lt
  obtain ⟨d0, d1, d2⟩ := box_cells w x
  have c0 : (w.alloc (boxA x)).cell? ⟨p, 0, none⟩ = some (.map (some b)) := HP.out.cell 0
  unfold boxA at c0
  clear h hl hbx
  simp only [Ad.v, addrV]
  go_enter Tryz.func32, Tryz.ntmps32
  go_wp2_with (go_at_call 44; refine (made_yes p b _ c0).mono ?_; rintro e w' ⟨rfl, rfl⟩)
  refine wp_region_still_tail 6 (by kernel_rfl) (by kernel_rfl) ?_
  change wpStill _ _ (w.alloc (boxA x)).drew (fun a' => wpList _ _ _ _ a' (w.alloc (boxA x)).drew) _ _
  clear c0
  revert HP HO HL hww d0 d1 d2
  generalize (w.alloc (boxA x)).drew = wd
  intro HP HO HL hww d0 d1 d2
  have pc : wd.cell? ⟨p, 0, none⟩ = some (.map (some b)) := HP.out.cell 0
  have hrun := (HP.out.lookup x).1
  have hmay := may_prog x wd HL.out
  simp only [Ad.v, addrV] at hrun hmay
  obtain ⟨c, hc⟩ : ∃ c, valD D x = c := ⟨_, rfl⟩
  rw [hc] at hrun
  have HC := Lib.hid hc
  clear hc
  simp only [List.take_succ_cons, List.take_zero, List.drop_succ_cons, List.drop_zero]
  iterate 6 still_step
  refine wpStill_nil ?_
  by_cases hm : mayB x.k x.a x.f = true
  · rw [hm] at hmay
    have HE := Lib.hid (show storeD D x v = putD D x v from if_pos hm)
    clear hm
    go_wp2_with (first | (go_at_call 61; refine hmay.mono ?_; rintro e w1 ⟨rfl, hb1⟩; have HB1 := Lib.hid hb1; have hw1 : w.heap.size < w1.heap.size := Nat.lt_of_lt_of_le hww hb1.size; have g0 := (hb1.cell (p := ⟨w.heap.size, 0, none⟩) hww).trans d0; have g1 := (hb1.cell (p := ⟨w.heap.size, 1, none⟩) hww).trans d1; have g2 := (hb1.cell (p := ⟨w.heap.size, 2, none⟩) hww).trans d2; clear hb1 hmay; have HP1 := Lib.hid (HP.out.below HB1.out); have hput := put_prog p b n D st ak k a f was is done x v hv hn w1 HP1.out; simp only [Ad.v, addrV] at hput) | (go_at_call 62; refine hput.mono ?_; rintro e w2 ⟨rfl, hp2, ho2⟩; have HP2 := Lib.hid hp2; have HO2 := Lib.hid ho2; have hbk := ho2.block w.heap.size hw1 (by omega) (by omega); have k0 := (World.cell?_of_block (a := ⟨w.heap.size, 0, none⟩) hbk).trans g0; have k1 := (World.cell?_of_block (a := ⟨w.heap.size, 1, none⟩) hbk).trans g1; have k2 := (World.cell?_of_block (a := ⟨w.heap.size, 2, none⟩) hbk).trans g2; clear hp2 ho2 hbk hput; have hcnt := count_prog p b (n + 1) (putD D x v) st ak k a f was is done 2 x c false hs0 hs1 w2 HP2.out; simp only [Ad.v, addrV] at hcnt) | (go_at_call 63; refine hcnt.mono ?_; rintro e w3 ⟨rfl, hp3, ho3⟩; have HP3 := Lib.hid hp3; have HO3 := Lib.hid ho3; clear hp3 ho3 hcnt))
    go_end0
    rw [HE.out, HC.out]
    exact ⟨rfl, HP3.out, HO.out.trans ((Only.of_below HB1.out).trans (HO2.out.trans HO3.out))⟩
  · have hm' : mayB x.k x.a x.f = false := by simpa using hm
    rw [hm'] at hmay
    have HE := Lib.hid (show storeD D x v = D from if_neg hm)
    clear hm hm'
    go_wp2_with (first | (go_at_call 61; refine hmay.mono ?_; rintro e w1 ⟨rfl, hb1⟩; have HB1 := Lib.hid hb1; have hw1 : w.heap.size < w1.heap.size := Nat.lt_of_lt_of_le hww hb1.size; have g0 := (hb1.cell (p := ⟨w.heap.size, 0, none⟩) hww).trans d0; have g1 := (hb1.cell (p := ⟨w.heap.size, 1, none⟩) hww).trans d1; have g2 := (hb1.cell (p := ⟨w.heap.size, 2, none⟩) hww).trans d2; clear hb1 hmay; have HP1 := Lib.hid (HP.out.below HB1.out); have hcnt := count_prog p b n D st ak k a f was is done 2 x c false hs0 hs1 w1 HP1.out; simp only [Ad.v, addrV] at hcnt) | (go_at_call 63; refine hcnt.mono ?_; rintro e w3 ⟨rfl, hp3, ho3⟩; have HP3 := Lib.hid hp3; have HO3 := Lib.hid ho3; clear hp3 ho3 hcnt))
    go_end0
    rw [HE.out, HC.out]
    have h3 := HP3.out
    rw [HC.out] at h3
    exact ⟨rfl, ⟨h3.blk, h3.own.mono (Nat.le_succ n)⟩, HO.out.trans ((Only.of_below HB1.out).trans HO3.out)⟩
end Go.Proofs.YtmjcbjcnmgleaaaGreatDoor
namespace Go.Proofs.YtmjcbjcnmgleaaaGreatDoor
open Go.RowKit Go.Maps
def casB (D : DataW Unit) (x : Ad) (u : Int) : Bool := mayB x.k x.a x.f && decide (valD D x = u)
def casD (D : DataW Unit) (x : Ad) (u v : Int) : DataW Unit := if casB D x u = true then putD D x v else D
set_option maxRecDepth 100000 in
set_option maxHeartbeats 4000000 in
theorem cas_prog (p b n : Nat) (D : DataW Unit) (st ak k a f was is : Int) (done : Bool) (x : Ad) (u v : Int) (hv : (Lit.int .u64 v).wf = true) (hs0 : 0 ≤ st) (hs1 : st < 4611686018427387904) (hn : n < 4611686018427387904) (w : World) (hl : LayM w) (h : PM p b n D st ak k a f was is done w) :
    Calls Tryz.prog 108 #[.pointer (some ⟨p, 0, none⟩), x.v, .int .u64 u, .int .u64 v] w fun e w' => e = .returned (.bool (casB D x u)) ∧ PM p b (n + 1) (casD D x u v) (st + 1) 3 x.k x.a x.f (valD D x) (valD (casD D x u v) x) (casB D x u) w' ∧ Only p b w w' := by
  have hbx := (box_below w x).drew
  have HP := Lib.hid (h.below hbx)
  have HO := Lib.hid (Only.of_below (p := p) (b := b) hbx)
  have HL := Lib.hid (hl.below hbx)
  have hww : w.heap.size < (w.alloc (boxA x)).drew.heap.size := by simp [boxA, World.drew]
  have hpw := h.lt
  have hbw := h.own.lt
  obtain ⟨d0, d1, d2⟩ := box_cells w x
  have c0 : (w.alloc (boxA x)).cell? ⟨p, 0, none⟩ = some (.map (some b)) := HP.out.cell 0
  unfold boxA at c0
  clear h hl hbx
  simp only [Ad.v, addrV]
  go_enter Tryz.func108, Tryz.ntmps108
  go_wp2_with (go_at_call 44; refine (made_yes p b _ c0).mono ?_; rintro e w' ⟨rfl, rfl⟩)
  refine wp_region_still_tail 6 (by kernel_rfl) (by kernel_rfl) ?_
  change wpStill _ _ (w.alloc (boxA x)).drew (fun a' => wpList _ _ _ _ a' (w.alloc (boxA x)).drew) _ _
  clear c0
  revert HP HO HL hww d0 d1 d2
  generalize (w.alloc (boxA x)).drew = wd
  intro HP HO HL hww d0 d1 d2
  have pc : wd.cell? ⟨p, 0, none⟩ = some (.map (some b)) := HP.out.cell 0
  have hrun := (HP.out.lookup x).1
  have hmay := may_prog x wd HL.out
  simp only [Ad.v, addrV] at hrun hmay
  obtain ⟨c, hc⟩ : ∃ c, valD D x = c := ⟨_, rfl⟩
  rw [hc] at hrun
  have HC := Lib.hid hc
  simp only [List.take_succ_cons, List.take_zero, List.drop_succ_cons, List.drop_zero]
  iterate 6 still_step
  refine wpStill_nil ?_
  by_cases hm : mayB x.k x.a x.f = true
  · rw [hm] at hmay
    by_cases hcu : c = u
    · have HB := Lib.hid (show casB D x u = true by unfold casB; rw [hm, hc]; simpa using hcu)
      have HE := Lib.hid (show casD D x u v = putD D x v from if_pos HB.out)
      subst hcu
      clear hm hc
      go_wp2_with (first | (go_at_call 61; refine hmay.mono ?_; rintro e w1 ⟨rfl, hb1⟩; have HB1 := Lib.hid hb1; have hw1 : w.heap.size < w1.heap.size := Nat.lt_of_lt_of_le hww hb1.size; have g0 := (hb1.cell (p := ⟨w.heap.size, 0, none⟩) hww).trans d0; have g1 := (hb1.cell (p := ⟨w.heap.size, 1, none⟩) hww).trans d1; have g2 := (hb1.cell (p := ⟨w.heap.size, 2, none⟩) hww).trans d2; clear hb1 hmay; have HP1 := Lib.hid (HP.out.below HB1.out); have hput := put_prog p b n D st ak k a f was is done x v hv hn w1 HP1.out; simp only [Ad.v, addrV] at hput) | (go_at_call 62; refine hput.mono ?_; rintro e w2 ⟨rfl, hp2, ho2⟩; have HP2 := Lib.hid hp2; have HO2 := Lib.hid ho2; have hbk := ho2.block w.heap.size hw1 (by omega) (by omega); have k0 := (World.cell?_of_block (a := ⟨w.heap.size, 0, none⟩) hbk).trans g0; have k1 := (World.cell?_of_block (a := ⟨w.heap.size, 1, none⟩) hbk).trans g1; have k2 := (World.cell?_of_block (a := ⟨w.heap.size, 2, none⟩) hbk).trans g2; clear hp2 ho2 hbk hput; have hcnt := count_prog p b (n + 1) (putD D x v) st ak k a f was is done 3 x c true hs0 hs1 w2 HP2.out; simp only [Ad.v, addrV] at hcnt) | (go_at_call 63; refine hcnt.mono ?_; rintro e w3 ⟨rfl, hp3, ho3⟩; have HP3 := Lib.hid hp3; have HO3 := Lib.hid ho3; clear hp3 ho3 hcnt))
      go_ret
      rw [HB.out, HE.out, HC.out]
      exact ⟨rfl, HP3.out, HO.out.trans ((Only.of_below HB1.out).trans (HO2.out.trans HO3.out))⟩
    · have HB := Lib.hid (show casB D x u = false by unfold casB; rw [hm, hc]; simpa using hcu)
      have HE := Lib.hid (show casD D x u v = D from if_neg (by rw [HB.out]; simp))
      have hcu' : (c == u) = false := by simpa using hcu
      clear hm hc hcu
      go_wp2_with (first | (go_at_call 61; refine hmay.mono ?_; rintro e w1 ⟨rfl, hb1⟩; have HB1 := Lib.hid hb1; have hw1 : w.heap.size < w1.heap.size := Nat.lt_of_lt_of_le hww hb1.size; have g0 := (hb1.cell (p := ⟨w.heap.size, 0, none⟩) hww).trans d0; have g1 := (hb1.cell (p := ⟨w.heap.size, 1, none⟩) hww).trans d1; have g2 := (hb1.cell (p := ⟨w.heap.size, 2, none⟩) hww).trans d2; clear hb1 hmay; have HP1 := Lib.hid (HP.out.below HB1.out); have hcnt := count_prog p b n D st ak k a f was is done 3 x c false hs0 hs1 w1 HP1.out; simp only [Ad.v, addrV] at hcnt) | (go_at_call 63; refine hcnt.mono ?_; rintro e w3 ⟨rfl, hp3, ho3⟩; have HP3 := Lib.hid hp3; have HO3 := Lib.hid ho3; clear hp3 ho3 hcnt))
      go_ret
      have h3 := HP3.out
      rw [HB.out, HE.out, HC.out]
      rw [HC.out] at h3
      exact ⟨rfl, ⟨h3.blk, h3.own.mono (Nat.le_succ n)⟩, HO.out.trans ((Only.of_below HB1.out).trans HO3.out)⟩
  · have hm' : mayB x.k x.a x.f = false := by simpa using hm
    rw [hm'] at hmay
    have HB := Lib.hid (show casB D x u = false by unfold casB; rw [hm']; rfl)
    have HE := Lib.hid (show casD D x u v = D from if_neg (by rw [HB.out]; simp))
    clear hm hm' hc
    go_wp2_with (first | (go_at_call 61; refine hmay.mono ?_; rintro e w1 ⟨rfl, hb1⟩; have HB1 := Lib.hid hb1; have hw1 : w.heap.size < w1.heap.size := Nat.lt_of_lt_of_le hww hb1.size; have g0 := (hb1.cell (p := ⟨w.heap.size, 0, none⟩) hww).trans d0; have g1 := (hb1.cell (p := ⟨w.heap.size, 1, none⟩) hww).trans d1; have g2 := (hb1.cell (p := ⟨w.heap.size, 2, none⟩) hww).trans d2; clear hb1 hmay; have HP1 := Lib.hid (HP.out.below HB1.out); have hcnt := count_prog p b n D st ak k a f was is done 3 x c false hs0 hs1 w1 HP1.out; simp only [Ad.v, addrV] at hcnt) | (go_at_call 63; refine hcnt.mono ?_; rintro e w3 ⟨rfl, hp3, ho3⟩; have HP3 := Lib.hid hp3; have HO3 := Lib.hid ho3; clear hp3 ho3 hcnt))
    go_ret
    have h3 := HP3.out
    rw [HB.out, HE.out, HC.out]
    rw [HC.out] at h3
    exact ⟨rfl, ⟨h3.blk, h3.own.mono (Nat.le_succ n)⟩, HO.out.trans ((Only.of_below HB1.out).trans HO3.out)⟩
end Go.Proofs.YtmjcbjcnmgleaaaGreatDoor
namespace Go.Proofs.YtmjcbjcnmgleaaaGreatDoor
open Go.RowKit Go.Maps
theorem new_some (w : World) : Calls Tryz.prog 30 #[] w fun e w' => ∃ p b, e = .returned (.pointer (some ⟨p, 0, none⟩)) ∧ PM p b 0 (.map []) 0 0 0 0 0 0 0 false w' ∧ Below w.heap.size w w' ∧ w.heap.size ≤ b ∧ b < p := by
  refine (new_prog w).mono ?_
  rintro e w' ⟨rfl, hp, hb⟩
  exact ⟨_, _, rfl, hp, hb, Nat.le_refl _, by omega⟩
end Go.Proofs.YtmjcbjcnmgleaaaGreatDoor
namespace Go.Proofs.YtmjcbjcnmgleaaaGreatDoor
open Go.RowKit Go.Maps
structure Acc8 where
  st : Int
  ak : Int
  k : Int
  a : Int
  f : Int
  was : Int
  is : Int
  done : Bool
def Acc8.touch (s : Acc8) (ak : Int) (x : Ad) (was is : Int) (done : Bool) : Acc8 := ⟨s.st + 1, ak, x.k, x.a, x.f, was, is, done⟩
end Go.Proofs.YtmjcbjcnmgleaaaGreatDoor
