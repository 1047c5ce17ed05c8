/-
  The program's memory: may an address be, was a memory made, how many steps, the last one; condition: the table of rooms reads as the program lays it; the memory lies as it says.
  The program's memory: what the calls of put and count leave; condition: the memory lies as it says, fewer than 2^62 steps and words, numbers of their kinds.
-/
import Derived.Test.YtapcgikamldchaaDoorK1
import Derived.Maps.OwnOps
import Derived.Deep.RegionHeld3
import Derived.StillTailTactics
import Derived.RegionTactic
import Derived.Maps.OwnSet
import Derived.Outline
namespace Go.Proofs.YtapcgikamldchaaDoor
open Go.RowKit Go.Maps

/-- The table of rooms lies in its block. -/
def LayM (w : World) : Prop := 0 < w.heap.size ∧ ∀ k : Nat, k < 12 → w.cell? ⟨0, k * 2, none⟩ = some (.int .i64 (atRoom k)) ∧ w.cell? ⟨0, k * 2 + 1, none⟩ = some (.int .i64 (fieldRoom k))
theorem LayM.below {w w' : World} (h : LayM w) (hb : Below w.heap.size w w') : LayM w' :=
  ⟨Nat.lt_of_lt_of_le h.1 hb.size, fun k hk => ⟨(hb.cell (p := ⟨0, k * 2, none⟩) h.1).trans (h.2 k hk).1, (hb.cell (p := ⟨0, k * 2 + 1, none⟩) h.1).trans (h.2 k hk).2⟩⟩
theorem LayM.same {w w' : World} (h : LayM w) (hs : w.heap.size ≤ w'.heap.size) (hb : w'.heap[0]? = w.heap[0]?) : LayM w' :=
  ⟨Nat.lt_of_lt_of_le h.1 hs, fun k hk => ⟨(World.cell?_of_block (a := ⟨0, k * 2, none⟩) hb).trans (h.2 k hk).1, (World.cell?_of_block (a := ⟨0, k * 2 + 1, none⟩) hb).trans (h.2 k hk).2⟩⟩
theorem LayM.alloc {w : World} (h : LayM w) (o : Obj) : LayM (w.alloc o) := h.below ((Below.refl _ _).alloc (Nat.le_refl _) o)

set_option maxHeartbeats 1000000 in
theorem may_low (k a f r s : Int) (w : World) (h0 : 0 ≤ k) (h1 : k < 12) (c0 : (w.alloc (.cells #[.int .u8 k, .int .i64 a, .int .i64 f] 42)).cell? ⟨0, k.toNat * 2, none⟩ = some (.int .i64 r)) (c1 : (w.alloc (.cells #[.int .u8 k, .int .i64 a, .int .i64 f] 42)).cell? ⟨0, k.toNat * 2 + 1, none⟩ = some (.int .i64 s)) :
    Calls Tryd.prog 35 #[.agg #[.int .u8 k, .int .i64 a, .int .i64 f]] w fun e w' => e = .returned (.bool (decide (0 ≤ a) && decide (a < r) && decide (0 ≤ f) && decide (f < s))) ∧ Below w.heap.size w w' := by
  go_enter Tryd.func35, Tryd.ntmps35
  go_wp2
  all_goals
    go_ret
    refine ⟨ret_bool ?_, ((Below.refl _ _).alloc (Nat.le_refl _) _).alloc (by simp) _⟩
    simp
    try omega
theorem may_high (k a f : Int) (w : World) (h1 : 12 ≤ k) (h2 : k ≤ 255) :
    Calls Tryd.prog 35 #[.agg #[.int .u8 k, .int .i64 a, .int .i64 f]] w fun e w' => e = .returned (.bool false) ∧ Below w.heap.size w w' := by
  go_enter Tryd.func35, Tryd.ntmps35
  go_wp2
  go_ret
  exact ⟨rfl, (Below.refl _ _).alloc (Nat.le_refl _) _⟩
theorem may_prog (x : Ad) (w : World) (hl : LayM w) :
    Calls Tryd.prog 35 #[x.v] w fun e w' => e = .returned (.bool (mayB x.k x.a x.f)) ∧ Below w.heap.size w w' := by
  have hk := x.wk
  have h0 : 0 ≤ x.k ∧ x.k ≤ 255 := by simpa [Lit.wf, IntKind.min, IntKind.max, IntKind.signed, IntKind.bits] using hk
  by_cases h : x.k < 12
  · obtain ⟨n, hn⟩ := Int.eq_ofNat_of_zero_le h0.1
    have hc := (hl.alloc (.cells #[.int .u8 x.k, .int .i64 x.a, .int .i64 x.f] 42)).2 n (by omega)
    rw [← hn] at hc
    have hkn : x.k.toNat = n := by omega
    refine (may_low x.k x.a x.f (atRoom x.k) (fieldRoom x.k) w h0.1 h (by rw [hkn]; exact hc.1) (by rw [hkn]; exact hc.2)).mono ?_
    rintro e w' ⟨rfl, hb⟩
    exact ⟨ret_bool (by have e : decide (x.k ≤ 11) = true := by simpa using (show x.k ≤ 11 by omega)
                        unfold mayB; rw [e]; rfl), hb⟩
  · refine (may_high x.k x.a x.f w (by omega) h0.2).mono ?_
    rintro e w' ⟨rfl, hb⟩
    exact ⟨ret_bool (by have e : decide (x.k ≤ 11) = false := by simpa using (show 11 < x.k by omega)
                        unfold mayB; rw [e]; rfl), hb⟩

/-- The program's memory: its struct in block p, its map in block b, of at most n words that read as D. -/
structure PM (p b n : Nat) (D : DataW Unit) (st ak k a f was is : Int) (done : Bool) (w : World) : Prop where
  blk : w.heap[p]? = some (.cells #[.map (some b), .int .i64 st, .int .u8 ak, .int .u8 k, .int .i64 a, .int .i64 f, .int .u64 was, .int .u64 is, .bool done] 90 (0, 0))
  own : w.ownsMap Tryd.prog 42 (plainElem Tryd.prog 34) b n D
theorem PM.cell {p b n : Nat} {D : DataW Unit} {st ak k a f was is : Int} {done : Bool} {w : World} (h : PM p b n D st ak k a f was is done w) (i : Nat) :
    w.cell? ⟨p, i, none⟩ = [.map (some b), .int .i64 st, .int .u8 ak, .int .u8 k, .int .i64 a, .int .i64 f, .int .u64 was, .int .u64 is, .bool done][i]? := by
  simp [World.cell?, h.blk]
theorem PM.free {p b n : Nat} {D : DataW Unit} {st ak k a f was is : Int} {done : Bool} {w : World} (h : PM p b n D st ak k a f was is done w) (i : Nat) : w.frozen? ⟨p, i, none⟩ = false := by
  simp [World.frozen?, h.blk]
theorem PM.lt {p b n : Nat} {D : DataW Unit} {st ak k a f was is : Int} {done : Bool} {w : World} (h : PM p b n D st ak k a f was is done w) : p < w.heap.size := (Array.getElem?_eq_some_iff.1 h.blk).1
theorem PM.ne {p b n : Nat} {D : DataW Unit} {st ak k a f was is : Int} {done : Bool} {w : World} (h : PM p b n D st ak k a f was is done w) : p ≠ b := by
  rintro rfl
  obtain ⟨es, clock, hb, _⟩ := h.own
  have := h.blk.symm.trans hb
  simp at this
theorem PM.below {p b n : Nat} {D : DataW Unit} {st ak k a f was is : Int} {done : Bool} {w w' : World} (h : PM p b n D st ak k a f was is done w) (hb : Below w.heap.size w w') : PM p b n D st ak k a f was is done w' := by
  refine ⟨(hb.block p h.lt).trans h.blk, ?_⟩
  have hlt := h.own.lt
  obtain ⟨es, clock, hbk, rest⟩ := h.own
  exact ⟨es, clock, (hb.block b hlt).trans hbk, rest⟩

theorem made_nil (w : World) : Calls Tryd.prog 33 #[.pointer none] w fun e w' => e = .returned (.bool false) ∧ w = w' := by
  go_enter Tryd.func33, Tryd.ntmps33
  go_wp2
  go_ret
  exact ⟨rfl, rfl⟩
theorem made_void (p : Nat) (w : World) (hp : w.cell? ⟨p, 0, none⟩ = some (.map none)) : Calls Tryd.prog 33 #[.pointer (some ⟨p, 0, none⟩)] w fun e w' => e = .returned (.bool false) ∧ w = w' := by
  have q := run_neq_map_nil (P := Tryd.prog) w 88 42 34 none Tryd.underlying88
  go_enter Tryd.func33, Tryd.ntmps33
  go_wp2
  go_ret
  exact ⟨rfl, rfl⟩
theorem made_yes (p b : Nat) (w : World) (hp : w.cell? ⟨p, 0, none⟩ = some (.map (some b))) : Calls Tryd.prog 33 #[.pointer (some ⟨p, 0, none⟩)] w fun e w' => e = .returned (.bool true) ∧ w = w' := by
  have q := run_neq_map_nil (P := Tryd.prog) w 88 42 34 (some b) Tryd.underlying88
  go_enter Tryd.func33, Tryd.ntmps33
  go_wp2
  go_ret
  exact ⟨rfl, rfl⟩
end Go.Proofs.YtapcgikamldchaaDoor
namespace Go.Proofs.YtapcgikamldchaaDoor
open Go.RowKit Go.Maps

/-- Nothing that lay has turned but two blocks. -/
structure Only (p b : Nat) (X Y : World) : Prop where
  os : Y.os = X.os
  tape : Y.tape = X.tape
  output : Y.output = X.output
  size : X.heap.size ≤ Y.heap.size
  block : ∀ q, q < X.heap.size → q ≠ p → q ≠ b → Y.heap[q]? = X.heap[q]?
theorem Only.trans {p b : Nat} {X Y Z : World} (h : Only p b X Y) (k : Only p b Y Z) : Only p b X Z :=
  ⟨k.os.trans h.os, k.tape.trans h.tape, k.output.trans h.output, Nat.le_trans h.size k.size, fun q hq h1 h2 => (k.block q (Nat.lt_of_lt_of_le hq h.size) h1 h2).trans (h.block q hq h1 h2)⟩
theorem Only.of_below {p b : Nat} {X Y : World} (h : Below X.heap.size X Y) : Only p b X Y := ⟨h.os, h.tape, h.output, h.size, fun q hq _ _ => h.block q hq⟩
theorem Only.alloc (p b : Nat) (X : World) (o : Obj) : Only p b X (X.alloc o) := Only.of_below ((Below.refl _ X).alloc (Nat.le_refl _) o)
theorem Only.drew (p b : Nat) (X : World) : Only p b X X.drew := Only.of_below (Below.refl _ X).drew
theorem Only.refl (p b : Nat) (X : World) : Only p b X X := Only.of_below (Below.refl _ X)
theorem Only.setCell (p b : Nat) (X : World) (i : Nat) (v : Value) : Only p b X (X.setCell ⟨p, i, none⟩ v) :=
  ⟨rfl, rfl, rfl, by simp [World.setCell], fun q _ h1 _ => Below.heap_setCell X ⟨p, i, none⟩ v q h1⟩
theorem Only.grown {p b : Nat} {X Y : World} (h : X.grownBy Y (some b)) : Only p b X Y := ⟨h.os, h.tape, h.output, h.size, fun q hq _ h2 => h.block q hq (by simpa using h2)⟩
theorem Only.below {p b B : Nat} {X Y : World} (h : Only p b X Y) (hp : B ≤ p) (hb : B ≤ b) (hB : B ≤ X.heap.size) : Below B X Y :=
  ⟨h.os, h.tape, h.output, h.size, fun k hk => h.block k (by omega) (by omega) (by omega)⟩
theorem setCell_blk {w : World} {p : Nat} {c : Array Value} {t : TypeId} {fr : Nat × Nat} (h : w.heap[p]? = some (.cells c t fr)) (i : Nat) (v : Value) : (w.setCell ⟨p, i, none⟩ v).heap[p]? = some (.cells (c.setIfInBounds i v) t fr) := by
  obtain ⟨hlt, hk⟩ := Array.getElem?_eq_some_iff.1 h
  show (w.heap.modify p _)[p]? = _
  rw [Array.getElem?_eq_getElem (by rw [Array.size_modify]; exact hlt), Array.getElem_modify_self, hk]
  rfl
theorem zero32 : ∀ w : World, (zeroValue 34).run Tryd.prog w = .ok (.int .u64 0) w := Tryd.zeroValue34

/-- What stands at an address. -/
def valD (D : DataW Unit) (x : Ad) : Int := match D.atKey x.lit (.lit (.int .u64 0)) with | .lit (.int _ c) => c | _ => 0
/-- What put makes of the words. -/
def putD (D : DataW Unit) (x : Ad) (v : Int) : DataW Unit := if v = 0 then D.del x.lit else D.put x.lit (.lit (.int .u64 v))
theorem valD_put_same (D : DataW Unit) (hD : IsMap D) (x : Ad) (v : Int) : valD (putD D x v) x = v := by
  unfold putD valD
  by_cases hv : v = 0
  · rw [if_pos hv, atKey_del_same, hv]
  · rw [if_neg hv, atKey_put_same hD x.lit_key]
theorem valD_put_other (D : DataW Unit) {x y : Ad} (e : y ≠ x) (v : Int) : valD (putD D x v) y = valD D y := by
  unfold putD valD
  by_cases hv : v = 0
  · rw [if_pos hv, atKey_del_other (fun h => e (Ad.lit_inj h))]
  · rw [if_neg hv, atKey_put_other (fun h => e (Ad.lit_inj h))]
theorem has_put_same' (D : DataW Unit) (hD : IsMap D) (x : Ad) (v : Int) : has (putD D x v) x.lit = decide (v ≠ 0) := by
  unfold putD
  by_cases hv : v = 0
  · rw [if_pos hv, has_del_same]; simp [hv]
  · rw [if_neg hv, has_put_same hD x.lit_key]; simp [hv]
theorem has_put_other' (D : DataW Unit) {x y : Ad} (e : y ≠ x) (v : Int) : has (putD D x v) y.lit = has D y.lit := by
  unfold putD
  by_cases hv : v = 0
  · rw [if_pos hv, has_del_other (fun h => e (Ad.lit_inj h))]
  · rw [if_neg hv, has_put_other (fun h => e (Ad.lit_inj h))]
theorem isMap_putD {D : DataW Unit} (hD : IsMap D) (x : Ad) (v : Int) : IsMap (putD D x v) := by
  unfold putD
  split
  · exact hD.del _
  · exact hD.put _ _

theorem PM.lookup {p b n : Nat} {D : DataW Unit} {st ak k a f was is : Int} {done : Bool} {w : World} (h : PM p b n D st ak k a f was is done w) (x : Ad) :
    (Instr.lookup 88 (.map (some b)) x.v false).run Tryd.prog w = .ok (.int .u64 (valD D x)) w ∧ (Lit.int .u64 (valD D x)).wf = true := by
  obtain ⟨c, hrun, hat, hwc⟩ := h.own.lookup_int addr_keyed Tryd.underlying88 Tryd.underlying34 (zero32 w) x.key
  have e : valD D x = c := by unfold valD; rw [hat]
  rw [e]
  exact ⟨hrun, hwc⟩

set_option maxRecDepth 100000 in
set_option maxHeartbeats 2000000 in
theorem put_zero (p b n : Nat) (D : DataW Unit) (st ak k a f was is : Int) (done : Bool) (x : Ad) (w : World) (h : PM p b n D st ak k a f was is done w) :
    Calls Tryd.prog 36 #[.pointer (some ⟨p, 0, none⟩), x.v, .int .u64 0] w fun e w' => e = .returned (.tuple #[]) ∧ PM p b n (D.del x.lit) st ak k a f was is done w' ∧ Only p b w w' := by
  have hG : Below w.heap.size w (w.alloc (.cells #[.int .u8 x.k, .int .i64 x.a, .int .i64 x.f] 42)).drew := ((Below.refl _ _).alloc (Nat.le_refl _) _).drew
  have HP := Lib.hid (h.below hG)
  have HG := Lib.hid hG
  have HK := Lib.hid x.key
  clear h hG
  simp only [Ad.v, addrV] at HK ⊢
  go_enter Tryd.func36, Tryd.ntmps36
  go_wp2_with fail
  have d0 : (w.alloc (.cells #[.int .u8 x.k, .int .i64 x.a, .int .i64 x.f] 42)).drew.cell? ⟨w.heap.size, 0, none⟩ = some (.int .u8 x.k) := by simp [go_sem]
  have d1 : (w.alloc (.cells #[.int .u8 x.k, .int .i64 x.a, .int .i64 x.f] 42)).drew.cell? ⟨w.heap.size, 1, none⟩ = some (.int .i64 x.a) := by simp [go_sem]
  have d2 : (w.alloc (.cells #[.int .u8 x.k, .int .i64 x.a, .int .i64 x.f] 42)).drew.cell? ⟨w.heap.size, 2, none⟩ = some (.int .i64 x.f) := by simp [go_sem]
  refine wp_region_still_tail 5 (by kernel_rfl) (by kernel_rfl) ?_
  change wpStill _ _ (w.alloc (.cells #[.int .u8 x.k, .int .i64 x.a, .int .i64 x.f] 42)).drew (fun a' => wpList _ _ _ _ a' (w.alloc (.cells #[.int .u8 x.k, .int .i64 x.a, .int .i64 x.f] 42)).drew) _ _
  revert HP HG d0 d1 d2
  generalize (w.alloc (.cells #[.int .u8 x.k, .int .i64 x.a, .int .i64 x.f] 42)).drew = wd
  intro HP HG d0 d1 d2
  have pc : wd.cell? ⟨p, 0, none⟩ = some (.map (some b)) := HP.out.cell 0
  simp only [List.take_succ_cons, List.take_zero, List.drop_succ_cons, List.drop_zero]
  still_step
  still_step
  still_step
  still_step
  still_step
  refine wpStill_nil ?_
  at_delete
  refine wpList_delete_own _ rfl _ _ 88 42 rfl 34 addr_keyed Tryd.underlying88 _ b n D rfl HP.out.own _ _ rfl HK.out ?_
  intro w1 hown1 hturn1
  have HO1 := Lib.hid hown1
  have HT1 := Lib.hid hturn1
  clear hown1 hturn1
  go_wp2
  have hgr := HT1.out.grown
  exact bodyPost_ret (results_none rfl _ _ _) rfl ⟨rfl, ⟨(hgr.block p HP.out.lt (by simpa using HP.out.ne)).trans HP.out.blk, HO1.out⟩, (Only.of_below HG.out).trans (Only.grown hgr)⟩

set_option maxRecDepth 100000 in
set_option maxHeartbeats 2000000 in
theorem put_some (p b n : Nat) (D : DataW Unit) (st ak k a f was is : Int) (done : Bool) (x : Ad) (v : Int) (hv : v ≠ 0) (hw : (Lit.int .u64 v).wf = true) (hn : n < 4611686018427387904) (w : World) (h : PM p b n D st ak k a f was is done w) :
    Calls Tryd.prog 36 #[.pointer (some ⟨p, 0, none⟩), x.v, .int .u64 v] w fun e w' => e = .returned (.tuple #[]) ∧ PM p b (n + 1) (D.put x.lit (.lit (.int .u64 v))) st ak k a f was is done w' ∧ Only p b w w' := by
  have hG : Below w.heap.size w (w.alloc (.cells #[.int .u8 x.k, .int .i64 x.a, .int .i64 x.f] 42)).drew := ((Below.refl _ _).alloc (Nat.le_refl _) _).drew
  have HP := Lib.hid (h.below hG)
  have HG := Lib.hid hG
  have HK := Lib.hid x.key
  have hz : (v == 0) = false := by simpa using hv
  have HW := Lib.hid hw
  clear h hG hv hw
  simp only [Ad.v, addrV] at HK ⊢
  go_enter Tryd.func36, Tryd.ntmps36
  go_wp2_with fail
  have d0 : (w.alloc (.cells #[.int .u8 x.k, .int .i64 x.a, .int .i64 x.f] 42)).drew.cell? ⟨w.heap.size, 0, none⟩ = some (.int .u8 x.k) := by simp [go_sem]
  have d1 : (w.alloc (.cells #[.int .u8 x.k, .int .i64 x.a, .int .i64 x.f] 42)).drew.cell? ⟨w.heap.size, 1, none⟩ = some (.int .i64 x.a) := by simp [go_sem]
  have d2 : (w.alloc (.cells #[.int .u8 x.k, .int .i64 x.a, .int .i64 x.f] 42)).drew.cell? ⟨w.heap.size, 2, none⟩ = some (.int .i64 x.f) := by simp [go_sem]
  refine wp_region_still_tail 6 (by kernel_rfl) (by kernel_rfl) ?_
  change wpStill _ _ (w.alloc (.cells #[.int .u8 x.k, .int .i64 x.a, .int .i64 x.f] 42)).drew (fun a' => wpList _ _ _ _ a' (w.alloc (.cells #[.int .u8 x.k, .int .i64 x.a, .int .i64 x.f] 42)).drew) _ _
  revert HP HG d0 d1 d2
  generalize (w.alloc (.cells #[.int .u8 x.k, .int .i64 x.a, .int .i64 x.f] 42)).drew = wd
  intro HP HG d0 d1 d2
  have pc : wd.cell? ⟨p, 0, none⟩ = some (.map (some b)) := HP.out.cell 0
  simp only [List.take_succ_cons, List.take_zero, List.drop_succ_cons, List.drop_zero]
  still_step
  still_step
  still_step
  still_step
  still_step
  still_step
  refine wpStill_nil ?_
  refine wpList_mapUpdate_own _ rfl _ _ _ 88 rfl 42 34 addr_keyed Tryd.underlying88 _ b n D rfl HP.out.own (by unfold maxLen; omega) _ _ _ rfl rfl HK.out _ [] (plainElem_int Tryd.underlying34 HW.out) ?_
  intro w1 hown1 hgrow1
  have HO1 := Lib.hid hown1
  have HT1 := Lib.hid hgrow1
  clear hown1 hgrow1
  go_wp2
  go_end0
  exact ⟨rfl, ⟨(HT1.out.block p HP.out.lt (by simpa using HP.out.ne)).trans HP.out.blk, HO1.out⟩, (Only.of_below HG.out).trans (Only.grown HT1.out)⟩

theorem put_prog (p b n : Nat) (D : DataW Unit) (st ak k a f was is : Int) (done : Bool) (x : Ad) (v : Int) (hw : (Lit.int .u64 v).wf = true) (hn : n < 4611686018427387904) (w : World) (h : PM p b n D st ak k a f was is done w) :
    Calls Tryd.prog 36 #[.pointer (some ⟨p, 0, none⟩), x.v, .int .u64 v] w fun e w' => e = .returned (.tuple #[]) ∧ PM p b (n + 1) (putD D x v) st ak k a f was is done w' ∧ Only p b w w' := by
  by_cases hv : v = 0
  · subst hv
    refine (put_zero p b n D st ak k a f was is done x w h).mono ?_
    rintro e w' ⟨rfl, hp, ho⟩
    refine ⟨rfl, ?_, ho⟩
    unfold putD
    rw [if_pos rfl]
    exact ⟨hp.blk, hp.own.mono (Nat.le_succ n)⟩
  · refine (put_some p b n D st ak k a f was is done x v hv hw hn w h).mono ?_
    rintro e w' ⟨rfl, hp, ho⟩
    refine ⟨rfl, ?_, ho⟩
    unfold putD
    rw [if_neg hv]
    exact hp

theorem PM.setSt {p b n : Nat} {D : DataW Unit} {st ak k a f was is : Int} {done : Bool} {w : World} (h : PM p b n D st ak k a f was is done w) (st' : Int) :
    PM p b n D st' ak k a f was is done (w.setCell ⟨p, 1, none⟩ (.int .i64 st')) := ⟨setCell_blk h.blk 1 _, h.own.setCell (a := ⟨p, 1, none⟩) (Ne.symm h.ne) _⟩
/-- The last access, stored anew. -/
def lastSet (w : World) (b : Nat) (ak k a f was is : Int) (done : Bool) : World :=
  ((((((w.setCell ⟨b, 2, none⟩ (.int .u8 ak)).setCell ⟨b, 3, none⟩ (.int .u8 k)).setCell ⟨b, 4, none⟩ (.int .i64 a)).setCell ⟨b, 5, none⟩ (.int .i64 f)).setCell ⟨b, 6, none⟩ (.int .u64 was)).setCell ⟨b, 7, none⟩ (.int .u64 is)).setCell ⟨b, 8, none⟩ (.bool done)
theorem PM.seven {p b n : Nat} {D : DataW Unit} {st ak k a f was is : Int} {done : Bool} {w : World} (h : PM p b n D st ak k a f was is done w) (ak' k' a' f' was' is' : Int) (done' : Bool) :
    PM p b n D st ak' k' a' f' was' is' done' (lastSet w p ak' k' a' f' was' is' done') := by
  have hn := Ne.symm h.ne
  refine ⟨?_, ((((((h.own.setCell (a := ⟨p, 2, none⟩) hn _).setCell (a := ⟨p, 3, none⟩) hn _).setCell (a := ⟨p, 4, none⟩) hn _).setCell (a := ⟨p, 5, none⟩) hn _).setCell (a := ⟨p, 6, none⟩) hn _).setCell (a := ⟨p, 7, none⟩) hn _).setCell (a := ⟨p, 8, none⟩) hn _⟩
  have := setCell_blk (setCell_blk (setCell_blk (setCell_blk (setCell_blk (setCell_blk (setCell_blk h.blk 2 (.int .u8 ak')) 3 (.int .u8 k')) 4 (.int .i64 a')) 5 (.int .i64 f')) 6 (.int .u64 was')) 7 (.int .u64 is')) 8 (.bool done')
  unfold lastSet
  simpa using this
theorem only_seven (p b : Nat) (w : World) (ak k a f was is : Int) (done : Bool) : Only p b w (lastSet w p ak k a f was is done) :=
  ((((((Only.setCell p b w 2 _).trans (Only.setCell p b _ 3 _)).trans (Only.setCell p b _ 4 _)).trans (Only.setCell p b _ 5 _)).trans (Only.setCell p b _ 6 _)).trans (Only.setCell p b _ 7 _)).trans (Only.setCell p b _ 8 _)

set_option maxRecDepth 100000 in
set_option maxHeartbeats 2000000 in
/-- The call that counts a step. -/
theorem count_prog (p b n : Nat) (D : DataW Unit) (st ak k a f was is : Int) (done : Bool) (ak' : Int) (x : Ad) (was' : Int) (done' : Bool) (hs0 : 0 ≤ st) (hs1 : st < 4611686018427387904) (w : World) (h : PM p b n D st ak k a f was is done w) :
    Calls Tryd.prog 37 #[.pointer (some ⟨p, 0, none⟩), .int .u8 ak', x.v, .int .u64 was', .bool done'] w fun e w' => e = .returned (.tuple #[]) ∧ PM p b n D (st + 1) ak' x.k x.a x.f was' (valD D x) done' w' ∧ Only p b w w' := by
  have HP := Lib.hid (h.setSt (st + 1))
  have HO := Lib.hid (Only.setCell p b w 1 (.int .i64 (st + 1)))
  have hb := h.below ((Below.refl _ w).alloc (Nat.le_refl _) (.cells #[.int .u8 x.k, .int .i64 x.a, .int .i64 x.f] 42))
  have r1 : (w.alloc (.cells #[.int .u8 x.k, .int .i64 x.a, .int .i64 x.f] 42)).cell? ⟨p, 1, none⟩ = some (.int .i64 st) := hb.cell 1
  have z1 := hb.free 1
  have hlt := h.lt
  clear hb
  have hsz : (w.setCell ⟨p, 1, none⟩ (.int .i64 (st + 1))).heap.size = w.heap.size := by simp [World.setCell]
  clear h
  simp only [Ad.v, addrV]
  go_enter Tryd.func37, Tryd.ntmps37
  go_wp2_with fail
  clear r1 z1 hlt
  revert HP HO hsz
  generalize w.setCell ⟨p, 1, none⟩ (.int .i64 (st + 1)) = w1
  intro HP HO hsz
  have hG : Below w1.heap.size w1 (w1.alloc (.cells #[.int .u8 x.k, .int .i64 x.a, .int .i64 x.f] 42)).drew := ((Below.refl _ _).alloc (Nat.le_refl _) _).drew
  have HP1 := Lib.hid (HP.out.below hG)
  have HO1 := Lib.hid (HO.out.trans (Only.of_below hG))
  have d0 : (w1.alloc (.cells #[.int .u8 x.k, .int .i64 x.a, .int .i64 x.f] 42)).drew.cell? ⟨w.heap.size, 0, none⟩ = some (.int .u8 x.k) := by rw [← hsz]; simp [go_sem]
  have d1 : (w1.alloc (.cells #[.int .u8 x.k, .int .i64 x.a, .int .i64 x.f] 42)).drew.cell? ⟨w.heap.size, 1, none⟩ = some (.int .i64 x.a) := by rw [← hsz]; simp [go_sem]
  have d2 : (w1.alloc (.cells #[.int .u8 x.k, .int .i64 x.a, .int .i64 x.f] 42)).drew.cell? ⟨w.heap.size, 2, none⟩ = some (.int .i64 x.f) := by rw [← hsz]; simp [go_sem]
  clear hG hsz
  refine wp_region_still_tail 14 (by kernel_rfl) (by kernel_rfl) ?_
  change wpStill _ _ (w1.alloc (.cells #[.int .u8 x.k, .int .i64 x.a, .int .i64 x.f] 42)).drew (fun a' => wpList _ _ _ _ a' (w1.alloc (.cells #[.int .u8 x.k, .int .i64 x.a, .int .i64 x.f] 42)).drew) _ _
  revert HP1 HO1 d0 d1 d2
  generalize (w1.alloc (.cells #[.int .u8 x.k, .int .i64 x.a, .int .i64 x.f] 42)).drew = wd
  intro HP1 HO1 d0 d1 d2
  have y0 : wd.cell? ⟨p, 0, none⟩ = some (.map (some b)) := HP1.out.cell 0
  have y2 : wd.cell? ⟨p, 2, none⟩ = some (.int .u8 ak) := HP1.out.cell 2
  have y3 : wd.cell? ⟨p, 3, none⟩ = some (.int .u8 k) := HP1.out.cell 3
  have y4 : wd.cell? ⟨p, 4, none⟩ = some (.int .i64 a) := HP1.out.cell 4
  have y5 : wd.cell? ⟨p, 5, none⟩ = some (.int .i64 f) := HP1.out.cell 5
  have y6 : wd.cell? ⟨p, 6, none⟩ = some (.int .u64 was) := HP1.out.cell 6
  have y7 : wd.cell? ⟨p, 7, none⟩ = some (.int .u64 is) := HP1.out.cell 7
  have y8 : wd.cell? ⟨p, 8, none⟩ = some (.bool done) := HP1.out.cell 8
  have z2 := HP1.out.free 2
  have z3 := HP1.out.free 3
  have z4 := HP1.out.free 4
  have z5 := HP1.out.free 5
  have z6 := HP1.out.free 6
  have z7 := HP1.out.free 7
  have z8 := HP1.out.free 8
  have hrun := (HP1.out.lookup x).1
  simp only [Ad.v, addrV] at hrun
  obtain ⟨c, hc⟩ : ∃ c, valD D x = c := ⟨_, rfl⟩
  rw [hc] at hrun
  have HC := Lib.hid hc
  clear hc
  simp only [List.take_succ_cons, List.take_zero, List.drop_succ_cons, List.drop_zero]
  iterate 14 still_step
  refine wpStill_nil ?_
  go_wp2
  go_end0
  rw [HC.out]
  exact ⟨rfl, HP1.out.seven ak' x.k x.a x.f was' c done', HO1.out.trans (only_seven p b wd ak' x.k x.a x.f was' c done')⟩
end Go.Proofs.YtapcgikamldchaaDoor
