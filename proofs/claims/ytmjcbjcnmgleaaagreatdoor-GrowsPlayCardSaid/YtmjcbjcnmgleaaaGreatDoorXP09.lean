/-
  Package frees; conditions as each theorem says.
-/
import Derived.Test.YtmjcbjcnmgleaaaGreatDoorXP03
import Derived.Test.YtmjcbjcnmgleaaaGreatDoorXP01
import Derived.Deep.RegionHeld3
import Derived.Lib.SmallJoins
namespace Go.Proofs.YtmjcbjcnmgleaaaGreatDoor
open Go.RowKit Go.Maps
structure Only3 (p b q : Nat) (X Y : World) : Prop where
  os : Y.os = X.os
  tape : Y.tape = X.tape
  output : Y.output = X.output
  size : X.heap.size ≤ Y.heap.size
  block : ∀ k, k < X.heap.size → k ≠ p → k ≠ b → k ≠ q → Y.heap[k]? = X.heap[k]?
theorem Only3.trans {p b q : Nat} {X Y Z : World} (h : Only3 p b q X Y) (k : Only3 p b q Y Z) : Only3 p b q X Z :=
  ⟨k.os.trans h.os, k.tape.trans h.tape, k.output.trans h.output, Nat.le_trans h.size k.size, fun j hj h1 h2 h3 => (k.block j (Nat.lt_of_lt_of_le hj h.size) h1 h2 h3).trans (h.block j hj h1 h2 h3)⟩
theorem Only3.of_only {p b q : Nat} {X Y : World} (h : Only p b X Y) : Only3 p b q X Y := ⟨h.os, h.tape, h.output, h.size, fun k hk h1 h2 _ => h.block k hk h1 h2⟩
theorem Only3.of_below {p b q : Nat} {X Y : World} (h : Below X.heap.size X Y) : Only3 p b q X Y := .of_only (.of_below h)
theorem Only3.refl (p b q : Nat) (X : World) : Only3 p b q X X := .of_below (Below.refl _ X)
theorem Only3.setCell (p b q : Nat) (X : World) (i : Nat) (v : Value) : Only3 p b q X (X.setCell ⟨q, i, none⟩ v) :=
  ⟨rfl, rfl, rfl, by simp [World.setCell], fun k _ _ _ h3 => Below.heap_setCell X ⟨q, i, none⟩ v k h3⟩
theorem Only3.drewN (p b q : Nat) (X : World) (n : Nat) : Only3 p b q X (X.drewN n) := .of_below (below_drewN' (Below.refl _ _) n)
def OpAt (t : TypeId) (q : Nat) (nx h to : Int) (w : World) : Prop := w.heap[q]? = some (.cells #[.int .i64 nx, .int .u64 h, .int .i64 to] t (0, 0))
section
variable {t : TypeId} {q : Nat} {nx h to : Int} {w w' : World}
theorem OpAt.cell (o : OpAt t q nx h to w) (i : Nat) : w.cell? ⟨q, i, none⟩ = [.int .i64 nx, .int .u64 h, .int .i64 to][i]? := by
  unfold OpAt at o
  simp [World.cell?, o]
theorem OpAt.free (o : OpAt t q nx h to w) (i : Nat) : w.frozen? ⟨q, i, none⟩ = false := by
  unfold OpAt at o
  simp [World.frozen?, o]
theorem OpAt.lt (o : OpAt t q nx h to w) : q < w.heap.size := (Array.getElem?_eq_some_iff.1 o).1
theorem OpAt.same (o : OpAt t q nx h to w) (hb : w'.heap[q]? = w.heap[q]?) : OpAt t q nx h to w' := hb.trans o
theorem OpAt.below (o : OpAt t q nx h to w) (hb : Below w.heap.size w w') : OpAt t q nx h to w' := o.same (hb.block q o.lt)
theorem OpAt.set0 (o : OpAt t q nx h to w) (v : Int) : OpAt t q v h to (w.setCell ⟨q, 0, none⟩ (.int .i64 v)) := by
  have := setCell_blk o 0 (.int .i64 v)
  unfold OpAt
  simpa using this
theorem OpAt.set1 (o : OpAt t q nx h to w) (v : Int) : OpAt t q nx v to (w.setCell ⟨q, 1, none⟩ (.int .u64 v)) := by
  have := setCell_blk o 1 (.int .u64 v)
  unfold OpAt
  simpa using this
theorem OpAt.set2 (o : OpAt t q nx h to w) (v : Int) : OpAt t q nx h v (w.setCell ⟨q, 2, none⟩ (.int .i64 v)) := by
  have := setCell_blk o 2 (.int .i64 v)
  unfold OpAt
  simpa using this
theorem OpAt.ne_p {p b n : Nat} {D : DataW Unit} {st ak k a f was is : Int} {done : Bool} (o : OpAt t q nx h to w) (m : PM p b n D st ak k a f was is done w) (ht : t ≠ 121) : q ≠ p := by
  rintro rfl
  have := m.blk.symm.trans o
  simp only [Option.some.injEq, Obj.cells.injEq] at this
  exact ht this.2.1.symm
theorem OpAt.ne_b {p b n : Nat} {D : DataW Unit} {st ak k a f was is : Int} {done : Bool} (o : OpAt t q nx h to w) (m : PM p b n D st ak k a f was is done w) : q ≠ b := by
  rintro rfl
  obtain ⟨es, clock, hb, _⟩ := m.own
  have := hb.symm.trans o
  simp at this
theorem OpAt.only {p b n : Nat} {D : DataW Unit} {st ak k a f was is : Int} {done : Bool} (o : OpAt t q nx h to w) (m : PM p b n D st ak k a f was is done w) (ht : t ≠ 121) (ho : Only p b w w') : OpAt t q nx h to w' := o.same (ho.block q o.lt (o.ne_p m ht) (o.ne_b m))
theorem over_any (o : OpAt t q nx h to w) : Calls Tryz.prog 119 #[.pointer (some ⟨q, 0, none⟩)] w fun e w' => e = .returned (.bool (nx == 0)) ∧ w = w' := by
  have c0 := o.cell 0
  simp only [List.getElem?_cons_zero] at c0
  go_enter Tryz.func119, Tryz.ntmps119
  go_wp2
  go_ret
  exact ⟨rfl, rfl⟩
theorem first_any (hL : Lay w) (hh : U64 h) (o : OpAt t q nx h to w) : Calls Tryz.prog 135 #[.pointer (some ⟨q, 0, none⟩)] w fun e w' => e = .returned (.int .i64 (wSlot h)) ∧ ∃ n, w' = w.drewN n := by
  have c1 := o.cell 1
  simp only [List.getElem?_cons_zero, List.getElem?_cons_succ] at c1
  go_enter Tryz.func135, Tryz.ntmps135
  go_wp2_with (go_at_call 59; refine (asHead_any h w hL hh).mono ?_; rintro e w' ⟨rfl, n, rfl⟩)
  go_ret
  exact ⟨rfl, n, rfl⟩
theorem link_any (s : Int) (w : World) : Calls Tryz.prog 153 #[.int .i64 s] w fun e w' => e = .returned (.agg #[.int .u8 9, .int .i64 s, .int .i64 2]) ∧ Below w.heap.size w w' := by
  go_enter Tryz.func153, Tryz.ntmps153
  go_wp2
  exact bodyPost_ret (v := .agg #[.int .u8 9, .int .i64 s, .int .i64 2]) (by simp [results, Tryz.results153, go_sem]) rfl ⟨rfl, (Below.refl _ _).alloc (Nat.le_refl _) _⟩
theorem newPop_any (w : World) : Calls Tryz.prog 89 #[] w fun e w' => e = .returned (.pointer (some ⟨w.heap.size, 0, none⟩)) ∧ OpAt 210 w.heap.size 1 0 0 w' ∧ Below w.heap.size w w' ∧ w'.heap.size = w.heap.size + 1 := by
  go_enter Tryz.func89, Tryz.ntmps89
  go_wp2
  go_ret
  exact ⟨rfl, alloc_blk _ _, (Below.refl _ _).alloc (Nat.le_refl _) _, by simp⟩
theorem newPush_any (s : Int) (h0 : 0 ≤ s) (h1 : s < 256) (w : World) : Calls Tryz.prog 82 #[.int .i64 s] w fun e w' => e = .returned (.pointer (some ⟨w.heap.size, 0, none⟩)) ∧ OpAt 198 w.heap.size 1 0 s w' ∧ Below w.heap.size w w' ∧ w'.heap.size = w.heap.size + 1 := by
  go_enter Tryz.func82, Tryz.ntmps82
  go_wp2
  go_ret
  exact ⟨rfl, alloc_blk _ _, (Below.refl _ _).alloc (Nat.le_refl _) _, by simp⟩
end
end Go.Proofs.YtmjcbjcnmgleaaaGreatDoor
namespace Go.Proofs.YtmjcbjcnmgleaaaGreatDoor
open Go.RowKit Go.Maps
def adF : Ad := ⟨0, 0, 0, by decide, by decide, by decide⟩
def I64w (s : Int) : Prop := (Lit.int .i64 s).wf = true
def adL (s : Int) (h : I64w s) : Ad := ⟨9, s, 2, by decide, h, by decide⟩
theorem i64w_in {x : Int} (h0 : -1000000 ≤ x) (h1 : x ≤ 1000000) : I64w x := by
  unfold I64w
  simp only [Lit.wf, IntKind.min, IntKind.max, IntKind.signed, IntKind.bits]
  simp
  omega
theorem slot_in (h : Int) : -1 ≤ wSlot h ∧ wSlot h ≤ 255 := by
  have h1 := fld_nonneg h 0 16
  unfold wSlot slotS
  generalize fld h 0 16 = x at *
  split <;> omega
theorem i64w_slot (h : Int) : I64w (wSlot h) := i64w_in (by have := slot_in h; omega) (by have := slot_in h; omega)
theorem PM.val_u64 {p b n : Nat} {D : DataW Unit} {st ak k a f was is : Int} {done : Bool} {w : World} (h : PM p b n D st ak k a f was is done w) (x : Ad) : U64 (valD D x) := by
  have := (h.lookup x).2
  simp only [Lit.wf, IntKind.min, IntKind.max, IntKind.signed, IntKind.bits] at this
  simp at this
  exact ⟨by omega, by omega⟩
theorem u64w {x : Int} (h : U64 x) : (Lit.int .u64 x).wf = true := by
  obtain ⟨h0, h1⟩ := h
  simp [Lit.wf, IntKind.min, IntKind.max, IntKind.signed, IntKind.bits]
  omega
theorem p48 : (2 : Int) ^ 48 = 281474976710656 := by decide
theorem p16 : (2 : Int) ^ 16 = 65536 := by decide
theorem head_u64 (s t : Int) : U64 (headW s t) := by
  have h0 := numS_in s
  have a := Int.emod_lt_of_pos t (two_pow_pos 48)
  have b := Int.emod_nonneg t (b := 2 ^ 48) (by decide)
  unfold headW pw
  rw [p48, p16] at *
  have h1 := Int.emod_lt_of_pos (numS s) (show (0 : Int) < 65536 by decide)
  have h2 := Int.emod_nonneg (numS s) (b := 65536) (by decide)
  have h3 : (2 : Int) ^ 0 = 1 := by decide
  rw [h3]
  exact ⟨by omega, by omega⟩
theorem Lay.same3 {w w' : World} (h : Lay w) (hs : w.heap.size ≤ w'.heap.size) (hb : w'.heap[1]? = w.heap[1]?) : Lay w' :=
  ⟨Nat.lt_of_lt_of_le h.1 hs, fun k hk => (World.cell?_of_block (a := ⟨1, k, none⟩) hb).trans (h.2 k hk)⟩
theorem PM.keep3 {p b n : Nat} {D : DataW Unit} {st ak k a f was is : Int} {done : Bool} {X Y : World} (h : PM p b n D st ak k a f was is done X) (hp : Y.heap[p]? = X.heap[p]?) (hb : Y.heap[b]? = X.heap[b]?) : PM p b n D st ak k a f was is done Y := by
  obtain ⟨h1, es, clock, hm, rest⟩ := h
  exact ⟨hp.trans h1, es, clock, hb.trans hm, rest⟩
theorem PM.setQ {p b q n : Nat} {D : DataW Unit} {st ak k a f was is : Int} {done : Bool} {X : World} (h : PM p b n D st ak k a f was is done X) (hp : q ≠ p) (hb : q ≠ b) (i : Nat) (v : Value) : PM p b n D st ak k a f was is done (X.setCell ⟨q, i, none⟩ v) :=
  h.keep3 (Below.heap_setCell X ⟨q, i, none⟩ v p (Ne.symm hp)) (Below.heap_setCell X ⟨q, i, none⟩ v b (Ne.symm hb))
section
variable {t : TypeId} {p b q n : Nat} {nx h to : Int} {D : DataW Unit} {st ak k a f was is : Int} {done : Bool} {w w' : World}
set_option maxRecDepth 100000 in
set_option maxHeartbeats 2000000 in
theorem read_any (ht : t ≠ 121) (hs0 : 0 ≤ st) (hs1 : st < 4611686018427387904) (o : OpAt t q nx h to w) (m : PM p b n D st ak k a f was is done w) :
    Calls Tryz.prog 142 #[.pointer (some ⟨q, 0, none⟩), .pointer (some ⟨p, 0, none⟩)] w fun e w' =>
      e = .returned (.int .i64 2) ∧ OpAt t q nx (valD D adF) to w' ∧ PM p b n D (st + 1) 1 0 0 0 (valD D adF) (valD D adF) false w' ∧ Only3 p b q w w' := by
  have hload := load_prog p b n D st ak k a f was is done adF hs0 hs1 w m
  simp only [Ad.v, addrV, adF] at hload
  have HO := Lib.hid o
  have HM := Lib.hid m
  have hqp := o.ne_p m ht
  have hqb := o.ne_b m
  clear o m
  go_enter Tryz.func142, Tryz.ntmps142
  go_wp2_with fail
  ((with_reducible refine hload.mono ?_); rintro e w1 ⟨rfl, m1, ho1⟩)
  clear hload
  have HM1 := Lib.hid m1
  have HO1 := Lib.hid (HO.out.only HM.out ht ho1)
  have HT1 := Lib.hid ho1
  have c1 := HO1.out.cell 1
  have z1 := HO1.out.free 1
  simp only [List.getElem?_cons_zero, List.getElem?_cons_succ] at c1
  clear m1 ho1
  go_wp2
  go_ret
  exact ⟨rfl, HO1.out.set1 _, HM1.out.setQ hqp hqb _ _, (Only3.of_only HT1.out).trans (Only3.setCell _ _ _ _ _ _)⟩
set_option maxRecDepth 100000 in
set_option maxHeartbeats 2000000 in
theorem start_any (hs0 : 0 ≤ st) (hs1 : st < 4611686018427387904) (hL : Lay w) (hb0 : 1 < b) (hp0 : 1 < p) (hq0 : 1 < q) (o : OpAt 210 q nx h to w) (m : PM p b n D st ak k a f was is done w) :
    Calls Tryz.prog 193 #[.pointer (some ⟨q, 0, none⟩), .pointer (some ⟨p, 0, none⟩)] w fun e w' =>
      e = .returned (.int .i64 (if wSlot (valD D adF) < 0 then 0 else 2)) ∧ OpAt 210 q nx (valD D adF) to w' ∧ PM p b n D (st + 1) 1 0 0 0 (valD D adF) (valD D adF) false w' ∧ Only3 p b q w w' := by
  have hread := read_any (by decide) hs0 hs1 o m
  have hu := m.val_u64 adF
  have HL := Lib.hid hL
  clear o m hL
  go_enter Tryz.func193, Tryz.ntmps193
  go_wp2_with fail
  ((with_reducible refine hread.mono ?_); rintro e w1 ⟨rfl, o1, m1, h1⟩)
  have hL1 : Lay w1 := HL.out.same3 h1.size (h1.block 1 HL.out.1 (by omega) (by omega) (by omega))
  have hfirst := first_any hL1 hu o1
  have HO1 := Lib.hid o1
  have HM1 := Lib.hid m1
  have HT1 := Lib.hid h1
  clear hread o1 m1 h1 hL1 HL
  go_wp2_with fail
  ((with_reducible refine hfirst.mono ?_); rintro e w2 ⟨rfl, j, rfl⟩)
  clear hfirst
  have HB := Lib.hid (show Below w1.heap.size w1 (w1.drewN j) from below_drewN' (Below.refl _ _) j)
  by_cases hs : wSlot (valD D adF) < 0
  · go_wp2
    go_ret
    exact ⟨rfl, HO1.out.below HB.out, HM1.out.below HB.out, HT1.out.trans (Only3.drewN _ _ _ _ _)⟩
  · have hs' : 0 ≤ wSlot (valD D adF) := by omega
    go_wp2
    go_ret
    exact ⟨rfl, HO1.out.below HB.out, HM1.out.below HB.out, HT1.out.trans (Only3.drewN _ _ _ _ _)⟩
set_option maxRecDepth 100000 in
set_option maxHeartbeats 2000000 in
theorem look_any (hs0 : 0 ≤ st) (hs1 : st < 4611686018427387904) (hL : Lay w) (hb0 : 1 < b) (hp0 : 1 < p) (hq0 : 1 < q) (hh : U64 h) (o : OpAt 210 q nx h to w) (m : PM p b n D st ak k a f was is done w) :
    Calls Tryz.prog 194 #[.pointer (some ⟨q, 0, none⟩), .pointer (some ⟨p, 0, none⟩)] w fun e w' =>
      e = .returned (.int .i64 3) ∧ OpAt 210 q nx h (wSlot (valD D (adL (wSlot h) (i64w_slot h)))) w' ∧ PM p b n D (st + 1) 1 9 (wSlot h) 2 (valD D (adL (wSlot h) (i64w_slot h))) (valD D (adL (wSlot h) (i64w_slot h))) false w' ∧ Only3 p b q w w' := by
  have hfirst := first_any hL hh o
  have HO := Lib.hid o
  have HM := Lib.hid m
  have HL := Lib.hid hL
  clear o m hL
  go_enter Tryz.func194, Tryz.ntmps194
  go_wp2_with fail
  ((with_reducible refine hfirst.mono ?_); rintro e w1 ⟨rfl, j, rfl⟩)
  clear hfirst
  go_wp2_with fail
  ((with_reducible refine (link_any _ _).mono ?_); rintro e w2 ⟨rfl, hb⟩)
  have hbb := (below_drewN' (Below.refl w.heap.size w) j).trans hb
  have o2 := HO.out.below hbb
  have m2 := HM.out.below hbb
  have hload := load_prog p b n D st ak k a f was is done (adL (wSlot h) (i64w_slot h)) hs0 hs1 w2 m2
  simp only [Ad.v, addrV, adL] at hload
  have HO2 := Lib.hid o2
  have HM2 := Lib.hid m2
  have HB2 := Lib.hid hbb
  clear hb hbb o2 m2
  go_wp2_with fail
  ((with_reducible refine hload.mono ?_); rintro e w3 ⟨rfl, m3, ho3⟩)
  have o3 := HO2.out.only HM2.out (by decide) ho3
  have h3 : Only3 p b q w w3 := (Only3.of_below HB2.out).trans (.of_only ho3)
  have hL3 : Lay w3 := HL.out.same3 h3.size (h3.block 1 HL.out.1 (by omega) (by omega) (by omega))
  have hhd := asHead_any _ w3 hL3 (HM.out.val_u64 (adL (wSlot h) (i64w_slot h)))
  simp only [adL] at hhd
  have HO3 := Lib.hid o3
  have HM3 := Lib.hid m3
  have HT3 := Lib.hid h3
  have hqp := HO.out.ne_p HM.out (by decide)
  have hqb := HO.out.ne_b HM.out
  clear o3 m3 h3 ho3 hL3 hload HL HO2 HM2 HB2
  go_wp2_with fail
  ((with_reducible refine hhd.mono ?_); rintro e w4 ⟨rfl, i, rfl⟩)
  clear hhd
  have HB := Lib.hid (show Below w3.heap.size w3 (w3.drewN i) from below_drewN' (Below.refl _ _) i)
  have HO4 := Lib.hid (HO3.out.below HB.out)
  have HM4 := Lib.hid (HM3.out.below HB.out)
  have c2 := HO3.out.cell 2
  have z2 := HO3.out.free 2
  simp only [List.getElem?_cons_zero, List.getElem?_cons_succ] at c2
  go_wp2
  go_ret
  exact ⟨rfl, HO4.out.set2 _, HM4.out.setQ hqp hqb _ _, (HT3.out.trans (Only3.drewN _ _ _ _ _)).trans (Only3.setCell _ _ _ _ _ _)⟩
end
end Go.Proofs.YtmjcbjcnmgleaaaGreatDoor
namespace Go.Proofs.YtmjcbjcnmgleaaaGreatDoor
open Go.RowKit Go.Maps
section
variable {t : TypeId} {p b q n : Nat} {nx h to : Int} {D : DataW Unit} {st ak k a f was is : Int} {done : Bool} {w w' : World}
theorem below_drew_n (w : World) (n : Nat) : Below w.drew.heap.size w.drew (w.drewN n) := ⟨rfl, rfl, rfl, Nat.le_refl _, fun _ _ => rfl⟩
theorem u64_0 : U64 0 := ⟨by decide, by decide⟩
def OpS (q : Nat) (nx h to : Int) (W : World) : Prop := W.cell? ⟨q, 0, none⟩ = some (.int .i64 nx) ∧ W.cell? ⟨q, 1, none⟩ = some (.int .u64 h) ∧ W.cell? ⟨q, 2, none⟩ = some (.int .i64 to)
theorem OpAt.s (o : OpAt t q nx h to w) : OpS q nx h to w := ⟨by simpa using o.cell 0, by simpa using o.cell 1, by simpa using o.cell 2⟩
theorem store9 (hto : I64w to) {v : Int} (hv : (Lit.int .u64 v).wf = true) (hs0 : 0 ≤ st) (hs1 : st < 4611686018427387904) (hn : n < 4611686018427387904) (hl : LayM w) (m : PM p b n D st ak k a f was is done w) :
    Calls Tryz.prog 32 #[.pointer (some ⟨p, 0, none⟩), .agg #[.int .u8 9, .int .i64 to, .int .i64 2], .int .u64 v] w fun e w' => e = .returned (.tuple #[]) ∧ PM p b (n + 1) (storeD D (adL to hto) v) (st + 1) 2 9 to 2 (valD D (adL to hto)) (valD (storeD D (adL to hto) v) (adL to hto)) false w' ∧ Only p b w w' :=
  store_prog p b n D st ak k a f was is done (adL to hto) v hv hs0 hs1 hn w hl m
set_option maxRecDepth 100000 in
set_option maxHeartbeats 4000000 in
theorem hang_any (hs0 : 0 ≤ st) (hs1 : st < 4611686018427387904) (hn : n < 4611686018427387904) (hL : Lay w) (hM : LayM w) (_ : 1 < b) (_ : 1 < p) (hh : U64 h) (hto : I64w to) (o : OpAt 198 q nx h to w) (m : PM p b n D st ak k a f was is done w) :
    Calls Tryz.prog 143 #[.pointer (some ⟨q, 0, none⟩), .pointer (some ⟨p, 0, none⟩)] w fun e w' =>
      e = .returned (.int .i64 3) ∧ OpAt 198 q nx h to w' ∧ PM p b (n + 1) (storeD D (adL to hto) (headW (wSlot h) 0)) (st + 1) 2 9 to 2 (valD D (adL to hto)) (valD (storeD D (adL to hto) (headW (wSlot h) 0)) (adL to hto)) false w' ∧ Only3 p b q w w' := by
  have HO := Lib.hid (o.below (Below.refl _ w).drew)
  have HM := Lib.hid (m.below (Below.refl _ w).drew)
  have HL := Lib.hid (hL.below (Below.refl _ w).drew)
  have HLM := Lib.hid (hM.below (Below.refl _ w).drew)
  have HT := Lib.hid (Only3.of_below (p := p) (b := b) (q := q) (Below.refl _ w).drew)
  have hs := Lib.hid (o.below (Below.refl _ w).drew).s
  have hu := u64w (head_u64 (wSlot h) 0)
  have HU := Lib.hid hu
  clear o m hL hM hu
  go_enter Tryz.func143, Tryz.ntmps143
  go_wp2_with fail
  go_region_held3 (fun w1 => w1.cell? ⟨q, 0, none⟩ = some (.int .i64 nx) ∧ w1.cell? ⟨q, 1, none⟩ = some (.int .u64 h) ∧ w1.cell? ⟨q, 2, none⟩ = some (.int .i64 to))
    (first | exact hs.out | exact hS1.out | exact hS2.out | exact hS3.out | exact hS4.out)
    (first
      | (go_at_call 153; with_reducible refine (link_any to _).mono ?_; rintro e wA ⟨rfl, hA⟩; have HOA := Lib.hid (HO.out.below hA); have hS1 := Lib.hid HOA.out.s; have HA := Lib.hid hA; clear hA)
      | (go_at_call 135; with_reducible refine (first_any (HL.out.below HA.out) hh HOA.out).mono ?_; rintro e wB ⟨rfl, j, rfl⟩; have HJ := Lib.hid (show Below w.drew.heap.size w.drew (wA.drewN j) from HA.out.trans ((below_drewN' (Below.refl _ _) j).mono HA.out.size)); have hS2 := Lib.hid (HO.out.below HJ.out).s)
      | (go_at_call 154; with_reducible refine (head_any (wSlot h) 0 (wA.drewN j) (HL.out.below HJ.out) u64_0).mono ?_; rintro e wC ⟨rfl, i, rfl⟩; have HI := Lib.hid (show Below w.drew.heap.size w.drew (wA.drewN (j + i)) from HA.out.trans ((below_drewN' (Below.refl _ _) (j + i)).mono HA.out.size)); have hS3 := Lib.hid (HO.out.below HI.out).s)
      | (go_at_call 32; with_reducible refine (store9 hto HU.out hs0 hs1 hn (HLM.out.below HI.out) (HM.out.below HI.out)).mono ?_; rintro e wD ⟨rfl, m4, h4⟩; have HO4 := Lib.hid ((HO.out.below HI.out).only (HM.out.below HI.out) (by decide) h4); have hS4 := Lib.hid HO4.out.s; have HM4 := Lib.hid m4; have HT4 := Lib.hid (HT.out.trans ((Only3.of_below HI.out).trans (.of_only h4))); clear m4 h4))
  go_wp2
  go_ret
  exact ⟨rfl, HO4.out, HM4.out, HT4.out⟩
theorem cas0 {u v : Int} {c : Bool} (hc : casB D adF u = c) (hv : (Lit.int .u64 v).wf = true) (hs0 : 0 ≤ st) (hs1 : st < 4611686018427387904) (hn : n < 4611686018427387904) (hl : LayM w) (m : PM p b n D st ak k a f was is done w) :
    Calls Tryz.prog 108 #[.pointer (some ⟨p, 0, none⟩), .agg #[.int .u8 0, .int .i64 0, .int .i64 0], .int .u64 u, .int .u64 v] w fun e w' => e = .returned (.bool c) ∧ PM p b (n + 1) (casD D adF u v) (st + 1) 3 0 0 0 (valD D adF) (valD (casD D adF u v) adF) c w' ∧ Only p b w w' := by
  subst hc
  exact cas_prog p b n D st ak k a f was is done adF u v hv hs0 hs1 hn w hl m
theorem tag_wrap (h : Int) : IntKind.u64.wrap (fld h 16 48 + 1) = fld h 16 48 + 1 := by
  have h1 := fld_nonneg h 16 48
  have h2 := fld_lt h 16 48
  rw [p48] at h2
  rw [IntKind.wrap_u64]
  omega
theorem tag_u64 (h : Int) : U64 (fld h 16 48 + 1) := by
  have h1 := fld_nonneg h 16 48
  have h2 := fld_lt h 16 48
  rw [p48] at h2
  exact ⟨by omega, by omega⟩
def nextW (h s : Int) : Int := headW s (fld h 16 48 + 1)
set_option maxRecDepth 100000 in
set_option maxHeartbeats 4000000 in
theorem swap_yes (hc : casB D adF h = true) (ht : t ≠ 121) (hs0 : 0 ≤ st) (hs1 : st < 4611686018427387904) (hn : n < 4611686018427387904) (hL : Lay w) (hM : LayM w) (hh : U64 h) (o : OpAt t q nx h to w) (m : PM p b n D st ak k a f was is done w) :
    Calls Tryz.prog 144 #[.pointer (some ⟨q, 0, none⟩), .pointer (some ⟨p, 0, none⟩)] w fun e w' =>
      e = .returned (.int .i64 0) ∧ OpAt t q nx h to w' ∧ PM p b (n + 1) (casD D adF h (nextW h to)) (st + 1) 3 0 0 0 (valD D adF) (valD (casD D adF h (nextW h to)) adF) true w' ∧ Only3 p b q w w' := by
  have hhd := asHead_any h w hL hh
  have HC := Lib.hid hc
  clear hc
  have HO := Lib.hid o
  have HM := Lib.hid m
  have HL := Lib.hid hL
  have HLM := Lib.hid hM
  have HU := Lib.hid (u64w (head_u64 to (fld h 16 48 + 1)))
  have c1 := o.cell 1
  simp only [List.getElem?_cons_zero, List.getElem?_cons_succ] at c1
  clear o m hL hM
  have hz := tag_wrap h
  go_enter Tryz.func144, Tryz.ntmps144
  go_wp2_with fail
  ((with_reducible refine hhd.mono ?_); rintro e w1 ⟨rfl, j, rfl⟩)
  have HB0 := Lib.hid (show Below w.heap.size w (w.drewN j) from below_drewN' (Below.refl _ _) j)
  clear hhd c1
  revert HB0
  generalize w.drewN j = wr
  intro HB0
  have HB := Lib.hid (show Below w.heap.size w wr.drew from HB0.out.drew)
  have HO1 := Lib.hid (HO.out.below HB.out)
  have HM1 := Lib.hid (HM.out.below HB.out)
  have HL1 := Lib.hid (HL.out.below HB.out)
  have HLM1 := Lib.hid (HLM.out.below HB.out)
  have HT1 := Lib.hid (Only3.of_below (p := p) (b := b) (q := q) HB.out)
  have hs := Lib.hid HO1.out.s
  go_wp2_with fail
  go_region_held3 (fun w1 => w1.cell? ⟨q, 0, none⟩ = some (.int .i64 nx) ∧ w1.cell? ⟨q, 1, none⟩ = some (.int .u64 h) ∧ w1.cell? ⟨q, 2, none⟩ = some (.int .i64 to))
    (first | exact hs.out | exact hS1.out | exact hS2.out)
    (first
      | (go_at_call 154; with_reducible refine (head_any to (fld h 16 48 + 1) _ HL1.out (tag_u64 h)).mono ?_; rintro e wA ⟨rfl, i, rfl⟩; have HI := Lib.hid (below_drew_n wr (1 + i)); have HOA := Lib.hid (HO1.out.below HI.out); have hS1 := Lib.hid HOA.out.s)
      | (go_at_call 108; with_reducible refine (cas0 HC.out HU.out hs0 hs1 hn (HLM1.out.below HI.out) (HM1.out.below HI.out)).mono ?_; rintro e wD ⟨rfl, m4, h4⟩; have HO4 := Lib.hid (HOA.out.only (HM1.out.below HI.out) ht h4); have hS2 := Lib.hid HO4.out.s; have HM4 := Lib.hid m4; have HT4 := Lib.hid (HT1.out.trans ((Only3.of_below HI.out).trans (.of_only h4))); clear m4 h4))
  clear hz HO HM HL HLM HU hs HB HB0 HO1 HM1 HL1 HLM1 HT1 HOA hS1 hS2 HI
  go_wp2
  go_ret
  exact ⟨rfl, HO4.out, HM4.out, HT4.out⟩
set_option maxRecDepth 100000 in
set_option maxHeartbeats 4000000 in
theorem swap_no (hc : casB D adF h = false) (ht : t ≠ 121) (hs0 : 0 ≤ st) (hs1 : st < 4611686018427387904) (hn : n < 4611686018427387904) (hL : Lay w) (hM : LayM w) (hh : U64 h) (o : OpAt t q nx h to w) (m : PM p b n D st ak k a f was is done w) :
    Calls Tryz.prog 144 #[.pointer (some ⟨q, 0, none⟩), .pointer (some ⟨p, 0, none⟩)] w fun e w' =>
      e = .returned (.int .i64 1) ∧ OpAt t q nx h to w' ∧ PM p b (n + 1) (casD D adF h (nextW h to)) (st + 1) 3 0 0 0 (valD D adF) (valD (casD D adF h (nextW h to)) adF) false w' ∧ Only3 p b q w w' := by
  have hhd := asHead_any h w hL hh
  have HC := Lib.hid hc
  clear hc
  have HO := Lib.hid o
  have HM := Lib.hid m
  have HL := Lib.hid hL
  have HLM := Lib.hid hM
  have HU := Lib.hid (u64w (head_u64 to (fld h 16 48 + 1)))
  have c1 := o.cell 1
  simp only [List.getElem?_cons_zero, List.getElem?_cons_succ] at c1
  clear o m hL hM
  have hz := tag_wrap h
  go_enter Tryz.func144, Tryz.ntmps144
  go_wp2_with fail
  ((with_reducible refine hhd.mono ?_); rintro e w1 ⟨rfl, j, rfl⟩)
  have HB0 := Lib.hid (show Below w.heap.size w (w.drewN j) from below_drewN' (Below.refl _ _) j)
  clear hhd c1
  revert HB0
  generalize w.drewN j = wr
  intro HB0
  have HB := Lib.hid (show Below w.heap.size w wr.drew from HB0.out.drew)
  have HO1 := Lib.hid (HO.out.below HB.out)
  have HM1 := Lib.hid (HM.out.below HB.out)
  have HL1 := Lib.hid (HL.out.below HB.out)
  have HLM1 := Lib.hid (HLM.out.below HB.out)
  have HT1 := Lib.hid (Only3.of_below (p := p) (b := b) (q := q) HB.out)
  have hs := Lib.hid HO1.out.s
  go_wp2_with fail
  go_region_held3 (fun w1 => w1.cell? ⟨q, 0, none⟩ = some (.int .i64 nx) ∧ w1.cell? ⟨q, 1, none⟩ = some (.int .u64 h) ∧ w1.cell? ⟨q, 2, none⟩ = some (.int .i64 to))
    (first | exact hs.out | exact hS1.out | exact hS2.out)
    (first
      | (go_at_call 154; with_reducible refine (head_any to (fld h 16 48 + 1) _ HL1.out (tag_u64 h)).mono ?_; rintro e wA ⟨rfl, i, rfl⟩; have HI := Lib.hid (below_drew_n wr (1 + i)); have HOA := Lib.hid (HO1.out.below HI.out); have hS1 := Lib.hid HOA.out.s)
      | (go_at_call 108; with_reducible refine (cas0 HC.out HU.out hs0 hs1 hn (HLM1.out.below HI.out) (HM1.out.below HI.out)).mono ?_; rintro e wD ⟨rfl, m4, h4⟩; have HO4 := Lib.hid (HOA.out.only (HM1.out.below HI.out) ht h4); have hS2 := Lib.hid HO4.out.s; have HM4 := Lib.hid m4; have HT4 := Lib.hid (HT1.out.trans ((Only3.of_below HI.out).trans (.of_only h4))); clear m4 h4))
  clear hz HO HM HL HLM HU hs HB HB0 HO1 HM1 HL1 HLM1 HT1 HOA hS1 hS2 HI
  go_wp2
  go_ret
  exact ⟨rfl, HO4.out, HM4.out, HT4.out⟩
theorem swap_any (ht : t ≠ 121) (hs0 : 0 ≤ st) (hs1 : st < 4611686018427387904) (hn : n < 4611686018427387904) (hL : Lay w) (hM : LayM w) (hh : U64 h) (o : OpAt t q nx h to w) (m : PM p b n D st ak k a f was is done w) :
    Calls Tryz.prog 144 #[.pointer (some ⟨q, 0, none⟩), .pointer (some ⟨p, 0, none⟩)] w fun e w' =>
      e = .returned (.int .i64 (if casB D adF h = true then 0 else 1)) ∧ OpAt t q nx h to w' ∧ PM p b (n + 1) (casD D adF h (nextW h to)) (st + 1) 3 0 0 0 (valD D adF) (valD (casD D adF h (nextW h to)) adF) (casB D adF h) w' ∧ Only3 p b q w w' := by
  by_cases hc : casB D adF h = true
  · rw [if_pos hc, hc]
    exact swap_yes hc ht hs0 hs1 hn hL hM hh o m
  · rw [if_neg hc]
    have hc' : casB D adF h = false := by simpa using hc
    rw [hc']
    exact swap_no hc' ht hs0 hs1 hn hL hM hh o m
end
end Go.Proofs.YtmjcbjcnmgleaaaGreatDoor
