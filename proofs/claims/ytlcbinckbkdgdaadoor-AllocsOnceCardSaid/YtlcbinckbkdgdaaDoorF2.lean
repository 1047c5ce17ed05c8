/-
  Package frees: what each line of a Pop and of a Push does; condition: the tables as laid, the operation and the memory lie as they say, numbers of their kinds.
-/
import Derived.Test.YtlcbinckbkdgdaaDoorF1
namespace Go.Proofs.YtlcbinckbkdgdaaDoor
open Go.RowKit Go.Maps

/-- The address of the list's head, and of a slot's link. -/
def adF : Ad := ⟨0, 0, 0, by decide, by decide, by decide⟩
def I64w (s : Int) : Prop := (Lit.int .i64 s).wf = true
def adL (s : Int) (h : I64w s) : Ad := ⟨9, s, 2, by decide, h, by decide⟩
theorem i64w_in {x : Int} (h0 : -1000000 ≤ x) (h1 : x ≤ 1000000) : I64w x := by
  unfold I64w
  simp only [Lit.wf, IntKind.min, IntKind.max, IntKind.signed, IntKind.bits]
  simp
  omega
theorem slot_in (h : Int) : -1 ≤ wSlot h ∧ wSlot h ≤ 255 := by
  have h1 := fld_nonneg h 0 16
  unfold wSlot slotS
  generalize fld h 0 16 = x at *
  split <;> omega
theorem i64w_slot (h : Int) : I64w (wSlot h) := i64w_in (by have := slot_in h; omega) (by have := slot_in h; omega)
theorem PM.val_u64 {p b n : Nat} {D : DataW Unit} {st ak k a f was is : Int} {done : Bool} {w : World} (h : PM p b n D st ak k a f was is done w) (x : Ad) : U64 (valD D x) := by
  have := (h.lookup x).2
  simp only [Lit.wf, IntKind.min, IntKind.max, IntKind.signed, IntKind.bits] at this
  simp at this
  exact ⟨by omega, by omega⟩
theorem u64w {x : Int} (h : U64 x) : (Lit.int .u64 x).wf = true := by
  obtain ⟨h0, h1⟩ := h
  simp [Lit.wf, IntKind.min, IntKind.max, IntKind.signed, IntKind.bits]
  omega
theorem p48 : (2 : Int) ^ 48 = 281474976710656 := by decide
theorem p16 : (2 : Int) ^ 16 = 65536 := by decide
theorem head_u64 (s t : Int) : U64 (headW s t) := by
  have h0 := numS_in s
  have a := Int.emod_lt_of_pos t (two_pow_pos 48)
  have b := Int.emod_nonneg t (b := 2 ^ 48) (by decide)
  unfold headW pw
  rw [p48, p16] at *
  have h1 := Int.emod_lt_of_pos (numS s) (show (0 : Int) < 65536 by decide)
  have h2 := Int.emod_nonneg (numS s) (b := 65536) (by decide)
  have h3 : (2 : Int) ^ 0 = 1 := by decide
  rw [h3]
  exact ⟨by omega, by omega⟩
theorem Lay.same3 {w w' : World} (h : Lay w) (hs : w.heap.size ≤ w'.heap.size) (hb : w'.heap[1]? = w.heap[1]?) : Lay w' :=
  ⟨Nat.lt_of_lt_of_le h.1 hs, fun k hk => (World.cell?_of_block (a := ⟨1, k, none⟩) hb).trans (h.2 k hk)⟩
theorem PM.keep3 {p b n : Nat} {D : DataW Unit} {st ak k a f was is : Int} {done : Bool} {X Y : World} (h : PM p b n D st ak k a f was is done X) (hp : Y.heap[p]? = X.heap[p]?) (hb : Y.heap[b]? = X.heap[b]?) : PM p b n D st ak k a f was is done Y := by
  obtain ⟨h1, es, clock, hm, rest⟩ := h
  exact ⟨hp.trans h1, es, clock, hb.trans hm, rest⟩
theorem PM.setQ {p b q n : Nat} {D : DataW Unit} {st ak k a f was is : Int} {done : Bool} {X : World} (h : PM p b n D st ak k a f was is done X) (hp : q ≠ p) (hb : q ≠ b) (i : Nat) (v : Value) : PM p b n D st ak k a f was is done (X.setCell ⟨q, i, none⟩ v) :=
  h.keep3 (Below.heap_setCell X ⟨q, i, none⟩ v p (Ne.symm hp)) (Below.heap_setCell X ⟨q, i, none⟩ v b (Ne.symm hb))

section
variable {t : TypeId} {p b q n : Nat} {nx h to : Int} {D : DataW Unit} {st ak k a f was is : Int} {done : Bool} {w w' : World}
set_option maxRecDepth 100000 in
set_option maxHeartbeats 2000000 in
theorem read_any (ht : t ≠ 90) (hs0 : 0 ≤ st) (hs1 : st < 4611686018427387904) (o : OpAt t q nx h to w) (m : PM p b n D st ak k a f was is done w) :
    Calls Tryd.prog 67 #[.pointer (some ⟨q, 0, none⟩), .pointer (some ⟨p, 0, none⟩)] w fun e w' =>
      e = .returned (.int .i64 2) ∧ OpAt t q nx (valD D adF) to w' ∧ PM p b n D (st + 1) 1 0 0 0 (valD D adF) (valD D adF) false w' ∧ Only3 p b q w w' := by
  have hload := load_prog p b n D st ak k a f was is done adF hs0 hs1 w m
  simp only [Ad.v, addrV, adF] at hload
  have HO := Lib.hid o
  have HM := Lib.hid m
  have hqp := o.ne_p m ht
  have hqb := o.ne_b m
  clear o m
  go_enter Tryd.func67, Tryd.ntmps67
  go_wp2_with fail
  ((with_reducible refine hload.mono ?_); rintro e w1 ⟨rfl, m1, ho1⟩)
  clear hload
  have HM1 := Lib.hid m1
  have HO1 := Lib.hid (HO.out.only HM.out ht ho1)
  have HT1 := Lib.hid ho1
  have c1 := HO1.out.cell 1
  have z1 := HO1.out.free 1
  simp only [List.getElem?_cons_zero, List.getElem?_cons_succ] at c1
  clear m1 ho1
  go_wp2
  go_ret
  exact ⟨rfl, HO1.out.set1 _, HM1.out.setQ hqp hqb _ _, (Only3.of_only HT1.out).trans (Only3.setCell _ _ _ _ _ _)⟩

set_option maxRecDepth 100000 in
set_option maxHeartbeats 2000000 in
theorem start_any (hs0 : 0 ≤ st) (hs1 : st < 4611686018427387904) (hL : Lay w) (hb0 : 1 < b) (hp0 : 1 < p) (hq0 : 1 < q) (o : OpAt 170 q nx h to w) (m : PM p b n D st ak k a f was is done w) :
    Calls Tryd.prog 100 #[.pointer (some ⟨q, 0, none⟩), .pointer (some ⟨p, 0, none⟩)] w fun e w' =>
      e = .returned (.int .i64 (if wSlot (valD D adF) < 0 then 0 else 2)) ∧ OpAt 170 q nx (valD D adF) to w' ∧ PM p b n D (st + 1) 1 0 0 0 (valD D adF) (valD D adF) false w' ∧ Only3 p b q w w' := by
  have hread := read_any (by decide) hs0 hs1 o m
  have hu := m.val_u64 adF
  have HL := Lib.hid hL
  clear o m hL
  go_enter Tryd.func100, Tryd.ntmps100
  go_wp2_with fail
  ((with_reducible refine hread.mono ?_); rintro e w1 ⟨rfl, o1, m1, h1⟩)
  have hL1 : Lay w1 := HL.out.same3 h1.size (h1.block 1 HL.out.1 (by omega) (by omega) (by omega))
  have hfirst := first_any hL1 hu o1
  have HO1 := Lib.hid o1
  have HM1 := Lib.hid m1
  have HT1 := Lib.hid h1
  clear hread o1 m1 h1 hL1 HL
  go_wp2_with fail
  ((with_reducible refine hfirst.mono ?_); rintro e w2 ⟨rfl, j, rfl⟩)
  clear hfirst
  have HB := Lib.hid (show Below w1.heap.size w1 (w1.drewN j) from below_drewN' (Below.refl _ _) j)
  by_cases hs : wSlot (valD D adF) < 0
  · go_wp2
    go_ret
    exact ⟨rfl, HO1.out.below HB.out, HM1.out.below HB.out, HT1.out.trans (Only3.drewN _ _ _ _ _)⟩
  · have hs' : 0 ≤ wSlot (valD D adF) := by omega
    go_wp2
    go_ret
    exact ⟨rfl, HO1.out.below HB.out, HM1.out.below HB.out, HT1.out.trans (Only3.drewN _ _ _ _ _)⟩

set_option maxRecDepth 100000 in
set_option maxHeartbeats 2000000 in
theorem look_any (hs0 : 0 ≤ st) (hs1 : st < 4611686018427387904) (hL : Lay w) (hb0 : 1 < b) (hp0 : 1 < p) (hq0 : 1 < q) (hh : U64 h) (o : OpAt 170 q nx h to w) (m : PM p b n D st ak k a f was is done w) :
    Calls Tryd.prog 101 #[.pointer (some ⟨q, 0, none⟩), .pointer (some ⟨p, 0, none⟩)] w fun e w' =>
      e = .returned (.int .i64 3) ∧ OpAt 170 q nx h (wSlot (valD D (adL (wSlot h) (i64w_slot h)))) w' ∧ PM p b n D (st + 1) 1 9 (wSlot h) 2 (valD D (adL (wSlot h) (i64w_slot h))) (valD D (adL (wSlot h) (i64w_slot h))) false w' ∧ Only3 p b q w w' := by
  have hfirst := first_any hL hh o
  have HO := Lib.hid o
  have HM := Lib.hid m
  have HL := Lib.hid hL
  clear o m hL
  go_enter Tryd.func101, Tryd.ntmps101
  go_wp2_with fail
  ((with_reducible refine hfirst.mono ?_); rintro e w1 ⟨rfl, j, rfl⟩)
  clear hfirst
  go_wp2_with fail
  ((with_reducible refine (link_any _ _).mono ?_); rintro e w2 ⟨rfl, hb⟩)
  have hbb := (below_drewN' (Below.refl w.heap.size w) j).trans hb
  have o2 := HO.out.below hbb
  have m2 := HM.out.below hbb
  have hload := load_prog p b n D st ak k a f was is done (adL (wSlot h) (i64w_slot h)) hs0 hs1 w2 m2
  simp only [Ad.v, addrV, adL] at hload
  have HO2 := Lib.hid o2
  have HM2 := Lib.hid m2
  have HB2 := Lib.hid hbb
  clear hb hbb o2 m2
  go_wp2_with fail
  ((with_reducible refine hload.mono ?_); rintro e w3 ⟨rfl, m3, ho3⟩)
  have o3 := HO2.out.only HM2.out (by decide) ho3
  have h3 : Only3 p b q w w3 := (Only3.of_below HB2.out).trans (.of_only ho3)
  have hL3 : Lay w3 := HL.out.same3 h3.size (h3.block 1 HL.out.1 (by omega) (by omega) (by omega))
  have hhd := asHead_any _ w3 hL3 (HM.out.val_u64 (adL (wSlot h) (i64w_slot h)))
  simp only [adL] at hhd
  have HO3 := Lib.hid o3
  have HM3 := Lib.hid m3
  have HT3 := Lib.hid h3
  have hqp := HO.out.ne_p HM.out (by decide)
  have hqb := HO.out.ne_b HM.out
  clear o3 m3 h3 ho3 hL3 hload HL HO2 HM2 HB2
  go_wp2_with fail
  ((with_reducible refine hhd.mono ?_); rintro e w4 ⟨rfl, i, rfl⟩)
  clear hhd
  have HB := Lib.hid (show Below w3.heap.size w3 (w3.drewN i) from below_drewN' (Below.refl _ _) i)
  have HO4 := Lib.hid (HO3.out.below HB.out)
  have HM4 := Lib.hid (HM3.out.below HB.out)
  have c2 := HO3.out.cell 2
  have z2 := HO3.out.free 2
  simp only [List.getElem?_cons_zero, List.getElem?_cons_succ] at c2
  go_wp2
  go_ret
  exact ⟨rfl, HO4.out.set2 _, HM4.out.setQ hqp hqb _ _, (HT3.out.trans (Only3.drewN _ _ _ _ _)).trans (Only3.setCell _ _ _ _ _ _)⟩
end
end Go.Proofs.YtlcbinckbkdgdaaDoor
