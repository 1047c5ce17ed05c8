/-
  Package frees: the lines of a Push that hangs the list behind its slot, and of both that swap the head; condition: the tables as laid, the operation and the memory lie as they say, numbers of their kinds.
-/
import Derived.Test.YtlcbinckbkdgdaaDoorF2
namespace Go.Proofs.YtlcbinckbkdgdaaDoor
open Go.RowKit Go.Maps

section
variable {t : TypeId} {p b q n : Nat} {nx h to : Int} {D : DataW Unit} {st ak k a f was is : Int} {done : Bool} {w w' : World}
theorem below_drew_n (w : World) (n : Nat) : Below w.drew.heap.size w.drew (w.drewN n) := ⟨rfl, rfl, rfl, Nat.le_refl _, fun _ _ => rfl⟩
theorem u64_0 : U64 0 := ⟨by decide, by decide⟩
/-- What a drawn region reads of an operation. -/
def OpS (q : Nat) (nx h to : Int) (W : World) : Prop := W.cell? ⟨q, 0, none⟩ = some (.int .i64 nx) ∧ W.cell? ⟨q, 1, none⟩ = some (.int .u64 h) ∧ W.cell? ⟨q, 2, none⟩ = some (.int .i64 to)
theorem OpAt.s (o : OpAt t q nx h to w) : OpS q nx h to w := ⟨by simpa using o.cell 0, by simpa using o.cell 1, by simpa using o.cell 2⟩

theorem store9 (hto : I64w to) {v : Int} (hv : (Lit.int .u64 v).wf = true) (hs0 : 0 ≤ st) (hs1 : st < 4611686018427387904) (hn : n < 4611686018427387904) (hl : LayM w) (m : PM p b n D st ak k a f was is done w) :
    Calls Tryd.prog 28 #[.pointer (some ⟨p, 0, none⟩), .agg #[.int .u8 9, .int .i64 to, .int .i64 2], .int .u64 v] w fun e w' => e = .returned (.tuple #[]) ∧ PM p b (n + 1) (storeD D (adL to hto) v) (st + 1) 2 9 to 2 (valD D (adL to hto)) (valD (storeD D (adL to hto) v) (adL to hto)) false w' ∧ Only p b w w' :=
  store_prog p b n D st ak k a f was is done (adL to hto) v hv hs0 hs1 hn w hl m
set_option maxRecDepth 100000 in
set_option maxHeartbeats 4000000 in
theorem hang_any (hs0 : 0 ≤ st) (hs1 : st < 4611686018427387904) (hn : n < 4611686018427387904) (hL : Lay w) (hM : LayM w) (_ : 1 < b) (_ : 1 < p) (hh : U64 h) (hto : I64w to) (o : OpAt 157 q nx h to w) (m : PM p b n D st ak k a f was is done w) :
    Calls Tryd.prog 68 #[.pointer (some ⟨q, 0, none⟩), .pointer (some ⟨p, 0, none⟩)] w fun e w' =>
      e = .returned (.int .i64 3) ∧ OpAt 157 q nx h to w' ∧ PM p b (n + 1) (storeD D (adL to hto) (headW (wSlot h) 0)) (st + 1) 2 9 to 2 (valD D (adL to hto)) (valD (storeD D (adL to hto) (headW (wSlot h) 0)) (adL to hto)) false w' ∧ Only3 p b q w w' := by
  have HO := Lib.hid (o.below (Below.refl _ w).drew)
  have HM := Lib.hid (m.below (Below.refl _ w).drew)
  have HL := Lib.hid (hL.below (Below.refl _ w).drew)
  have HLM := Lib.hid (hM.below (Below.refl _ w).drew)
  have HT := Lib.hid (Only3.of_below (p := p) (b := b) (q := q) (Below.refl _ w).drew)
  have hs := Lib.hid (o.below (Below.refl _ w).drew).s
  have hu := u64w (head_u64 (wSlot h) 0)
  have HU := Lib.hid hu
  clear o m hL hM hu
  go_enter Tryd.func68, Tryd.ntmps68
  go_wp2_with fail
  go_region_held3 (fun w1 => w1.cell? ⟨q, 0, none⟩ = some (.int .i64 nx) ∧ w1.cell? ⟨q, 1, none⟩ = some (.int .u64 h) ∧ w1.cell? ⟨q, 2, none⟩ = some (.int .i64 to))
    (first | exact hs.out | exact hS1.out | exact hS2.out | exact hS3.out | exact hS4.out)
    (first
      | (go_at_call 75; with_reducible refine (link_any to _).mono ?_; rintro e wA ⟨rfl, hA⟩; have HOA := Lib.hid (HO.out.below hA); have hS1 := Lib.hid HOA.out.s; have HA := Lib.hid hA; clear hA)
      | (go_at_call 64; with_reducible refine (first_any (HL.out.below HA.out) hh HOA.out).mono ?_; rintro e wB ⟨rfl, j, rfl⟩; have HJ := Lib.hid (show Below w.drew.heap.size w.drew (wA.drewN j) from HA.out.trans ((below_drewN' (Below.refl _ _) j).mono HA.out.size)); have hS2 := Lib.hid (HO.out.below HJ.out).s)
      | (go_at_call 76; with_reducible refine (head_any (wSlot h) 0 (wA.drewN j) (HL.out.below HJ.out) u64_0).mono ?_; rintro e wC ⟨rfl, i, rfl⟩; have HI := Lib.hid (show Below w.drew.heap.size w.drew (wA.drewN (j + i)) from HA.out.trans ((below_drewN' (Below.refl _ _) (j + i)).mono HA.out.size)); have hS3 := Lib.hid (HO.out.below HI.out).s)
      | (go_at_call 28; with_reducible refine (store9 hto HU.out hs0 hs1 hn (HLM.out.below HI.out) (HM.out.below HI.out)).mono ?_; rintro e wD ⟨rfl, m4, h4⟩; have HO4 := Lib.hid ((HO.out.below HI.out).only (HM.out.below HI.out) (by decide) h4); have hS4 := Lib.hid HO4.out.s; have HM4 := Lib.hid m4; have HT4 := Lib.hid (HT.out.trans ((Only3.of_below HI.out).trans (.of_only h4))); clear m4 h4))
  go_wp2
  go_ret
  exact ⟨rfl, HO4.out, HM4.out, HT4.out⟩

theorem cas0 {u v : Int} {c : Bool} (hc : casB D adF u = c) (hv : (Lit.int .u64 v).wf = true) (hs0 : 0 ≤ st) (hs1 : st < 4611686018427387904) (hn : n < 4611686018427387904) (hl : LayM w) (m : PM p b n D st ak k a f was is done w) :
    Calls Tryd.prog 39 #[.pointer (some ⟨p, 0, none⟩), .agg #[.int .u8 0, .int .i64 0, .int .i64 0], .int .u64 u, .int .u64 v] w fun e w' => e = .returned (.bool c) ∧ PM p b (n + 1) (casD D adF u v) (st + 1) 3 0 0 0 (valD D adF) (valD (casD D adF u v) adF) c w' ∧ Only p b w w' := by
  subst hc
  exact cas_prog p b n D st ak k a f was is done adF u v hv hs0 hs1 hn w hl m
theorem tag_wrap (h : Int) : IntKind.u64.wrap (fld h 16 48 + 1) = fld h 16 48 + 1 := by
  have h1 := fld_nonneg h 16 48
  have h2 := fld_lt h 16 48
  rw [p48] at h2
  rw [IntKind.wrap_u64]
  omega
theorem tag_u64 (h : Int) : U64 (fld h 16 48 + 1) := by
  have h1 := fld_nonneg h 16 48
  have h2 := fld_lt h 16 48
  rw [p48] at h2
  exact ⟨by omega, by omega⟩
/-- What both swap the head h to, for slot s. -/
def nextW (h s : Int) : Int := headW s (fld h 16 48 + 1)
set_option maxRecDepth 100000 in
set_option maxHeartbeats 4000000 in
theorem swap_yes (hc : casB D adF h = true) (ht : t ≠ 90) (hs0 : 0 ≤ st) (hs1 : st < 4611686018427387904) (hn : n < 4611686018427387904) (hL : Lay w) (hM : LayM w) (hh : U64 h) (o : OpAt t q nx h to w) (m : PM p b n D st ak k a f was is done w) :
    Calls Tryd.prog 69 #[.pointer (some ⟨q, 0, none⟩), .pointer (some ⟨p, 0, none⟩)] w fun e w' =>
      e = .returned (.int .i64 0) ∧ OpAt t q nx h to w' ∧ PM p b (n + 1) (casD D adF h (nextW h to)) (st + 1) 3 0 0 0 (valD D adF) (valD (casD D adF h (nextW h to)) adF) true w' ∧ Only3 p b q w w' := by
  have hhd := asHead_any h w hL hh
  have HC := Lib.hid hc
  clear hc
  have HO := Lib.hid o
  have HM := Lib.hid m
  have HL := Lib.hid hL
  have HLM := Lib.hid hM
  have HU := Lib.hid (u64w (head_u64 to (fld h 16 48 + 1)))
  have c1 := o.cell 1
  simp only [List.getElem?_cons_zero, List.getElem?_cons_succ] at c1
  clear o m hL hM
  have hz := tag_wrap h
  go_enter Tryd.func69, Tryd.ntmps69
  go_wp2_with fail
  ((with_reducible refine hhd.mono ?_); rintro e w1 ⟨rfl, j, rfl⟩)
  have HB0 := Lib.hid (show Below w.heap.size w (w.drewN j) from below_drewN' (Below.refl _ _) j)
  clear hhd c1
  revert HB0
  generalize w.drewN j = wr
  intro HB0
  have HB := Lib.hid (show Below w.heap.size w wr.drew from HB0.out.drew)
  have HO1 := Lib.hid (HO.out.below HB.out)
  have HM1 := Lib.hid (HM.out.below HB.out)
  have HL1 := Lib.hid (HL.out.below HB.out)
  have HLM1 := Lib.hid (HLM.out.below HB.out)
  have HT1 := Lib.hid (Only3.of_below (p := p) (b := b) (q := q) HB.out)
  have hs := Lib.hid HO1.out.s
  go_wp2_with fail
  go_region_held3 (fun w1 => w1.cell? ⟨q, 0, none⟩ = some (.int .i64 nx) ∧ w1.cell? ⟨q, 1, none⟩ = some (.int .u64 h) ∧ w1.cell? ⟨q, 2, none⟩ = some (.int .i64 to))
    (first | exact hs.out | exact hS1.out | exact hS2.out)
    (first
      | (go_at_call 76; with_reducible refine (head_any to (fld h 16 48 + 1) _ HL1.out (tag_u64 h)).mono ?_; rintro e wA ⟨rfl, i, rfl⟩; have HI := Lib.hid (below_drew_n wr (1 + i)); have HOA := Lib.hid (HO1.out.below HI.out); have hS1 := Lib.hid HOA.out.s)
      | (go_at_call 39; with_reducible refine (cas0 HC.out HU.out hs0 hs1 hn (HLM1.out.below HI.out) (HM1.out.below HI.out)).mono ?_; rintro e wD ⟨rfl, m4, h4⟩; have HO4 := Lib.hid (HOA.out.only (HM1.out.below HI.out) ht h4); have hS2 := Lib.hid HO4.out.s; have HM4 := Lib.hid m4; have HT4 := Lib.hid (HT1.out.trans ((Only3.of_below HI.out).trans (.of_only h4))); clear m4 h4))
  clear hz HO HM HL HLM HU hs HB HB0 HO1 HM1 HL1 HLM1 HT1 HOA hS1 hS2 HI
  go_wp2
  go_ret
  exact ⟨rfl, HO4.out, HM4.out, HT4.out⟩
set_option maxRecDepth 100000 in
set_option maxHeartbeats 4000000 in
theorem swap_no (hc : casB D adF h = false) (ht : t ≠ 90) (hs0 : 0 ≤ st) (hs1 : st < 4611686018427387904) (hn : n < 4611686018427387904) (hL : Lay w) (hM : LayM w) (hh : U64 h) (o : OpAt t q nx h to w) (m : PM p b n D st ak k a f was is done w) :
    Calls Tryd.prog 69 #[.pointer (some ⟨q, 0, none⟩), .pointer (some ⟨p, 0, none⟩)] w fun e w' =>
      e = .returned (.int .i64 1) ∧ OpAt t q nx h to w' ∧ PM p b (n + 1) (casD D adF h (nextW h to)) (st + 1) 3 0 0 0 (valD D adF) (valD (casD D adF h (nextW h to)) adF) false w' ∧ Only3 p b q w w' := by
  have hhd := asHead_any h w hL hh
  have HC := Lib.hid hc
  clear hc
  have HO := Lib.hid o
  have HM := Lib.hid m
  have HL := Lib.hid hL
  have HLM := Lib.hid hM
  have HU := Lib.hid (u64w (head_u64 to (fld h 16 48 + 1)))
  have c1 := o.cell 1
  simp only [List.getElem?_cons_zero, List.getElem?_cons_succ] at c1
  clear o m hL hM
  have hz := tag_wrap h
  go_enter Tryd.func69, Tryd.ntmps69
  go_wp2_with fail
  ((with_reducible refine hhd.mono ?_); rintro e w1 ⟨rfl, j, rfl⟩)
  have HB0 := Lib.hid (show Below w.heap.size w (w.drewN j) from below_drewN' (Below.refl _ _) j)
  clear hhd c1
  revert HB0
  generalize w.drewN j = wr
  intro HB0
  have HB := Lib.hid (show Below w.heap.size w wr.drew from HB0.out.drew)
  have HO1 := Lib.hid (HO.out.below HB.out)
  have HM1 := Lib.hid (HM.out.below HB.out)
  have HL1 := Lib.hid (HL.out.below HB.out)
  have HLM1 := Lib.hid (HLM.out.below HB.out)
  have HT1 := Lib.hid (Only3.of_below (p := p) (b := b) (q := q) HB.out)
  have hs := Lib.hid HO1.out.s
  go_wp2_with fail
  go_region_held3 (fun w1 => w1.cell? ⟨q, 0, none⟩ = some (.int .i64 nx) ∧ w1.cell? ⟨q, 1, none⟩ = some (.int .u64 h) ∧ w1.cell? ⟨q, 2, none⟩ = some (.int .i64 to))
    (first | exact hs.out | exact hS1.out | exact hS2.out)
    (first
      | (go_at_call 76; with_reducible refine (head_any to (fld h 16 48 + 1) _ HL1.out (tag_u64 h)).mono ?_; rintro e wA ⟨rfl, i, rfl⟩; have HI := Lib.hid (below_drew_n wr (1 + i)); have HOA := Lib.hid (HO1.out.below HI.out); have hS1 := Lib.hid HOA.out.s)
      | (go_at_call 39; with_reducible refine (cas0 HC.out HU.out hs0 hs1 hn (HLM1.out.below HI.out) (HM1.out.below HI.out)).mono ?_; rintro e wD ⟨rfl, m4, h4⟩; have HO4 := Lib.hid (HOA.out.only (HM1.out.below HI.out) ht h4); have hS2 := Lib.hid HO4.out.s; have HM4 := Lib.hid m4; have HT4 := Lib.hid (HT1.out.trans ((Only3.of_below HI.out).trans (.of_only h4))); clear m4 h4))
  clear hz HO HM HL HLM HU hs HB HB0 HO1 HM1 HL1 HLM1 HT1 HOA hS1 hS2 HI
  go_wp2
  go_ret
  exact ⟨rfl, HO4.out, HM4.out, HT4.out⟩
theorem swap_any (ht : t ≠ 90) (hs0 : 0 ≤ st) (hs1 : st < 4611686018427387904) (hn : n < 4611686018427387904) (hL : Lay w) (hM : LayM w) (hh : U64 h) (o : OpAt t q nx h to w) (m : PM p b n D st ak k a f was is done w) :
    Calls Tryd.prog 69 #[.pointer (some ⟨q, 0, none⟩), .pointer (some ⟨p, 0, none⟩)] w fun e w' =>
      e = .returned (.int .i64 (if casB D adF h = true then 0 else 1)) ∧ OpAt t q nx h to w' ∧ PM p b (n + 1) (casD D adF h (nextW h to)) (st + 1) 3 0 0 0 (valD D adF) (valD (casD D adF h (nextW h to)) adF) (casB D adF h) w' ∧ Only3 p b q w w' := by
  by_cases hc : casB D adF h = true
  · rw [if_pos hc, hc]
    exact swap_yes hc ht hs0 hs1 hn hL hM hh o m
  · rw [if_neg hc]
    have hc' : casB D adF h = false := by simpa using hc
    rw [hc']
    exact swap_no hc' ht hs0 hs1 hn hL hM hh o m
end
end Go.Proofs.YtlcbinckbkdgdaaDoor
