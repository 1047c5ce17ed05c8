/-
  The chapter's examples, walked; condition: what the package does.
-/
import Derived.Test.YthcclgnadhcndaaRS1
namespace Go.Proofs.Ythcclgnadhcndaa
open Go.RowKit Go.Maps

theorem SeeE.of_bq {w : World} {g : Nat} {xs : List EP} (k : Bq g 34 (flatE xs) w) (hl : xs.length < 100000) : SeeE w (.slice (some ⟨g, 0, none⟩) xs.length xs.length) xs :=
  .inr ⟨g, 0, xs.length, rfl, Nat.le_refl _, by omega, fun j u hu => by rw [Nat.zero_add]; exact (k.cell j).trans hu⟩
theorem BoolV.of_bq {w : World} {g : Nat} {bs : List Bool} (k : Bq g 4 (bls bs) w) (hl : bs.length < 100000) : BoolV w (.slice (some ⟨g, 0, none⟩) bs.length bs.length) bs :=
  .inl (.inr ⟨g, 0, bs.length, rfl, Nat.le_refl _, by omega, fun j u hu => by rw [Nat.zero_add]; exact (k.cell j).trans hu⟩)
section
variable {W w w' : World} {q : Nat} {fp fp' : List Nat} {l l' xs ys : List EP} {v : Value} {bs : List Bool}
/-- An entry is added, its numbers written out. -/
theorem SR.add1 (h : SR W q fp l w) (hl : l.length < 1000) {s g N : Int} (hk : RP.ok ⟨s, g, false⟩) (hN : addN l ⟨s, g, false, 0, 0, 0⟩ = N) (hE : addE l ⟨s, g, false, 0, 0, 0⟩ = l') : Calls Try.prog 13 #[.pointer (some ⟨q, 0, none⟩), .agg #[.int .i64 s, .int .u32 g, .bool false, .int .u64 0, .int .u64 0, .int .u64 0]] w fun e w' => e = .returned (.int .i64 N) ∧ ∃ fp', SR W q fp' l' w' ∧ (∀ x ∈ fp', x ∈ fp ∨ w.heap.size ≤ x) ∧ Kp fp w w' := by
  subst hN hE
  exact h.add hl s g 0 0 0 false hk
/-- A sweep by a row made for the call. -/
theorem SR.sweep1 (h : SR W q fp l w) (hl : l.length < 1000) {n k : Nat} {o : List EP} (hk : bs.length = k) (hb : bs.length < 100000) {cs : Array Value} (hcs : (bls bs).toArray = cs) (hO : outE l (fB bs) l.length = o) (hn : o.length = n) (hE : leftE l (fB bs) l.length = l') : Calls Try.prog 9 #[.pointer (some ⟨q, 0, none⟩), .slice (some ⟨w.heap.size, 0, none⟩) k k] (w.alloc (.cells cs 4)) fun e w' => ∃ A c fp', e = .returned (.slice A n c) ∧ RowR W fp' (.slice A n c) o w' ∧ SR W q fp' l' w' := by
  subst hk hcs hO hn hE
  have hA : Below w.heap.size w (w.alloc (.cells (bls bs).toArray 4)) := (Below.refl _ _).alloc (Nat.le_refl _) _
  refine ((h.below hA).sweep hl (.of_bq (Bq.new w (bls bs) _) hb)).mono ?_
  rintro e w' ⟨A, c, fp', rfl, h1, h2, _⟩
  exact ⟨A, c, fp', rfl, h1, h2⟩
/-- A row made for the call is compared. -/
theorem same_row {A : Option Addr} {c n : Nat} {cs : Array Value} (h : SeeE w (.slice A n c) xs) (hn : ys.length = n) (hl : n < 100000) (hcs : (flatE ys).toArray = cs) (he : xs = ys) :
    Calls Try.prog 10 #[.slice A n c, .slice (some ⟨w.heap.size, 0, none⟩) n n] (w.alloc (.cells cs 34)) fun e w' => e = .returned (.bool true) ∧ Below w.heap.size w w' := by
  subst hcs hn he
  have hB := (Below.refl _ w).alloc (Nat.le_refl _) (.cells (flatE xs).toArray 34)
  refine (same_any (h.below hB) (SeeE.of_bq (Bq.new w (flatE xs) _) hl) hl).mono ?_
  rintro e w' ⟨rfl, h1⟩
  exact ⟨by rw [decide_eq_true rfl], hB.trans (h1.mono hB.size)⟩
end
def e1 : EP := ⟨1, 4, false, 0, 0, 0⟩
def e2 : EP := ⟨2, 4, false, 0, 0, 0⟩
def e3 : EP := ⟨3, 4, false, 0, 0, 0⟩
def e4 : EP := ⟨2, 5, false, 0, 0, 0⟩
set_option maxRecDepth 100000 in
set_option maxHeartbeats 8000000 in
theorem lives_any (W : World) : Calls Try.prog 7 #[] W fun e w' => e = .returned (.bool true) ∧ Below W.heap.size W w' := by
  go_enter Try.func7, Try.ntmps7
  go_wp2_with fail
  ((with_reducible refine (SR.new (Below.refl W.heap.size W)).mono ?_); rintro e w1 ⟨q, fp1, rfl, h1, _⟩)
  have HS1 := Lib.hid h1
  clear h1
  go_wp2_with fail
  ((with_reducible refine (of_any 1 _).mono ?_); rintro e w2 ⟨rfl, hb2⟩)
  have HS2 := Lib.hid (HS1.out.below hb2)
  clear HS1 hb2
  go_wp2_with fail
  ((with_reducible refine (HS2.out.add1 (s := 1) (g := 4) (N := 0) (l' := [e1]) (by decide) (rp_ok (by decide) (by unfold U32; decide)) (by decide) (by decide)).mono ?_); rintro e w3 ⟨rfl, fp3, h3, _⟩)
  have HS3 := Lib.hid h3
  clear HS2 h3
  go_wp2_with fail
  ((with_reducible refine (of_any 2 _).mono ?_); rintro e w4 ⟨rfl, hb4⟩)
  have HS4 := Lib.hid (HS3.out.below hb4)
  clear HS3 hb4
  go_wp2_with fail
  ((with_reducible refine (HS4.out.add1 (s := 2) (g := 4) (N := 0) (l' := [e1, e2]) (by decide) (rp_ok (by decide) (by unfold U32; decide)) (by decide) (by decide)).mono ?_); rintro e w5 ⟨rfl, fp5, h5, _⟩)
  have HS5 := Lib.hid h5
  clear HS4 h5
  go_wp2_with fail
  ((with_reducible refine (of_any 3 _).mono ?_); rintro e w6 ⟨rfl, hb6⟩)
  have HS6 := Lib.hid (HS5.out.below hb6)
  clear HS5 hb6
  go_wp2_with fail
  ((with_reducible refine (HS6.out.add1 (s := 3) (g := 4) (N := 0) (l' := [e1, e2, e3]) (by decide) (rp_ok (by decide) (by unfold U32; decide)) (by decide) (by decide)).mono ?_); rintro e w7 ⟨rfl, fp7, h7, _⟩)
  have HS7 := Lib.hid h7
  clear HS6 h7
  go_wp2_with fail
  ((with_reducible refine (HS7.out.sweep1 (n := 2) (k := 4) (cs := #[.bool true, .bool false, .bool true, .bool true]) (bs := [true, false, true, true]) (o := [e1, e3]) (l' := [e2]) (by decide) rfl (by decide) rfl (by decide) rfl (by decide)).mono ?_); rintro e w8 ⟨A8, c8, fp8, rfl, hr8, h8⟩)
  have HS8 := Lib.hid h8
  have HR8 := Lib.hid hr8
  clear HS7 h8 hr8
  go_upto_region 7 with (fail)
  obtain ⟨x9, hx9⟩ : ∃ X, X = w8.alloc (.cells #[.int .i64 2, .int .u32 5, .bool false, .int .u64 0, .int .u64 0, .int .u64 0] 34) := ⟨_, rfl⟩
  rw [← hx9]
  have hA9 : Below w8.heap.size w8 x9 := hx9 ▸ (Below.refl _ _).alloc (Nat.le_refl _) _
  have HQ9 := Lib.hid (show Bq w8.heap.size 34 e4.cells x9 from hx9 ▸ Bq.new w8 e4.cells _)
  have HS9 := Lib.hid (HS8.out.below hA9)
  have HR9 := Lib.hid (HR8.out.below hA9)
  have HAP := Lib.hid (show w8.heap.size ∉ fp8 from fun h => Nat.lt_irrefl _ (HS8.out.p.lt _ h))
  generalize w8.heap.size = g9 at *
  clear HS8 HR8 hA9 hx9
  go_wp2_with fail
  ((with_reducible refine (of_any 1 _).mono ?_); rintro e w10 ⟨rfl, hb⟩)
  have HS10 := Lib.hid (HS9.out.below hb)
  have HR10 := Lib.hid (HR9.out.below hb)
  have HQ10 := Lib.hid (HQ9.out.below hb)
  clear HS9 HR9 HQ9 hb
  go_wp2_with fail
  ((with_reducible refine (of_any 3 _).mono ?_); rintro e w11 ⟨rfl, hb⟩)
  have HS11 := Lib.hid (HS10.out.below hb)
  have HR11 := Lib.hid (HR10.out.below hb)
  have HQ11 := Lib.hid (HQ10.out.below hb)
  clear HS10 HR10 HQ10 hb
  go_wp2_with fail
  ((with_reducible refine (same_row (n := 2) (cs := #[.int .i64 1, .int .u32 4, .bool false, .int .u64 0, .int .u64 0, .int .u64 0, .int .i64 3, .int .u32 4, .bool false, .int .u64 0, .int .u64 0, .int .u64 0]) (ys := [e1, e3]) HR11.out.own.see rfl (by decide) rfl rfl).mono ?_); rintro e w12 ⟨rfl, hb⟩)
  have HS12 := Lib.hid (HS11.out.below hb)
  have HQ12 := Lib.hid (HQ11.out.below hb)
  clear HS11 HR11 HQ11 hb
  go_wp2_with fail
  ((with_reducible refine (HS12.out.all (by decide)).mono ?_); rintro e w13 ⟨A13, c13, rfl, hr, hs, hb, _⟩)
  have HS13 := Lib.hid hs
  have HR13 := Lib.hid hr
  have HQ13 := Lib.hid (HQ12.out.below hb)
  clear HS12 HQ12 hb hs hr
  go_wp2_with fail
  ((with_reducible refine (of_any 2 _).mono ?_); rintro e w14 ⟨rfl, hb⟩)
  have HS14 := Lib.hid (HS13.out.below hb)
  have HR14 := Lib.hid (HR13.out.below hb)
  have HQ14 := Lib.hid (HQ13.out.below hb)
  clear HS13 HR13 HQ13 hb
  go_wp2_with fail
  ((with_reducible refine (same_row (n := 1) (cs := #[.int .i64 2, .int .u32 4, .bool false, .int .u64 0, .int .u64 0, .int .u64 0]) (ys := [e2]) HR14.out.own.see rfl (by decide) rfl rfl).mono ?_); rintro e w15 ⟨rfl, hb⟩)
  have HS15 := Lib.hid (HS14.out.below hb)
  have HQ15 := Lib.hid (HQ14.out.below hb)
  clear HS14 HR14 HQ14 hb
  go_wp2_with fail
  ((with_reducible refine (of_any 2 _).mono ?_); rintro e w16 ⟨rfl, hb⟩)
  have HS16 := Lib.hid (HS15.out.below hb)
  have HQ16 := Lib.hid (HQ15.out.below hb)
  clear HS15 HQ15 hb
  go_wp2_with fail
  ((with_reducible refine (HS16.out.add1 (s := 2) (g := 4) (N := 8) (l' := [e2]) (by decide) (rp_ok (by decide) (by unfold U32; decide)) (by decide) (by decide)).mono ?_); rintro e w17 ⟨rfl, fp17, h17, hf17, k17⟩)
  have HS17 := Lib.hid h17
  have HQ17 := Lib.hid (HQ16.out.same (k17.block _ HQ16.out.lt HAP.out))
  have x0 := HQ17.out.cell 0
  have x1 := HQ17.out.cell 1
  have x2 := HQ17.out.cell 2
  have x3 := HQ17.out.cell 3
  have x4 := HQ17.out.cell 4
  have x5 := HQ17.out.cell 5
  simp only [EP.cells, e4, List.getElem?_cons_zero, List.getElem?_cons_succ] at x0 x1 x2 x3 x4 x5
  clear HS16 HQ16 HQ17 h17 hf17 k17 HAP
  go_wp2_with fail
  ((with_reducible refine (HS17.out.add1 (s := 2) (g := 5) (N := 0) (l' := [e2, e4]) (by decide) (rp_ok (by decide) (by unfold U32; decide)) (by decide) (by decide)).mono ?_); rintro e w18 ⟨rfl, fp18, h18, _⟩)
  have HL := Lib.hid h18.low
  clear HS17 h18 x0 x1 x2 x3 x4 x5
  go_wp2_with fail
  go_ret
  exact ⟨rfl, HL.out⟩
end Go.Proofs.Ythcclgnadhcndaa
