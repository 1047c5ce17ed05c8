/-
  The chapter's example of layer 2, as the law runs it: it holds, and only makes memory of its own; condition: the table of rooms reads as the program lays it.
-/
import Derived.Test.YtfnlkapiflkceaaDoorP4
import Derived.Test.YtfnlkapiflkceaaDoorV1
namespace Go.Proofs.YtfnlkapiflkceaaDoor
open Go.RowKit Go.Maps

def era : Ad := ⟨2, 0, 0, by decide, by decide, by decide⟩
theorem wf_lit (n : Nat) (h : n < 1000) : (Lit.int .u64 (n : Int)).wf = true := by
  simp [Lit.wf, IntKind.min, IntKind.max, IntKind.signed, IntKind.bits]
  omega
/-- The words of the example. -/
def dA : DataW Unit := putD (.map []) era 5
def dB : DataW Unit := putD dA era 6
theorem dA_map : IsMap dA := isMap_putD isMap_empty era 5
theorem dA_val : valD dA era = 5 := valD_put_same _ isMap_empty era 5
theorem dB_val : valD dB era = 6 := valD_put_same _ dA_map era 6
theorem may_era : mayB era.k era.a era.f = true := by decide
theorem step1 : storeD (.map []) era 5 = dA := if_pos may_era
theorem cas1 : casB dA era 5 = true := by unfold casB; rw [may_era, dA_val]; rfl
theorem step2 : casD dA era 5 6 = dB := if_pos cas1
theorem cas2 : casB dB era 5 = false := by unfold casB; rw [may_era, dB_val]; rfl
theorem step3 : casD dB era 5 7 = dB := if_neg (by rw [cas2]; simp)
theorem dA_tidy : Tidy dA := by
  unfold dA putD
  rw [if_neg (by decide)]
  exact tidy_empty.put era.lit_key _
theorem dB_size : Maps.size dB = 1 := by
  unfold dB putD
  rw [if_neg (by decide), size_put dA_tidy]
  have h : has dA era.lit = true := by
    unfold dA
    rw [has_put_same' _ isMap_empty]
    decide
  rw [if_pos h]
  unfold dA putD
  rw [if_neg (by decide), size_put tidy_empty]
  rfl
theorem dB_words {ts : List Ad} (h : Addrs dB ts) : ts = [era] := by
  have hl : ts.length = 1 := by rw [h.2.2, dB_size]
  have hm : era ∈ ts := by
    rw [h.2.1]
    unfold dB
    rw [has_put_same' _ dA_map]
    decide
  obtain ⟨x, rfl⟩ := List.length_eq_one_iff.1 hl
  rw [List.mem_singleton.1 hm]

theorem cell_only {p b q i : Nat} {X Y : World} {v : Value} (h : Only p b X Y) (hc : X.cell? ⟨q, i, none⟩ = some v) (h1 : q ≠ p) (h2 : q ≠ b) : Y.cell? ⟨q, i, none⟩ = some v :=
  (World.cell?_of_block (a := ⟨q, i, none⟩) (h.block q (World.block_lt_of_cell? X _ hc) h1 h2)).trans hc
theorem Lay.only {p b : Nat} {X Y : World} (h : Lay X) (ho : Only p b X Y) (hp : p ≠ 0) (hb : b ≠ 0) : Lay Y := h.same ho.size (ho.block 0 h.1 (Ne.symm hp) (Ne.symm hb))

theorem wf5 : (Lit.int .u64 5).wf = true := by decide
theorem wf6 : (Lit.int .u64 6).wf = true := by decide
theorem wf7 : (Lit.int .u64 7).wf = true := by decide
theorem new_some (w : World) : Calls Tryd.prog 23 #[] w fun e w' => ∃ p b, e = .returned (.pointer (some ⟨p, 0, none⟩)) ∧ PM p b 0 (.map []) 0 0 0 0 0 0 0 false w' ∧ Below w.heap.size w w' ∧ w.heap.size ≤ b ∧ b < p := by
  refine (new_prog w).mono ?_
  rintro e w' ⟨rfl, hp, hb⟩
  exact ⟨_, _, rfl, hp, hb, Nat.le_refl _, by omega⟩
theorem store_era (p b : Nat) (w : World) (hl : Lay w) (h : PM p b 0 (.map []) 0 0 0 0 0 0 0 false w) :
    Calls Tryd.prog 19 #[.pointer (some ⟨p, 0, none⟩), .agg #[.int .u8 2, .int .i64 0, .int .i64 0], .int .u64 5] w fun e w' => e = .returned (.tuple #[]) ∧ PM p b 1 dA 1 2 2 0 0 0 5 false w' ∧ Only p b w w' := by
  have h1 := store_prog p b 0 (.map []) 0 0 0 0 0 0 0 false era 5 wf5 (by omega) (by omega) (by omega) w hl h
  rw [step1, dA_val, show valD (.map []) era = 0 from rfl] at h1
  exact h1
theorem cas_era (p b : Nat) (w : World) (hl : Lay w) (h : PM p b 1 dA 1 2 2 0 0 0 5 false w) :
    Calls Tryd.prog 14 #[.pointer (some ⟨p, 0, none⟩), .agg #[.int .u8 2, .int .i64 0, .int .i64 0], .int .u64 5, .int .u64 6] w fun e w' => e = .returned (.bool true) ∧ PM p b 2 dB 2 3 2 0 0 5 6 true w' ∧ Only p b w w' := by
  have h1 := cas_prog p b 1 dA 1 2 2 0 0 0 5 false era 5 6 wf6 (by omega) (by omega) (by omega) w hl h
  rw [step2, cas1, dA_val, dB_val] at h1
  exact h1
theorem cas_not (p b : Nat) (w : World) (hl : Lay w) (h : PM p b 2 dB 2 3 2 0 0 5 6 true w) :
    Calls Tryd.prog 14 #[.pointer (some ⟨p, 0, none⟩), .agg #[.int .u8 2, .int .i64 0, .int .i64 0], .int .u64 5, .int .u64 7] w fun e w' => e = .returned (.bool false) ∧ PM p b 3 dB 3 3 2 0 0 6 6 false w' ∧ Only p b w w' := by
  have h1 := cas_prog p b 2 dB 2 3 2 0 0 5 6 true era 5 7 wf7 (by omega) (by omega) (by omega) w hl h
  rw [step3, cas2, dB_val] at h1
  exact h1
theorem load_era (p b : Nat) (w : World) (h : PM p b 3 dB 3 3 2 0 0 6 6 false w) :
    Calls Tryd.prog 11 #[.pointer (some ⟨p, 0, none⟩), .agg #[.int .u8 2, .int .i64 0, .int .i64 0]] w fun e w' => e = .returned (.int .u64 6) ∧ PM p b 3 dB 4 1 2 0 0 6 6 false w' ∧ Only p b w w' := by
  have h1 := load_prog p b 3 dB 3 3 2 0 0 6 6 false era (by omega) (by omega) w h
  rw [dB_val] at h1
  exact h1
/-- What stands there then, told. -/
def EraPost (w : World) (e : Ending) (w' : World) : Prop :=
  ∃ g, e = .returned (.slice (some ⟨g, 0, none⟩) 1 1) ∧ w'.cell? ⟨g, 0, none⟩ = some (.int .u8 2) ∧ w'.cell? ⟨g, 1, none⟩ = some (.int .i64 0) ∧ w'.cell? ⟨g, 2, none⟩ = some (.int .i64 0) ∧ w'.cell? ⟨g, 3, none⟩ = some (.int .u64 6) ∧ Below w.heap.size w w'
theorem words_era (p b : Nat) (w : World) (h : PM p b 3 dB 4 1 2 0 0 6 6 false w) : Calls Tryd.prog 16 #[.pointer (some ⟨p, 0, none⟩)] w (EraPost w) := by
  refine (words_any p b _ dB (by rw [dB_size]; omega) (by rw [dB_size]; omega) _ _ w h.blk rfl h.own).mono ?_
  rintro e w7 ⟨g, ts, rfl, hts, hrow, hb7⟩
  obtain rfl := dB_words hts
  have hfl : flatW (wordsOf dB [era]) = [.int .u8 2, .int .i64 0, .int .i64 0, .int .u64 6] := by
    have : valOf dB era = 6 := dB_val
    show wordCells (era, valOf dB era) ++ [] = _
    rw [this]
    rfl
  rw [hfl] at hrow
  have r0 := hrow.cellAt 0 (by decide)
  have r1 := hrow.cellAt 1 (by decide)
  have r2 := hrow.cellAt 2 (by decide)
  have r3 := hrow.cellAt 3 (by decide)
  simp only [List.getElem?_cons_zero, List.getElem?_cons_succ] at r0 r1 r2 r3
  exact ⟨g, rfl, r0, r1, r2, r3, hb7⟩

theorem eqWord : ∀ w : World, (binOp .eql 43 (.agg #[.int .u8 2, .int .i64 0, .int .i64 0, .int .u64 6]) (.agg #[.int .u8 2, .int .i64 0, .int .i64 0, .int .u64 6])).run Tryd.prog w = .ok (.bool true) w := fun _ => by kernel_rfl
theorem PM.weak {p b n : Nat} {D : DataW Unit} {st ak k a f was is : Int} {done : Bool} {w : World} (h : PM p b n D st ak k a f was is done w) {n' : Nat} (hn : n ≤ n') : PM p b n' D st ak k a f was is done w := ⟨h.blk, h.own.mono hn⟩

set_option maxRecDepth 100000 in
set_option maxHeartbeats 4000000 in
theorem lives_any (w : World) (hl : Lay w) : Calls Tryd.prog 6 #[] w fun e w' => e = .returned (.bool true) ∧ Below w.heap.size w w' := by
  have h0w := hl.1
  have HL := Lib.hid hl
  clear hl
  have hcon := new_some w
  go_enter Tryd.func6, Tryd.ntmps6
  go_wp2_with fail
  refine hcon.mono ?_
  rintro e w1 ⟨p, b, rfl, hp1, hb1, hwb, hbp'⟩
  have hs1 : p < w1.heap.size := hp1.lt
  have hsw : w.heap.size ≤ w1.heap.size := hb1.size
  have HP := Lib.hid (hp1.below ((Below.refl _ w1).alloc (Nat.le_refl _) (.cells #[.int .u8 2, .int .i64 0, .int .i64 0] 31)))
  have HB := Lib.hid (show Below w.heap.size w (w1.alloc (.cells #[.int .u8 2, .int .i64 0, .int .i64 0] 31)) from hb1.trans (((Below.refl _ w1).alloc (Nat.le_refl _) _).mono hb1.size))
  have HL1 := Lib.hid (show Lay (w1.alloc (.cells #[.int .u8 2, .int .i64 0, .int .i64 0] 31)) from (HL.out.below hb1).alloc _)
  have e0 : (w1.alloc (.cells #[.int .u8 2, .int .i64 0, .int .i64 0] 31)).cell? ⟨w1.heap.size, 0, none⟩ = some (.int .u8 2) := by simp [go_sem]
  have e1 : (w1.alloc (.cells #[.int .u8 2, .int .i64 0, .int .i64 0] 31)).cell? ⟨w1.heap.size, 1, none⟩ = some (.int .i64 0) := by simp [go_sem]
  have e2 : (w1.alloc (.cells #[.int .u8 2, .int .i64 0, .int .i64 0] 31)).cell? ⟨w1.heap.size, 2, none⟩ = some (.int .i64 0) := by simp [go_sem]
  have hbp : b ≤ p := by omega
  clear hp1 hb1 hcon
  go_wp2_with fail
  revert HP HB HL1 e0 e1 e2
  generalize w1.alloc (.cells #[.int .u8 2, .int .i64 0, .int .i64 0] 31) = w2
  intro HP HB HL1 e0 e1 e2
  have hqp : w1.heap.size ≠ p := by omega
  have hqb : w1.heap.size ≠ b := by omega
  clear hs1
  generalize w1.heap.size = q at e0 e1 e2 hqp hqb hsw ⊢
  have hp0 : p ≠ 0 := by omega
  have hb0 : b ≠ 0 := by omega
  have hbw2 : w.heap.size ≤ w2.heap.size := Nat.le_trans hwb (Nat.le_of_lt HP.out.own.lt)
  ((with_reducible refine (store_era p b w2 HL1.out HP.out).mono ?_); rintro e w3 ⟨rfl, hp3, ho3⟩)
  have HP3 := Lib.hid hp3
  have HB3 := Lib.hid (HB.out.trans (ho3.below (Nat.le_trans hwb hbp) hwb hbw2))
  have HL3 := Lib.hid (HL1.out.only ho3 hp0 hb0)
  have f0 := cell_only ho3 e0 hqp hqb
  have f1 := cell_only ho3 e1 hqp hqb
  have f2 := cell_only ho3 e2 hqp hqb
  have hbw3 : w.heap.size ≤ w3.heap.size := Nat.le_trans hwb (Nat.le_of_lt hp3.own.lt)
  clear hp3 ho3 e0 e1 e2 HP HB HL1
  go_wp2_with fail
  ((with_reducible refine (cas_era p b w3 HL3.out HP3.out).mono ?_); rintro e w4 ⟨rfl, hp4, ho4⟩)
  have HP4 := Lib.hid hp4
  have HB4 := Lib.hid (HB3.out.trans (ho4.below (Nat.le_trans hwb hbp) hwb hbw3))
  have HL4 := Lib.hid (HL3.out.only ho4 hp0 hb0)
  have g0 := cell_only ho4 f0 hqp hqb
  have g1 := cell_only ho4 f1 hqp hqb
  have g2 := cell_only ho4 f2 hqp hqb
  have hbw4 : w.heap.size ≤ w4.heap.size := Nat.le_trans hwb (Nat.le_of_lt hp4.own.lt)
  clear hp4 ho4 f0 f1 f2 HP3 HB3 HL3
  go_wp2_with fail
  ((with_reducible refine (cas_not p b w4 HL4.out HP4.out).mono ?_); rintro e w5 ⟨rfl, hp5, ho5⟩)
  have HP5 := Lib.hid hp5
  have HB5 := Lib.hid (HB4.out.trans (ho5.below (Nat.le_trans hwb hbp) hwb hbw4))
  have k0 := cell_only ho5 g0 hqp hqb
  have k1 := cell_only ho5 g1 hqp hqb
  have k2 := cell_only ho5 g2 hqp hqb
  have hbw5 : w.heap.size ≤ w5.heap.size := Nat.le_trans hwb (Nat.le_of_lt hp5.own.lt)
  clear hp5 ho5 g0 g1 g2 HP4 HB4 HL4
  go_wp2_with fail
  ((with_reducible refine (load_era p b w5 HP5.out).mono ?_); rintro e w6 ⟨rfl, hp6, ho6⟩)
  have HP6 := Lib.hid hp6
  have HB6 := Lib.hid (HB5.out.trans (ho6.below (Nat.le_trans hwb hbp) hwb hbw5))
  have m0 := cell_only ho6 k0 hqp hqb
  have m1 := cell_only ho6 k1 hqp hqb
  have m2 := cell_only ho6 k2 hqp hqb
  have hbw6 : w.heap.size ≤ w6.heap.size := Nat.le_trans hwb (Nat.le_of_lt hp6.own.lt)
  have hql : q < w6.heap.size := World.block_lt_of_cell? w6 _ m0
  clear hp6 ho6 k0 k1 k2 HP5 HB5
  go_wp2_with fail
  ((with_reducible refine (words_era p b w6 HP6.out).mono ?_); rintro e w7 ⟨g, rfl, r0, r1, r2, r3, hb7⟩)
  have HP7 := Lib.hid (HP6.out.below hb7)
  have HB7 := Lib.hid (HB6.out.trans (hb7.mono hbw6))
  have n0 := (hb7.cell (p := ⟨q, 0, none⟩) hql).trans m0
  have n1 := (hb7.cell (p := ⟨q, 1, none⟩) hql).trans m1
  have n2 := (hb7.cell (p := ⟨q, 2, none⟩) hql).trans m2
  clear hb7 m0 m1 m2 HP6 HB6
  go_wp2_with fail
  refine wp_region_still_tail 27 (by kernel_rfl) (by kernel_rfl) ?_
  change wpStill _ _ w7.drew (fun a' => wpList _ _ _ _ a' w7.drew) _ _
  have hq := eqWord
  have hst := steps_prog p b 3 dB 4 1 2 0 0 6 6 false w7.drew (HP7.out.below (Below.refl _ _).drew)
  have HB8 := Lib.hid (HB7.out.drew)
  change w7.drew.cell? _ = _ at r0 r1 r2 r3 n0 n1 n2
  generalize w7.drew = wd at hst HB8 r0 r1 r2 r3 n0 n1 n2 ⊢
  simp only [List.take_succ_cons, List.take_zero, List.drop_succ_cons, List.drop_zero]
  iterate 11 still_step
  still_call (hst.mono fun _ _ h => ⟨h.1, h.2.symm⟩)
  iterate 15 still_step
  refine wpStill_nil ?_
  go_wp2
  go_ret
  exact ⟨rfl, HB8.out⟩
end Go.Proofs.YtfnlkapiflkceaaDoor
