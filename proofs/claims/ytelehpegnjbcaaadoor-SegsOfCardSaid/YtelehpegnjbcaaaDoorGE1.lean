/-
  What the laws of stage 6 ask of the program; two counts compared; the chapter's examples; conditions: the program's eight calls do as the plain side says, where what the program lays lies as laid.
-/
import Derived.Test.YtelehpegnjbcaaaDoorGD1
import Derived.Laws.Rows
import Derived.Laws.Tables
import Derived.RangeFuncBox
namespace Go.Proofs.YtelehpegnjbcaaaDoor
open Go.RowKit

/-- How many headers are of each state. -/
def cntV (l : List Int) : Value := .agg #[.int .i64 (countN l 0 : Int), .int .i64 (countN l 1 : Int), .int .i64 (countN l 2 : Int), .int .i64 (countN l 3 : Int), .int .i64 (countN l 4 : Int)]
/-- The program's calls do as the plain side says. -/
structure SPrg (L : World → Prop) : Prop where
  lay : ∀ w, L w → Lay w
  low : ∀ w w', L w → Below w.heap.size w w' → L w'
  of : ∀ (n : Int) (w : World), L w → I64 n → Calls Tryd.prog 11 #[.int .i64 n] w fun e w' => e = .returned (.int .i64 (ofG n)) ∧ Below w.heap.size w w'
  slots : ∀ (n : Int) (w : World), L w → I64 n → Calls Tryd.prog 9 #[.int .i64 n] w fun e w' => e = .returned (.tuple #[.int .i64 (fromG n), .int .i64 (toG n)]) ∧ Below w.heap.size w w'
  word : ∀ (n f : Int) (w : World), L w → I64 n → I64 f → Calls Tryd.prog 13 #[.int .i64 n, .int .i64 f] w fun e w' => e = .returned (.agg #[.int .u8 6, .int .i64 n, .int .i64 f]) ∧ Below w.heap.size w w'
  slot : ∀ (n f : Int) (w : World), L w → I64 n → I64 f → Calls Tryd.prog 14 #[.int .i64 n, .int .i64 f] w fun e w' => e = .returned (.agg #[.int .u8 9, .int .i64 n, .int .i64 f]) ∧ Below w.heap.size w w'
  may : ∀ (s p : Int) (w : World), L w → U64 s → U64 p → Calls Tryd.prog 16 #[.int .u64 s, .int .u64 p] w fun e w' => e = .returned (.bool (maySeg s p)) ∧ Below w.heap.size w w'
  turns : ∀ (s p t : Int) (w : World), L w → U64 s → U64 p → U64 t → Calls Tryd.prog 18 #[.int .u64 s, .int .u64 p, .int .u64 t] w fun e w' => e = .returned (.bool (turnsG s p t)) ∧ Below w.heap.size w w'
  count : ∀ (A : Option Addr) (cap : Nat) (l : List Int) (w : World), L w → Row w A (l.map uV) → (∀ x ∈ l, U64 x) → l.length ≤ cap → cap ≤ 9223372036854775807 → l.length ≤ 1000 →
    Calls Tryd.prog 20 #[.slice A l.length cap] w fun e w' => e = .returned (cntV l) ∧ Below w.heap.size w w'
  aside : ∀ (a b c p g : Int) (w : World), L w → 0 ≤ p → p ≤ 1099511627776 → 0 ≤ g → g ≤ 1099511627776 → Calls Tryd.prog 22 #[.agg #[.int .i64 a, .int .i64 b, .int .i64 c, .int .i64 p, .int .i64 g]] w fun e w' => e = .returned (.int .i64 (p + g)) ∧ Below w.heap.size w w'
theorem i64_of {n : Int} (h0 : -9000000000000000000 ≤ n) (h1 : n ≤ 9000000000000000000) : I64 n := ⟨by omega, by omega⟩
theorem isz36 : (Tryd.prog.info? 36).map (·.size) = some 5 := by kernel_rfl
set_option maxRecDepth 100000 in
theorem eql36 (a b c d e a' b' c' d' e' : Int) (w : World) : (binOp .eql 36 (.agg #[.int .i64 a, .int .i64 b, .int .i64 c, .int .i64 d, .int .i64 e]) (.agg #[.int .i64 a', .int .i64 b', .int .i64 c', .int .i64 d', .int .i64 e'])).run Tryd.prog w = .ok (.bool (decide (a = a' ∧ b = b' ∧ c = c' ∧ d = d' ∧ e = e'))) w := by
  have hS : Tryd.prog.underlying 36 = some (.struct (Tryd.prog.fieldsOf 36)) := by kernel_rfl
  have hp : Tryd.prog.stoodInHeld 36 = false := by kernel_rfl
  have u3 := Tryd.underlying3
  have a3 := Tryd.isAgg3
  have z3 := Tryd.sizeOf3
  rw [run_eql_struct, show (10000 : Nat) = 9999 + 1 from rfl, run_equalIn_agg w 9999 36 _ _ hS hp]
  simp only [Program.fieldsOf, Tryd.underlying36]
  clear hS hp
  go_simp
  by_cases h1 : a = a'
  · subst h1
    by_cases h2 : b = b'
    · subst h2
      by_cases h3 : c = c'
      · subst h3
        by_cases h4 : d = d'
        · subst h4
          by_cases h5 : e = e'
          · subst h5
            simp
          · simp [h5]
        · simp [h4]
      · simp [h3]
    · simp [h2]
  · simp [h1]
theorem ex_cnt : cntV [0, 4, 1] = .agg #[.int .i64 1, .int .i64 1, .int .i64 0, .int .i64 0, .int .i64 1] := rfl
theorem hd00 : headerW 0 0 = 0 := by decide
theorem hd40 : headerW 4 0 = 4 := by decide
theorem hd10 : headerW 1 0 = 1 := by decide
set_option maxRecDepth 100000 in
set_option maxHeartbeats 4000000 in
theorem lives_any {L : World → Prop} (H : SPrg L) (w : World) (hL : L w) : Calls Tryd.prog 15 #[] w fun e w' => e = .returned (.bool true) ∧ Below w.heap.size w w' := by
  have HL := Lib.hid (fun W (h : Below w.heap.size w W) => H.low w W hL h)
  have HB := Lib.hid (Below.refl w.heap.size w)
  clear hL
  go_enter Tryd.func15, Tryd.ntmps15
  go_wp2_with fail
  refine (H.slots 2 w (HL.out _ HB.out) (i64_of (by decide) (by decide))).mono ?_
  rintro e w1 ⟨rfl, hb1⟩
  rw [show fromG 2 = 16 by decide, show toG 2 = 24 by decide]
  have HB1 := Lib.hid hb1
  clear hb1
  go_wp2_with fail
  refine (header_any 0 0 w1 (H.lay _ (HL.out _ HB1.out)) (by decide) ⟨by decide, by decide⟩).mono ?_
  rintro e w2 ⟨rfl, hn2⟩
  have HB2 := Lib.hid (show Below w.heap.size w w2 by obtain ⟨k, rfl⟩ := hn2; exact below_drewN' HB1.out k)
  rw [hd00]
  clear hn2 HB1
  go_wp2_with fail
  refine (header_any 4 0 w2 (H.lay _ (HL.out _ HB2.out)) (by decide) ⟨by decide, by decide⟩).mono ?_
  rintro e w3 ⟨rfl, hn3⟩
  have HB3 := Lib.hid (show Below w.heap.size w w3 by obtain ⟨k, rfl⟩ := hn3; exact below_drewN' HB2.out k)
  rw [hd40]
  clear hn3 HB2
  go_wp2_with fail
  refine (header_any 1 0 w3 (H.lay _ (HL.out _ HB3.out)) (by decide) ⟨by decide, by decide⟩).mono ?_
  rintro e w4 ⟨rfl, hn4⟩
  have HB4 := Lib.hid (show Below w.heap.size w w4 by obtain ⟨k, rfl⟩ := hn4; exact below_drewN' HB3.out k)
  rw [hd10]
  clear hn4 HB3
  go_wp2_with fail
  have HB5 := Lib.hid (HB4.out.alloc HB4.out.size (.cells #[.int .u64 0, .int .u64 4, .int .u64 1] 31))
  refine (H.count (some ⟨w4.heap.size, 0, none⟩) 3 [0, 4, 1] _ (HL.out _ HB5.out) (row_new w4 31 ([0, 4, 1].map uV)) (by intro x hx; simp at hx; rcases hx with rfl | rfl | rfl <;> exact ⟨by decide, by decide⟩) (by decide) (by decide) (by decide)).mono ?_
  rintro e w6 ⟨rfl, hb6⟩
  rw [ex_cnt]
  have HB6 := Lib.hid (HB5.out.trans (hb6.mono HB5.out.size))
  clear hb6 HB5
  have HQ := Lib.hid (heap_alloc_new w6 (.cells #[.int .i64 1, .int .i64 1, .int .i64 0, .int .i64 0, .int .i64 1] 36))
  have HBQ := Lib.hid (HB6.out.alloc HB6.out.size (.cells #[.int .i64 1, .int .i64 1, .int .i64 0, .int .i64 0, .int .i64 1] 36))
  go_wp2_with fail
  refine (H.of 17 _ (HL.out _ HBQ.out) (i64_of (by decide) (by decide))).mono ?_
  rintro e w7 ⟨rfl, hb7⟩
  rw [show ofG 17 = 2 by decide]
  have HQ7 := Lib.hid ((hb7.block _ (Array.getElem?_eq_some_iff.1 HQ.out).1).trans HQ.out)
  have HB7 := Lib.hid (HBQ.out.trans (hb7.mono HBQ.out.size))
  clear hb7 HQ HBQ
  go_wp2_with fail
  refine (H.turns 2 8 0 _ (HL.out _ HB7.out) ⟨by decide, by decide⟩ ⟨by decide, by decide⟩ ⟨by decide, by decide⟩).mono ?_
  rintro e w8 ⟨rfl, hb8⟩
  rw [show turnsG 2 8 0 = true by decide]
  have HQ8 := Lib.hid ((hb8.block _ (Array.getElem?_eq_some_iff.1 HQ7.out).1).trans HQ7.out)
  have HB8 := Lib.hid (HB7.out.trans (hb8.mono HB7.out.size))
  clear hb8 HQ7 HB7
  go_wp2_with fail
  refine (H.turns 2 7 0 _ (HL.out _ HB8.out) ⟨by decide, by decide⟩ ⟨by decide, by decide⟩ ⟨by decide, by decide⟩).mono ?_
  rintro e w9 ⟨rfl, hb9⟩
  rw [show turnsG 2 7 0 = false by decide]
  have HQ9 := Lib.hid ((hb9.block _ (Array.getElem?_eq_some_iff.1 HQ8.out).1).trans HQ8.out)
  have HB9 := Lib.hid (HB8.out.trans (hb9.mono HB8.out.size))
  clear hb9 HQ8 HB8
  go_wp2_with fail
  refine (H.may 0 7 _ (HL.out _ HB9.out) ⟨by decide, by decide⟩ ⟨by decide, by decide⟩).mono ?_
  rintro e wa ⟨rfl, hba⟩
  rw [show maySeg 0 7 = false by decide]
  have HQA := Lib.hid ((hba.block _ (Array.getElem?_eq_some_iff.1 HQ9.out).1).trans HQ9.out)
  have HBA := Lib.hid (HB9.out.trans (hba.mono HB9.out.size))
  clear hba HQ9 HB9
  have q0 : wa.cell? ⟨w6.heap.size, 0, none⟩ = some (.int .i64 1) := by rw [cell_of_row _ _ _ _ _ _ HQA.out]; rfl
  have q1 : wa.cell? ⟨w6.heap.size, 1, none⟩ = some (.int .i64 1) := by rw [cell_of_row _ _ _ _ _ _ HQA.out]; rfl
  have q2 : wa.cell? ⟨w6.heap.size, 2, none⟩ = some (.int .i64 0) := by rw [cell_of_row _ _ _ _ _ _ HQA.out]; rfl
  have q3 : wa.cell? ⟨w6.heap.size, 3, none⟩ = some (.int .i64 0) := by rw [cell_of_row _ _ _ _ _ _ HQA.out]; rfl
  have q4 : wa.cell? ⟨w6.heap.size, 4, none⟩ = some (.int .i64 1) := by rw [cell_of_row _ _ _ _ _ _ HQA.out]; rfl
  go_wp2_with fail
  refine (H.aside 1 1 0 0 1 _ (HL.out _ HBA.out) (by decide) (by decide) (by decide) (by decide)).mono ?_
  rintro e wb ⟨rfl, hbb⟩
  have HBB := Lib.hid (HBA.out.trans (hbb.mono HBA.out.size))
  clear hbb
  go_wp2_with fail
  go_ret
  exact ⟨rfl, HBB.out⟩
end Go.Proofs.YtelehpegnjbcaaaDoor
