/-
  The landed package's list: what is told of it, and of no list; condition: it lies as it says.
-/
import Derived.Test.YthcclgnadhcndaaRK4
namespace Go.Proofs.Ythcclgnadhcndaa
open Go.RowKit Go.Maps

section
variable {w w' : World} {q : Nat} {fp : List Nat} {l : List EP} {v : Value} {m : Option Nat} {bs : List Bool}
set_option maxRecDepth 100000 in
set_option maxHeartbeats 4000000 in
theorem born_lay {A : Option Addr} {n c : Nat} {b : Int} (hk : Bq q 49 [.slice A n c, .map m] w) (h : SeeE w (.slice A n c) l) (hn : n < 1000) : Calls Try.prog 17 #[.pointer (some ⟨q, 0, none⟩), .int .u64 b] w fun e w' => e = .returned (.int .i64 (bornE l b l.length : Nat)) ∧ Below w.heap.size w w' := by
  have HN := Lib.hid h.len
  have HS := Lib.hid h
  have hc := hk.cell 0
  dsimp only [List.getElem?_cons_zero] at hc
  clear h hk
  go_enter Try.func17, Try.ntmps17
  go_wp2_with fail
  go_loopw [5, 15] (fun x j wr => ∃ i m : Nat, i ≤ n ∧ j = .int .i64 (i : Int) ∧ x = .int .i64 (m : Int) ∧ Hid (bornE l b i = m) ∧ m ≤ i ∧ Hid (Below w.heap.size w wr)) (fun _ j _ => n - (intOf j).toNat)
  case atStart => exact ⟨0, 0, Nat.zero_le _, rfl, rfl, Lib.hid rfl, Nat.le_refl _, Lib.hid (Below.refl _ _)⟩
  case round =>
    obtain ⟨i, m, hi, rfl, rfl, HM, hmi, HB⟩ := hrel
    rename World => wr
    have hge : (0 : Int) ≤ (i : Int) := by omega
    have hgm : (0 : Int) ≤ (m : Int) := by omega
    clear hc
    by_cases hlt : i < n
    · have hlt' : (i : Int) < (n : Int) := by omega
      have hig : i < l.length := by have := HN.out; omega
      have HSR := Lib.hid (HS.out.below HB.out)
      obtain ⟨hc0, hc1, g1, o1, rfl⟩ := HS.out.addr (by omega)
      obtain ⟨y0, y1, y2, y3, y4, y5⟩ := HSR.out.six hig
      generalize hev : l.getD i EP.zero = ev at *
      obtain ⟨es, eg, ek, eb, ec, ed⟩ := ev
      dsimp only at y0 y1 y2 y3 y4 y5
      have HA := Lib.hid (HB.out.trans (((Below.refl _ wr).alloc (Nat.le_refl _) (.cells #[.int .i64 es, .int .u32 eg, .bool ek, .int .u64 eb, .int .u64 ec, .int .u64 ed] 34)).mono HB.out.size))
      have HE : bornE l b (i + 1) = bornE l b i + (if eb < b then 1 else 0) := by
        show bornE l b i + (if (l.getD i EP.zero).b < b then 1 else 0) = _
        rw [hev]
      rw [HM.out] at HE
      clear hev HM
      by_cases hb : eb < b
      · rw [if_pos hb] at HE
        have HE := Lib.hid HE
        go_wp2_with fail
        go_roundw
        case rel => exact ⟨i + 1, m + 1, by omega, by go_num, by go_num, HE, by omega, HA⟩
        case measure => simp [intOf]; omega
      · rw [if_neg hb] at HE
        have HE := Lib.hid HE
        go_wp2_with fail
        go_roundw
        case rel => exact ⟨i + 1, m, by omega, by go_num, rfl, HE, by omega, HA⟩
        case measure => simp [intOf]; omega
    · have hin : i = n := by omega
      have hnl : ¬ (i : Int) < (n : Int) := by omega
      have HH : bornE l b l.length = m := by rw [← HN.out, ← hin]; exact HM.out
      have HH := Lib.hid HH
      clear HM hin
      go_wp2_with fail
      go_ret
      exact ⟨by first | rfl | (rw [HH.out]; rfl), HB.out⟩
theorem born_all (h : RRep q fp l w) (hl : l.length < 1000) (b : Int) : Calls Try.prog 17 #[.pointer (some ⟨q, 0, none⟩), .int .u64 b] w fun e w' => e = .returned (.int .i64 (bornE l b l.length : Nat)) ∧ Below w.heap.size w w' := by
  obtain ⟨_, _, _, _, v, m, rfl, h5⟩ := h
  obtain ⟨A, k, rfl, _, _, _⟩ := h5.row.slice
  exact born_lay h5.k h5.row.see hl
set_option maxRecDepth 100000 in
set_option maxHeartbeats 4000000 in
theorem len_all (h : RRep q fp l w) : Calls Try.prog 16 #[.pointer (some ⟨q, 0, none⟩)] w fun e w' => e = .returned (.int .i64 (l.length : Nat)) ∧ Below w.heap.size w w' := by
  obtain ⟨_, _, _, _, v, m, rfl, h5⟩ := h
  obtain ⟨A, k, rfl, _, _, _⟩ := h5.row.slice
  have hc := h5.k.cell 0
  dsimp only [List.getElem?_cons_zero] at hc
  clear h5
  go_enter Try.func16, Try.ntmps16
  go_wp2_with fail
  go_ret
  exact ⟨rfl, Below.refl _ _⟩
set_option maxRecDepth 100000 in
set_option maxHeartbeats 4000000 in
theorem all_all (h : RRep q fp l w) (hl : l.length < 1000) : Calls Try.prog 15 #[.pointer (some ⟨q, 0, none⟩)] w fun e w' => ∃ v, e = .returned v ∧ OwnE w' w.heap.size v l ∧ Below w.heap.size w w' := by
  obtain ⟨_, _, _, _, v, m, rfl, h5⟩ := h
  obtain ⟨A, k, rfl, _, _, _⟩ := h5.row.slice
  have hc := h5.k.cell 0
  dsimp only [List.getElem?_cons_zero] at hc
  have HS := Lib.hid h5.row.see
  clear h5
  go_enter Try.func15, Try.ntmps15
  go_wp2_with fail
  ((with_reducible refine (own_all HS.out hl).mono ?_); rintro e w1 ⟨v1, rfl, ho, hb⟩)
  have HO := Lib.hid ho
  have HB := Lib.hid hb
  clear ho hb
  go_wp2_with fail
  go_ret
  exact ⟨_, rfl, HO.out, HB.out⟩
set_option maxRecDepth 100000 in
set_option maxHeartbeats 4000000 in
theorem add_nil (es eg eb ec ed : Int) (ek : Bool) (w : World) : Calls Try.prog 13 #[.pointer none, .agg #[.int .i64 es, .int .u32 eg, .bool ek, .int .u64 eb, .int .u64 ec, .int .u64 ed]] w fun e w' => e = .returned (.int .i64 2) ∧ Below w.heap.size w w' := by
  have hA := Lib.hid ((Below.refl w.heap.size w).alloc (Nat.le_refl _) (.cells #[.int .i64 es, .int .u32 eg, .bool ek, .int .u64 eb, .int .u64 ec, .int .u64 ed] 34))
  go_enter Try.func13, Try.ntmps13
  go_wp2_with fail
  go_ret
  exact ⟨rfl, by first | exact hA.out | exact Below.refl _ _⟩
theorem len_nil (w : World) : Calls Try.prog 16 #[.pointer none] w fun e w' => e = .returned (.int .i64 0) ∧ Below w.heap.size w w' := by
  go_enter Try.func16, Try.ntmps16
  go_wp2_with fail
  go_ret
  exact ⟨rfl, Below.refl _ _⟩
theorem all_nil (w : World) : Calls Try.prog 15 #[.pointer none] w fun e w' => ∃ A c, e = .returned (.slice A 0 c) ∧ Below w.heap.size w w' := by
  go_enter Try.func15, Try.ntmps15
  go_wp2_with fail
  go_ret
  exact ⟨_, _, rfl, Below.refl _ _⟩
theorem sweep_nil (v : Value) (w : World) : Calls Try.prog 9 #[.pointer none, v] w fun e w' => ∃ A c, e = .returned (.slice A 0 c) ∧ Below w.heap.size w w' := by
  go_enter Try.func9, Try.ntmps9
  go_wp2_with fail
  go_ret
  exact ⟨_, _, rfl, Below.refl _ _⟩
theorem born_nil (b : Int) (w : World) : Calls Try.prog 17 #[.pointer none, .int .u64 b] w fun e w' => e = .returned (.int .i64 0) ∧ Below w.heap.size w w' := by
  go_enter Try.func17, Try.ntmps17
  go_wp2_with fail
  go_ret
  exact ⟨rfl, Below.refl _ _⟩
end
end Go.Proofs.Ythcclgnadhcndaa
