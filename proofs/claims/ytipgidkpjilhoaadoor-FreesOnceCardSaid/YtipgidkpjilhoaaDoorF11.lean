/-
  Whether each thread has slots of its own: true where none stands twice; condition: all lies as it says.
-/
import Derived.Test.YtipgidkpjilhoaaDoorF10
import Derived.RangeFuncBox
namespace Go.Proofs.YtipgidkpjilhoaaDoor
open Go.RowKit Go.Maps

def bV (b : Bool) : Value := .bool b
theorem Tryd_infoB : (Tryd.prog.info? 4).map (fun i => (i.zero, i.size, i.bytes)) = some (some (.bool false), 1, 1) := by kernel_rfl
/-- Which of n slots are in a list. -/
def seenB (n : Nat) (L : List Int) : List Bool := (List.range n).map fun z : Nat => decide ((z : Int) ∈ L)
theorem seenB_len (n : Nat) (L : List Int) : (seenB n L).length = n := by simp [seenB]
theorem seenB_at {n : Nat} (L : List Int) {z : Nat} (h : z < n) : ((seenB n L).map bV)[z]? = some (.bool (decide ((z : Int) ∈ L))) := by
  simp [seenB, bV, h]
theorem seenB_nil (n : Nat) : (madeCells (Value.bool false).cells (n * 1)).toList = (seenB n []).map bV := by
  rw [Nat.mul_one, show (Value.bool false).cells = #[Value.bool false] from rfl, toList_madeCells_one]
  apply List.ext_getElem?
  intro i
  simp [seenB, List.getElem?_replicate]
  split <;> simp_all [bV]
theorem seenB_set {n : Nat} (L : List Int) {z : Nat} (h : z < n) : ((seenB n L).map bV).set z (.bool true) = (seenB n (L ++ [(z : Int)])).map bV := by
  apply List.ext_getElem?
  intro i
  rw [List.getElem?_set]
  by_cases hi : i < n
  · rw [seenB_at _ hi, seenB_at _ hi, List.length_map, seenB_len]
    by_cases e : z = i
    · subst e
      simp [h]
    · have : ¬ (i : Int) = (z : Int) := by omega
      simp [e, this]
  · have e1 : ((seenB n L).map bV)[i]? = none := List.getElem?_eq_none (by rw [List.length_map, seenB_len]; omega)
    have e2 : ((seenB n (L ++ [(z : Int)])).map bV)[i]? = none := List.getElem?_eq_none (by rw [List.length_map, seenB_len]; omega)
    rw [e1, e2, if_neg (by omega)]

section
variable {B p b G n : Nat} {th : Nat → Th} {M : MS} {w0 w w' : World}
theorem OpR.below {q : Nat} {o : TO} (h : OpR w B q o) (hb : Below w.heap.size w w') : OpR w' B q o := h.same fun hq => hb.block q hq
theorem TS.below (h : TS B p b G n th M w0 w) (_ : 1 < B) (hB0 : B ≤ w0.heap.size) (hb : Below w.heap.size w w') : TS B p b G n th M w0 w' := by
  obtain ⟨hv, qs, st, h1, W, h3⟩ := h
  have hlt := W.fm.lt
  obtain ⟨cur, b1, b2, b3⟩ := W.blk
  have hG := (Array.getElem?_eq_some_iff.1 b1).1
  have hp := W.pB
  exact ⟨hv, qs, st, h1, ⟨W.fm.below hb, W.pB, W.bB, W.GB, ⟨cur, (hb.block G hG).trans b1, b2, b3⟩, fun k hk => (W.row k hk).below hb, fun k hk => (W.op k hk).below hb, W.sepr, W.sepo⟩, h3.trans (hb.mono (by have := h3.size; omega))⟩
theorem TS.mono {n' : Nat} (h : TS B p b G n th M w0 w) (hn : n ≤ n') : TS B p b G n' th M w0 w := by
  obtain ⟨hv, qs, st, h1, h2⟩ := h
  exact ⟨hv, qs, st, by omega, h2⟩
/-- What a thread has, as it is read. -/
theorem TS.held (h : TS B p b G n th M w0 w) {k : Nat} (hk : k < 6) : ∃ A c, w.cell? ⟨G, k * 3, none⟩ = some (.slice A (th k).held.length c) ∧ (th k).held.length ≤ c ∧ c ≤ 9223372036854775807 ∧ ∀ j, j < (th k).held.length → ∃ g off, A = some ⟨g, off, none⟩ ∧ w.cell? ⟨g, off + j, none⟩ = some (.int .i64 ((th k).held.getD j 0)) := by
  obtain ⟨hv, qs, st, h1, W, h3⟩ := h
  have hr := W.row k hk
  obtain ⟨A, c, e, h4, h5, _⟩ := id hr
  have h6 := (W.tl hk).cells.1
  rw [e] at h6 hr
  exact ⟨A, c, by rw [Nat.mul_comm]; exact h6, h4, h5, fun j hj => (hr.at_ hj).2⟩
theorem TS.op (h : TS B p b G n th M w0 w) {k : Nat} (hk : k < 6) : ∃ q, w.cell? ⟨G, k * 3 + 1, none⟩ = some (popP (th k).op q) ∧ w.cell? ⟨G, k * 3 + 2, none⟩ = some (pushP (th k).op q) := by
  obtain ⟨hv, qs, st, h1, W, h3⟩ := h
  have h6 := (W.tl hk).cells
  exact ⟨qs k, by rw [Nat.mul_comm]; exact h6.2.1, by rw [Nat.mul_comm]; exact h6.2.2.1⟩
theorem helds_pre (th : Nat → Th) (z : Int) {i k : Nat} (hi : i < 6) : (helds th i ++ (th i).held.take k).count z + ((th i).held.drop k).count z ≤ (helds th 6).count z := by
  rw [List.count_append, Nat.add_assoc, ← List.count_append, List.take_append_drop, ← List.count_append, ← helds_succ]
  have : ∀ m, i + 1 ≤ m → (helds th (i + 1)).count z ≤ (helds th m).count z := by
    intro m hm
    induction m with
    | zero => omega
    | succ m ih =>
      by_cases h : i + 1 = m + 1
      · rw [h]; exact Nat.le_refl _
      · rw [helds_succ th m, List.count_append]
        have := ih (by omega)
        omega
  exact this 6 (by omega)
/-- The next slot is of those, and new. -/
theorem apart_next {nn : Nat} (hc : ∀ z, (helds th 6).count z ≤ if 0 ≤ z ∧ z < nn then 1 else 0) {i k : Nat} (hi : i < 6) (hk : k < (th i).held.length) :
    ∃ z : Nat, (th i).held.getD k 0 = (z : Int) ∧ z < nn ∧ decide ((z : Int) ∈ helds th i ++ (th i).held.take k) = false ∧ (th i).held.take (k + 1) = (th i).held.take k ++ [(z : Int)] := by
  have hg : (th i).held.getD k 0 = (th i).held[k] := by simp [List.getD_eq_getElem?_getD, List.getElem?_eq_getElem hk]
  have h1 := hc ((th i).held[k])
  have h2 := helds_pre th ((th i).held[k]) (k := k) hi
  have h3 : 0 < ((th i).held.drop k).count ((th i).held[k]) := by
    rw [List.drop_eq_getElem_cons hk, List.count_cons_self]
    omega
  have hin : 0 ≤ (th i).held[k] ∧ (th i).held[k] < nn := by
    split at h1
    · assumption
    · omega
  rw [if_pos hin] at h1
  refine ⟨(th i).held[k].toNat, by rw [hg]; omega, by omega, ?_, ?_⟩
  · rw [decide_eq_false_iff_not, Int.toNat_of_nonneg hin.1]
    intro hm
    have := List.count_pos_iff.2 hm
    omega
  · rw [Int.toNat_of_nonneg hin.1, List.take_add_one, List.getElem?_eq_getElem hk]
    rfl
set_option maxRecDepth 100000 in
set_option maxHeartbeats 8000000 in
theorem apart_any {nn : Nat} (hB : 1 < B) (hB0 : B ≤ w0.heap.size) (hnn : nn ≤ 60) (hT : TS B p b G n th M w0 w) (hc : ∀ z, (helds th 6).count z ≤ if 0 ≤ z ∧ z < nn then 1 else 0) :
    Calls Tryd.prog 25 #[.slice (some ⟨G, 0, none⟩) 6 6, .int .i64 nn] w fun e w' => e = .returned (.bool true) ∧ Below w.heap.size w w' := by
  obtain ⟨i0, hi0, hz0, hz1, hz2⟩ := info_parts Tryd_infoB
  have HT := Lib.hid hT
  have HC := Lib.hid hc
  have hnn' : (nn : Int) ≤ 60 := by omega
  clear hT hc
  go_enter Tryd.func25, Tryd.ntmps25
  go_wp2_with (at_make; go_loud (refine wpList_make_full _ rfl _ _ 109 rfl w.heap.size 4 i0 _ 1 Tryd.underlying109 hi0 hz0 hz1 .i64 .i64 _ _ nn rfl rfl (by omega) (by omega) (by rw [hz2]; omega) (by unfold maxLen; omega) (Nat.le_refl _) ?_; intro w1 ho1 hg1; rw [seenB_nil] at ho1; have HO1 := Lib.hid ho1; have HB1 := Lib.hid ((Below.refl w.heap.size w).grown hg1 (Nat.le_refl _) (fun k hk => by cases hk)); clear ho1 hg1))
  have hGg : (0 : Nat) < 6 := by decide
  go_wp2_with fail
  go_loopw [6] (fun j wr => ∃ i : Nat, i ≤ 6 ∧ j = .int .i64 (i : Int) ∧ Hid (wr.ownsRow w.heap.size 4 1 (.slice (some ⟨w.heap.size, 0, none⟩) nn nn) nn ((seenB nn (helds th i)).map bV) ∧ Below w.heap.size w wr)) (fun j _ => 6 - (intOf j).toNat)
  case atStart => exact ⟨0, Nat.zero_le _, rfl, Lib.hid ⟨HO1.out, HB1.out⟩⟩
  case round =>
    clear HO1 HB1 w1
    obtain ⟨i, hi, rfl, hr⟩ := hrel
    have hge : (0 : Int) ≤ (i : Int) := by omega
    by_cases hlt : i < 6
    · obtain ⟨hown, hlow⟩ := hr.out
      have HO := Lib.hid hown
      have HLOW := Lib.hid hlow
      obtain ⟨A, c, c0, hmc, hc63, hcell⟩ := (HT.out.below hB hB0 hlow).held hlt
      have hlt' : (i : Int) < 6 := by omega
      obtain ⟨m, hm⟩ : ∃ m, (th i).held.length = m := ⟨_, rfl⟩
      have HM := Lib.hid hm
      rw [hm] at c0 hmc
      clear hr hown hlow hm hcell
      go_wp2_with fail
      rename World => w2
      go_loopw [7] (fun j wq => ∃ k : Nat, k ≤ m ∧ j = .int .i64 (k : Int) ∧ Hid (wq.ownsRow w.heap.size 4 1 (.slice (some ⟨w.heap.size, 0, none⟩) nn nn) nn ((seenB nn (helds th i ++ (th i).held.take k)).map bV) ∧ Below w.heap.size w wq)) (fun j _ => m - (intOf j).toNat)
      case atStart => exact ⟨0, Nat.zero_le _, rfl, Lib.hid ⟨by rw [List.take_zero, List.append_nil]; exact HO.out, HLOW.out⟩⟩
      case round =>
        clear HO HLOW c0 hmc hc63 A c
        obtain ⟨k, hk, rfl, hr⟩ := hrel
        rename World => w3
        obtain ⟨hown, hlow⟩ := hr.out
        have HO := Lib.hid hown
        have HLOW := Lib.hid hlow
        obtain ⟨A, c, c0, hmc, hc63, hcell⟩ := (HT.out.below hB hB0 hlow).held hlt
        rw [HM.out] at c0 hmc
        have hge2 : (0 : Int) ≤ (k : Int) := by omega
        clear hr hown hlow
        by_cases hlt2 : k < m
        · have hlt3 : (k : Int) < (m : Int) := by omega
          obtain ⟨g2, off, rfl, y⟩ := hcell k (by rw [HM.out]; exact hlt2)
          obtain ⟨z, hz, hznn, hzs, hzt⟩ := apart_next HC.out hlt (k := k) (by rw [HM.out]; exact hlt2)
          rw [hz] at y
          have hzI : (z : Int) < (nn : Int) := by omega
          have hz0' : (0 : Int) ≤ (z : Int) := by omega
          have hsy := (HO.out.cellAt z (by omega)).trans (seenB_at (helds th i ++ (th i).held.take k) hznn)
          rw [hzs] at hsy
          have hsf := HO.out.frozenAt z
          have HZT := Lib.hid hzt
          clear hcell hz hzs hzt
          go_wp2_with fail
          obtain ⟨ho2, hg2⟩ := HO.out.stored z (.bool true)
          rw [seenB_set _ hznn, List.append_assoc, ← HZT.out] at ho2
          go_roundw
          case rel => exact ⟨k + 1, by omega, by go_num, Lib.hid ⟨ho2, HLOW.out.grown hg2 HLOW.out.size (fun k hk => by cases hk; exact Nat.le_refl _)⟩⟩
          case measure => simp [intOf]; omega
        · have hkm : k = m := by omega
          have hle : (m : Int) ≤ (k : Int) := by omega
          have ho2 := HO.out
          rw [hkm, List.take_of_length_le (Nat.le_of_eq HM.out), ← helds_succ] at ho2
          have HO2 := Lib.hid ho2
          clear ho2 hkm hcell
          go_wp2_with fail
          go_roundw
          case rel => exact ⟨i + 1, by omega, by go_num, Lib.hid ⟨HO2.out, HLOW.out⟩⟩
          case measure => simp [intOf]; omega
    · have hle : (6 : Int) ≤ (i : Int) := by omega
      go_wp2_with fail
      go_ret
      exact ⟨rfl, hr.out.2⟩
end
end Go.Proofs.YtipgidkpjilhoaaDoor
