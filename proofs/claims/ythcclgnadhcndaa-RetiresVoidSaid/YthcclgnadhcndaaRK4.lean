/-
  The landed package's list as it lies; which ref may be; entries in new memory; condition: it lies as it says.
-/
import Derived.Test.YthcclgnadhcndaaRD3
import Derived.Test.YthcclgnadhcndaaRK3
namespace Go.Proofs.Ythcclgnadhcndaa
open Go.RowKit Go.Maps

/-- The program's list: its block, its row of entries, its set of refs. -/
structure RLay (q : Nat) (v : Value) (m : Option Nat) (l : List EP) (w : World) : Prop where
  k : Bq q 49 [v, .map m] w
  row : OwnE w 0 v l
  set : (m = none ∧ l = []) ∨ ∃ b, m = some b ∧ MapU b l.length (l.map EP.ref) w
/-- The program's list, its blocks. -/
structure RRep (q : Nat) (fp : List Nat) (l : List EP) (w : World) : Prop where
  mem : q ∈ fp
  lt : ∀ x ∈ fp, x < w.heap.size
  inv : InvR l
  ok : ∀ e ∈ l, RP.ok e.ref
  rep : ∃ v m, fp = q :: (v.ownBlock.toList ++ m.toList) ∧ RLay q v m l w
section
variable {w w' : World} {q : Nat} {fp : List Nat} {l : List EP} {v : Value} {m : Option Nat} {bs : List Bool}
theorem RLay.same (h : RLay q v m l w) (hq : w'.heap[q]? = w.heap[q]?) (hv : ∀ x, v.ownBlock = some x → w'.heap[x]? = w.heap[x]?) (hm : ∀ x, m = some x → w'.heap[x]? = w.heap[x]?) : RLay q v m l w' := by
  refine ⟨h.k.same hq, h.row.same hv, ?_⟩
  rcases h.set with h1 | ⟨b, rfl, h1⟩
  · exact .inl h1
  · exact .inr ⟨b, rfl, h1.same (hm b rfl)⟩
theorem RLay.mlt (h : RLay q v m l w) {x : Nat} (hx : m = some x) : x < w.heap.size := by
  rcases h.set with ⟨h1, _⟩ | ⟨b, h1, h2⟩
  · rw [h1] at hx; cases hx
  · rw [h1] at hx
    injection hx with hx
    exact hx ▸ h2.lt
theorem RLay.ne (h : RLay q v m l w) {x : Nat} (hx : v.ownBlock = some x) : x ≠ q := by
  obtain ⟨_, cs, k⟩ := h.row.bq hx
  exact k.ne h.k (by decide)
theorem RLay.mne (h : RLay q v m l w) {x : Nat} (hx : m = some x) : x ≠ q := by
  rcases h.set with ⟨h1, _⟩ | ⟨b, h1, h2⟩
  · rw [h1] at hx; cases hx
  · rw [h1] at hx
    injection hx with hx
    exact hx ▸ h2.ne h.k
theorem RLay.mv (h : RLay q v m l w) {x y : Nat} (hx : m = some x) (hy : v.ownBlock = some y) : x ≠ y := by
  obtain ⟨_, cs, k⟩ := h.row.bq hy
  rcases h.set with ⟨h1, _⟩ | ⟨b, h1, h2⟩
  · rw [h1] at hx; cases hx
  · rw [h1] at hx
    injection hx with hx
    exact hx ▸ h2.ne k
theorem RLay.below (h : RLay q v m l w) (hb : Below w.heap.size w w') : RLay q v m l w' := h.same (hb.block q h.k.lt) (fun x hx => hb.block x (h.row.lt hx)) fun x hx => hb.block x (h.mlt hx)
theorem RLay.out (h : RLay q v m l w) (hi : InvR l) (hk : ∀ e ∈ l, RP.ok e.ref) : RRep q (q :: (v.ownBlock.toList ++ m.toList)) l w := by
  refine ⟨List.mem_cons_self, fun x hx => ?_, hi, hk, v, m, rfl, h⟩
  simp only [List.mem_cons, List.mem_append, Option.mem_toList] at hx
  rcases hx with rfl | hx | hx
  · exact h.k.lt
  · exact h.row.lt hx
  · exact h.mlt hx
theorem RRep.same (h : RRep q fp l w) (hs : ∀ y ∈ fp, w'.heap[y]? = w.heap[y]?) : RRep q fp l w' := by
  obtain ⟨h1, h2, h3, h4, v, m, rfl, h5⟩ := h
  exact (h5.same (hs q h1) (fun x hx => hs x (by simp [hx])) fun x hx => hs x (by simp [hx])).out h3 h4
theorem RRep.below (h : RRep q fp l w) (hb : Below w.heap.size w w') : RRep q fp l w' := h.same fun y hy => hb.block y (h.lt y hy)
theorem zeroR (h : Bq q 49 [.slice none 0 0, .map none] w) : RRep q [q] [] w := (RLay.out ⟨h, .nil _ _, .inl ⟨rfl, rfl⟩⟩ .nil (by simp))
end
section
variable {w w' : World} {q : Nat} {fp : List Nat} {l : List EP} {v : Value} {m : Option Nat} {bs : List Bool}
set_option maxRecDepth 100000 in
set_option maxHeartbeats 4000000 in
theorem new_all (w : World) : Calls Try.prog 8 #[] w fun e w' => ∃ q fp, e = .returned (.pointer (some ⟨q, 0, none⟩)) ∧ RRep q fp [] w' ∧ (∀ x ∈ fp, w.heap.size ≤ x) ∧ Below w.heap.size w w' := by
  have HB := Lib.hid ((Below.refl w.heap.size w).alloc (Nat.le_refl _) (.cells #[.slice none 0 0, .map none] 49))
  have HQ := Lib.hid (Bq.new w [.slice none 0 0, .map none] 49)
  go_enter Try.func8, Try.ntmps8
  go_wp2_with fail
  go_ret
  exact ⟨_, [w.heap.size], rfl, zeroR HQ.out, by simp, HB.out⟩
set_option maxRecDepth 100000 in
set_option maxHeartbeats 4000000 in
theorem may_all (es eg eb ec ed : Int) (ek : Bool) (w : World) : Calls Try.prog 21 #[.agg #[.int .i64 es, .int .u32 eg, .bool ek]] w fun e w' => e = .returned (.bool (decide (okE ⟨es, eg, ek, eb, ec, ed⟩))) ∧ Below w.heap.size w w' := by
  have hA := (Below.refl w.heap.size w).alloc (Nat.le_refl _) (.cells #[.int .i64 es, .int .u32 eg, .bool ek] 31)
  have hB := Lib.hid hA
  clear hA
  by_cases h0 : 0 ≤ es
  · by_cases h1 : es < 256
    · cases ek
      · have hd : decide (okE ⟨es, eg, false, eb, ec, ed⟩) = true := decide_eq_true ⟨h0, by dsimp only; omega, rfl⟩
        rw [hd]
        clear hd
        go_enter Try.func21, Try.ntmps21
        go_wp2_with fail
        go_ret
        exact ⟨rfl, hB.out⟩
      · have hd : decide (okE ⟨es, eg, true, eb, ec, ed⟩) = false := decide_eq_false fun h => by have := h.2.2; cases this
        rw [hd]
        clear hd
        go_enter Try.func21, Try.ntmps21
        go_wp2_with fail
        go_ret
        exact ⟨rfl, hB.out⟩
    · have hd : decide (okE ⟨es, eg, ek, eb, ec, ed⟩) = false := decide_eq_false fun h => by have : es < 256 := h.2.1; omega
      rw [hd]
      clear hd
      go_enter Try.func21, Try.ntmps21
      go_wp2_with fail
      go_ret
      exact ⟨rfl, hB.out⟩
  · have hd : decide (okE ⟨es, eg, ek, eb, ec, ed⟩) = false := decide_eq_false fun h => by have : 0 ≤ es := h.1; omega
    rw [hd]
    clear hd
    go_enter Try.func21, Try.ntmps21
    go_wp2_with fail
    go_ret
    exact ⟨rfl, hB.out⟩
set_option maxRecDepth 100000 in
set_option maxHeartbeats 4000000 in
theorem own_all {A : Option Addr} {n c : Nat} (h : SeeE w (.slice A n c) l) (hl : l.length < 1000) : Calls Try.prog 20 #[.slice A n c] w fun e w' => ∃ v, e = .returned v ∧ OwnE w' w.heap.size v l ∧ Below w.heap.size w w' := by
  obtain ⟨i0, hi0, hz0, hz1, hz2⟩ := info_parts infoE
  have HN := Lib.hid h.len
  have HS := Lib.hid h
  have hn : n < 1000 := by rw [HN.out]; exact hl
  clear h
  go_enter Try.func20, Try.ntmps20
  by_cases h0 : n = 0
  · subst h0
    have HL : l = [] := List.eq_nil_of_length_eq_zero HN.out.symm
    subst HL
    go_wp2_with fail
    go_ret
    exact ⟨_, rfl, .nil _ _, Below.refl _ _⟩
  · have h0' : ¬ (n : Int) = 0 := by omega
    have hge : (0 : Int) ≤ (n : Int) := by omega
    obtain ⟨_, _, g, off, rfl⟩ := HS.out.addr (by omega)
    go_wp2_with first
      | (refine wpList_make_full w rfl (.tmp 8) (.tmp 8) 26 rfl w.heap.size 34 i0 _ 6 Try.underlying26 hi0 hz0 hz1 .i64 .i64 _ _ n rfl rfl rfl rfl (by rw [hz2]; omega) (by unfold maxLen; omega) (Nat.le_refl _) ?_; intro w1 hr1 hg1; have HW1 := Lib.hid (own_whole hr1); have HG1 := Lib.hid (grown_none hg1); clear hr1 hg1)
      | (refine wpList_copy_fill rfl (.tmp 10) (.tmp 11) 26 26 rfl 34 Try.underlying26 i0 6 hi0 hz1 w.heap.size n n ⟨g, off, none⟩ c rfl rfl _ _ (flatE l) HW1.out (by rw [flatE_len, ← HN.out]; simp [size_madeCells]) (by rw [flatE_len, ← HN.out]) (SeeE.reads (HS.out.below HG1.out)) flatE_one ?_; intro w2 hr2 hk2; have HR2 := Lib.hid hr2; have HB2 := Lib.hid (HG1.out.trans (hk2.below (B := w.heap.size) (by simp) HG1.out.size)); clear hr2 hk2)
    go_ret
    refine ⟨_, rfl, ?_, HB2.out⟩
    have := HN.out
    unfold OwnE
    rw [← this]
    refine ⟨by first | exact (flatE_len l).trans (by rw [← HN.out]) | (have := HB2.out.size; omega), .inr ⟨w.heap.size, n, (flatE l).toArray, rfl, Nat.le_refl _, HR2.out, Nat.le_refl _, by unfold maxLen; omega, by simp [flatE_len, HN.out], List.take_of_length_le (by rw [HN.out]; exact Nat.le_of_eq (flatE_len l))⟩⟩
end
end Go.Proofs.Ythcclgnadhcndaa
