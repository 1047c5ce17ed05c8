/-
  The document's list: where it lies; which entry may be; how many were born before; condition: it lies as it says.
-/
import Derived.Test.YthcclgnadhcndaaRE2
import Derived.Test.YthcclgnadhcndaaRB
namespace Go.Proofs.Ythcclgnadhcndaa
open Go.RowKit Go.Maps

/-- The document's list: its block, its row. -/
structure DL (B K : Nat) (v : Value) (l : List EP) (w : World) : Prop where
  k : Bq K 28 [v] w
  row : OwnE w B v l
section
variable {w w' : World} {B K : Nat} {v : Value} {l : List EP}
theorem DL.ne (h : DL B K v l w) {x : Nat} (hx : v.ownBlock = some x) : x ≠ K := by
  obtain ⟨_, cs, k⟩ := h.row.bq hx
  exact k.ne h.k (by decide)
theorem DL.same (h : DL B K v l w) (hK : w'.heap[K]? = w.heap[K]?) (hv : ∀ x, v.ownBlock = some x → w'.heap[x]? = w.heap[x]?) : DL B K v l w' := ⟨h.k.same hK, h.row.same hv⟩
theorem DL.below (h : DL B K v l w) (hb : Below w.heap.size w w') : DL B K v l w' := ⟨h.k.below hb, h.row.below hb⟩
theorem DL.keep (h : DL B K v l w) {E : List Nat} (k : Kp E w w') (hK : K ∉ E) (hv : ∀ x, v.ownBlock = some x → x ∉ E) : DL B K v l w' := h.same (k.block K h.k.lt hK) fun x hx => k.block x (h.row.lt hx) (hv x hx)
set_option maxRecDepth 100000 in
set_option maxHeartbeats 4000000 in
theorem docMay (es eg eb ec ed : Int) (ek : Bool) (w : World) : Calls Try.prog 22 #[.agg #[.int .i64 es, .int .u32 eg, .bool ek, .int .u64 eb, .int .u64 ec, .int .u64 ed]] w fun e w' => e = .returned (.bool (decide (okE ⟨es, eg, ek, eb, ec, ed⟩))) ∧ Below w.heap.size w w' := by
  have hA := (Below.refl w.heap.size w).alloc (Nat.le_refl _) (.cells #[.int .i64 es, .int .u32 eg, .bool ek, .int .u64 eb, .int .u64 ec, .int .u64 ed] 34)
  have hB := Lib.hid hA
  clear hA
  by_cases h0 : 0 ≤ es
  · by_cases h1 : es ≤ 255
    · cases ek
      · have hd : decide (okE ⟨es, eg, false, eb, ec, ed⟩) = true := decide_eq_true ⟨h0, by dsimp only; omega, rfl⟩
        rw [hd]
        clear hd
        go_enter Try.func22, Try.ntmps22
        go_wp2_with fail
        go_ret
        exact ⟨rfl, hB.out⟩
      · have hd : decide (okE ⟨es, eg, true, eb, ec, ed⟩) = false := decide_eq_false fun h => by have := h.2.2; cases this
        rw [hd]
        clear hd
        go_enter Try.func22, Try.ntmps22
        go_wp2_with fail
        go_ret
        exact ⟨rfl, hB.out⟩
    · have hd : decide (okE ⟨es, eg, ek, eb, ec, ed⟩) = false := decide_eq_false fun h => by have : es < 256 := h.2.1; omega
      rw [hd]
      clear hd
      go_enter Try.func22, Try.ntmps22
      go_wp2_with fail
      go_ret
      exact ⟨rfl, hB.out⟩
  · have hd : decide (okE ⟨es, eg, ek, eb, ec, ed⟩) = false := decide_eq_false fun h => by have : 0 ≤ es := h.1; omega
    rw [hd]
    clear hd
    go_enter Try.func22, Try.ntmps22
    go_wp2_with fail
    go_ret
    exact ⟨rfl, hB.out⟩
set_option maxRecDepth 100000 in
set_option maxHeartbeats 4000000 in
theorem docBorn {A : Option Addr} {n c : Nat} {b : Int} (hk : Bq K 28 [.slice A n c] w) (h : SeeE w (.slice A n c) l) (hn : n < 100000) : Calls Try.prog 18 #[.pointer (some ⟨K, 0, none⟩), .int .u64 b] w fun e w' => e = .returned (.int .i64 (bornE l b l.length : Nat)) ∧ Below w.heap.size w w' := by
  have HN := Lib.hid h.len
  have HS := Lib.hid h
  have hc := hk.cell 0
  clear h hk
  go_enter Try.func18, Try.ntmps18
  go_wp2_with fail
  go_loopw [5, 6] (fun x j wr => ∃ i m : Nat, i ≤ n ∧ j = .int .i64 (i : Int) ∧ x = .int .i64 (m : Int) ∧ Hid (bornE l b i = m) ∧ m ≤ i ∧ wr = w) (fun _ j _ => n - (intOf j).toNat)
  case atStart => exact ⟨0, 0, Nat.zero_le _, rfl, rfl, Lib.hid rfl, Nat.le_refl _, rfl⟩
  case round =>
    obtain ⟨i, m, hi, rfl, rfl, HM, hmi, rfl⟩ := hrel
    have hge : (0 : Int) ≤ (i : Int) := by omega
    have hgm : (0 : Int) ≤ (m : Int) := by omega
    by_cases hlt : i < n
    · have hlt' : (i : Int) < (n : Int) := by omega
      have hig : i < l.length := by have := HN.out; omega
      obtain ⟨hc0, hc1, g1, o1, rfl⟩ := HS.out.addr (by omega)
      obtain ⟨_, _, _, x3, _, _⟩ := HS.out.six hig
      generalize hev : l.getD i EP.zero = ev at *
      obtain ⟨es, eg, ek, eb, ec, ed⟩ := ev
      dsimp only at x3
      have HE : bornE l b (i + 1) = bornE l b i + (if eb < b then 1 else 0) := by
        show bornE l b i + (if (l.getD i EP.zero).b < b then 1 else 0) = _
        rw [hev]
      rw [HM.out] at HE
      clear hev HM
      by_cases hb : eb < b
      · rw [if_pos hb] at HE
        have HE := Lib.hid HE
        go_wp2_with fail
        go_roundw
        case rel => exact ⟨i + 1, m + 1, by omega, by go_num, by go_num, HE, by omega, by simp⟩
        case measure => simp [intOf]; omega
      · rw [if_neg hb] at HE
        have HE := Lib.hid HE
        go_wp2_with fail
        go_roundw
        case rel => exact ⟨i + 1, m, by omega, by go_num, rfl, HE, by omega, by simp⟩
        case measure => simp [intOf]; omega
    · have hin : i = n := by omega
      have hnl : ¬ (i : Int) < (n : Int) := by omega
      have HH : bornE l b l.length = m := by rw [← HN.out, ← hin]; exact HM.out
      have HH := Lib.hid HH
      clear HM hin
      go_wp2_with fail
      go_ret
      exact ⟨by first | rfl | (rw [HH.out]; rfl), Below.refl _ _⟩
end
end Go.Proofs.Ythcclgnadhcndaa
