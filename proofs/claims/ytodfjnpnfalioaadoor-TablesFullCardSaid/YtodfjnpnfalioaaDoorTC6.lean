/-
  Who leaves a full table makes room for one; which threads are joined of a full one; no condition.
-/
import Derived.Test.YtodfjnpnfalioaaDoorTC5
namespace Go.Proofs.YtodfjnpnfalioaaDoor
open Go.RowKit Go.Maps

section
variable {n sh i t ow : Int} {V V' : Ad → Int}
theorem took_cnt (ht : 0 ≤ t ∧ t < 16) (h0 : V (adT t 0) = 0) (how : 0 < ow) (k : Took V V' t ow) (hi : 0 ≤ i ∧ i < 4) : cnt V' i = cnt V i + (if i = t / 4 then 1 else 0) := by
  rw [cnt_turn ht (fun t' a b c => k.same_T ht ⟨a, b⟩ (by decide) c) hi, occ_1.2 (by rw [k.own]; omega), occ_0.2 h0]
  rfl
theorem again (T : Tab n sh V) (F : Full n sh V) (ht : 0 ≤ t ∧ t < 4 * n) (hs : t / 4 ≠ sh) :
    V (adT t 0) ≠ 0 ∧ V (adT t 1) = 0 ∧ Tab n sh (leftV V t) ∧ Room (leftV V t) (t / 4) ∧ (∀ l, 0 ≤ l → l < t / 4 → ¬ Room (leftV V t) l) ∧ leftV V t (adT (4 * (t / 4) + t % 4) 0) = 0 ∧ (∀ l, 0 ≤ l → l < t % 4 → leftV V t (adT (4 * (t / 4) + l) 0) ≠ 0) ∧
    ∀ V2, 0 < ow → Took (leftV V t) V2 t ow → Tab n sh V2 ∧ Full n sh V2 := by
  have hn := T.n14
  have h0 := F.has ht.1 ht.2 hs
  obtain ⟨T1, h1, h2, h3⟩ := T.left ht hs h0
  have e4 : 4 * (t / 4) + t % 4 = t := by omega
  refine ⟨h0, T.I t ht.1 (by omega), T1, (T1.room (by omega) (by omega)).2 ⟨hs, ?_⟩, fun l a b hr => ?_, by rw [e4]; exact h1, fun l a b => ?_, fun V2 how k => ?_⟩
  · rw [h3 _ (by omega) (by omega), if_pos rfl, F _ (by omega) (by omega) hs]
    decide
  · have hl := (T1.room a (by omega)).1 hr
    rw [h3 l a (by omega), if_neg (by omega), F l a (by omega) hl.1] at hl
    omega
  · rw [h2 _ (by omega) (by omega) (by omega)]
    exact F.has (by omega) (by omega) (by omega)
  · obtain ⟨T2, _⟩ := T1.took ht hs h1 how k
    refine ⟨T2, fun i a b c => ?_⟩
    rw [took_cnt ⟨ht.1, by omega⟩ h1 how k ⟨a, by omega⟩, h3 i a (by omega), F i a b c]
    split <;> rfl
/-- Of a full table just those threads are joined that may be. -/
theorem Full.occ (T : Tab n sh V) (F : Full n sh V) (ht : 0 ≤ t ∧ t < 16) : occ V t = 1 ↔ t < 4 * n ∧ t / 4 ≠ sh := by
  constructor
  · intro h
    have h0 := occ_1.1 h
    refine ⟨Int.lt_of_not_ge fun h1 => h0 (T.out t ht.1 ht.2 (.inl h1)), fun h1 => h0 (T.out t ht.1 ht.2 (.inr h1))⟩
  · rintro ⟨h1, h2⟩
    exact occ_1.2 (F.has ht.1 h1 h2)
theorem full_of (T : Tab n sh V) (h : rooms n sh ≤ tot n sh V) : Full n sh V := fun _ a b c => tot_full T.n14 T.s h a b c
end
/-- The numbers of the law's. -/
theorem full_nums {a b : Int} (ha : U8 a) (hb : U8 b) : ∃ r n n1 n4 sh : Nat, r < 4 ∧ n = r + 1 ∧ n1 = n + 1 ∧ n4 = n * 4 ∧ sh ≤ n ∧ Int.tmod a 4 = (r : Int) ∧ Int.tmod b (n1 : Int) = (sh : Int) := by
  obtain ⟨a0, a1⟩ := ha
  obtain ⟨b0, b1⟩ := hb
  have k1 := Int.emod_nonneg b (b := (((a % 4).toNat + 1 + 1 : Nat) : Int)) (by omega)
  have k2 := Int.emod_lt_of_pos b (b := (((a % 4).toNat + 1 + 1 : Nat) : Int)) (by omega)
  refine ⟨(a % 4).toNat, (a % 4).toNat + 1, (a % 4).toNat + 1 + 1, ((a % 4).toNat + 1) * 4, (b % (((a % 4).toNat + 1 + 1 : Nat) : Int)).toNat, by omega, rfl, rfl, rfl, by omega, ?_, ?_⟩
  · rw [Int.tmod_eq_emod_of_nonneg a0]; omega
  · rw [Int.tmod_eq_emod_of_nonneg b0]; omega
def z16 : Array Value := Array.replicate 16 (.bool false)
theorem mk16 (w : World) : (Instr.makeSlice 58 (.int .i64 16) (.int .i64 16)).run Tryd.prog w = .ok (.slice (some ⟨w.heap.size, 0, none⟩) 16 16) (w.alloc (.cells z16 4)) := by kernel_rfl
theorem z16_seen : z16 = (seenL fun _ => false).toArray := by rfl
theorem Me.row {W : World} {p b : Nat} {V : Ad → Int} {k : Int} {w : World} (h : Me W p b V k w) (h1 : 1 < W.heap.size) : Fs W p b w.heap.size V (fun _ => false) k (w.alloc (.cells z16 4)) := by
  have h2 := h.below ((Below.refl _ _).alloc (Nat.le_refl _) (.cells z16 4))
  exact ⟨h2.mem, h2.low, h2.b0, h2.p0, h.low.size, by rw [z16_seen]; exact Bq.new w _ _, h1⟩
theorem W1_of {w : World} (hL : Lay w) (hM : LayM w) : 1 < w.heap.size := by have := hL.1; have := hM.1; omega
end Go.Proofs.YtodfjnpnfalioaaDoor
