/-
  Package frees: what each line of a Pop and of a Push does; condition: the tables as laid, the operation and the memory lie as they say, numbers of their kinds.
-/
import Derived.Test.YtffkjdmpeeagoaaDoorF1
namespace Go.Proofs.YtffkjdmpeeagoaaDoor
open Go.RowKit Go.Maps

/-- The address of the list's head, and of a slot's link. -/
def adF : Ad := ⟨0, 0, 0, by decide, by decide, by decide⟩
def I64w (s : Int) : Prop := (Lit.int .i64 s).wf = true
def adL (s : Int) (h : I64w s) : Ad := ⟨9, s, 2, by decide, h, by decide⟩
theorem i64w_in {x : Int} (h0 : -1000000 ≤ x) (h1 : x ≤ 1000000) : I64w x := by
  unfold I64w
  simp only [Lit.wf, IntKind.min, IntKind.max, IntKind.signed, IntKind.bits]
  simp
  omega
theorem slot_in (h : Int) : -1 ≤ wSlot h ∧ wSlot h ≤ 255 := by
  have h1 := fld_nonneg h 0 16
  unfold wSlot slotS
  generalize fld h 0 16 = x at *
  split <;> omega
theorem i64w_slot (h : Int) : I64w (wSlot h) := i64w_in (by have := slot_in h; omega) (by have := slot_in h; omega)
theorem PM.val_u64 {p b n : Nat} {D : DataW Unit} {st ak k a f was is : Int} {done : Bool} {w : World} (h : PM p b n D st ak k a f was is done w) (x : Ad) : U64 (valD D x) := by
  have := (h.lookup x).2
  simp only [Lit.wf, IntKind.min, IntKind.max, IntKind.signed, IntKind.bits] at this
  simp at this
  exact ⟨by omega, by omega⟩
theorem u64w {x : Int} (h : U64 x) : (Lit.int .u64 x).wf = true := by
  obtain ⟨h0, h1⟩ := h
  simp [Lit.wf, IntKind.min, IntKind.max, IntKind.signed, IntKind.bits]
  omega
theorem p48 : (2 : Int) ^ 48 = 281474976710656 := by decide
theorem p16 : (2 : Int) ^ 16 = 65536 := by decide
theorem head_u64 (s t : Int) : U64 (headW s t) := by
  have h0 := numS_in s
  have a := Int.emod_lt_of_pos t (two_pow_pos 48)
  have b := Int.emod_nonneg t (b := 2 ^ 48) (by decide)
  unfold headW pw
  rw [p48, p16] at *
  have h1 := Int.emod_lt_of_pos (numS s) (show (0 : Int) < 65536 by decide)
  have h2 := Int.emod_nonneg (numS s) (b := 65536) (by decide)
  have h3 : (2 : Int) ^ 0 = 1 := by decide
  rw [h3]
  exact ⟨by omega, by omega⟩
theorem Lay.same3 {w w' : World} (h : Lay w) (hs : w.heap.size ≤ w'.heap.size) (hb : w'.heap[0]? = w.heap[0]?) : Lay w' :=
  ⟨Nat.lt_of_lt_of_le h.1 hs, fun k hk => (World.cell?_of_block (a := ⟨0, k, none⟩) hb).trans (h.2 k hk)⟩
theorem PM.keep3 {p b n : Nat} {D : DataW Unit} {st ak k a f was is : Int} {done : Bool} {X Y : World} (h : PM p b n D st ak k a f was is done X) (hp : Y.heap[p]? = X.heap[p]?) (hb : Y.heap[b]? = X.heap[b]?) : PM p b n D st ak k a f was is done Y := by
  obtain ⟨h1, es, clock, hm, rest⟩ := h
  exact ⟨hp.trans h1, es, clock, hb.trans hm, rest⟩
theorem PM.setQ {p b q n : Nat} {D : DataW Unit} {st ak k a f was is : Int} {done : Bool} {X : World} (h : PM p b n D st ak k a f was is done X) (hp : q ≠ p) (hb : q ≠ b) (i : Nat) (v : Value) : PM p b n D st ak k a f was is done (X.setCell ⟨q, i, none⟩ v) :=
  h.keep3 (Below.heap_setCell X ⟨q, i, none⟩ v p (Ne.symm hp)) (Below.heap_setCell X ⟨q, i, none⟩ v b (Ne.symm hb))

section
variable {t : TypeId} {p b q n : Nat} {nx h to : Int} {D : DataW Unit} {st ak k a f was is : Int} {done : Bool} {w w' : World}
end
end Go.Proofs.YtffkjdmpeeagoaaDoor
