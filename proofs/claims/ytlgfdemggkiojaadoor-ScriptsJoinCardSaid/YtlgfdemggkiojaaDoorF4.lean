/-
  The program's code, read and decode of layer 3, of whatever command and bytes; conditions: the table of sizes reads as the program lays it; the bytes lie as it says.
-/
import Derived.Test.YtlgfdemggkiojaaDoorF3
namespace Go.Proofs.YtlgfdemggkiojaaDoor
open Go.RowKit

/-- A command, as the program has it. -/
def Cm.v (c : Cm) : Value := .agg #[.int .u8 c.kind, .int .i64 c.fr, .int .i64 c.to, .int .i64 c.at_, .int .i64 c.thr, .int .u8 c.sch, .int .u8 c.op, .int .u64 c.key, .int .u64 c.val]
/-- Bytes that lie one behind the other. -/
def Bys (w : World) (g off : Nat) (b : List UInt8) : Prop := ∀ i, i < b.length → w.cell? ⟨g, off + i, none⟩ = some (.int .u8 (byt b i))
theorem Bys.below {w w' : World} {g off : Nat} {b : List UInt8} (h : Bys w g off b) (hb : Below w.heap.size w w') : Bys w' g off b :=
  fun i hi => (hb.cell (p := ⟨g, off + i, none⟩) (World.block_lt_of_cell? w _ (h i hi))).trans (h i hi)
theorem byt_drop (b : List UInt8) (p i : Nat) : byt (b.drop p) i = byt b (p + i) := by
  unfold byt
  rw [List.getD_eq_getElem?_getD, List.getD_eq_getElem?_getD, List.getElem?_drop]
theorem byt_take (b : List UInt8) (p i : Nat) (h : i < p) : byt (b.take p) i = byt b i := by
  unfold byt
  rw [List.getD_eq_getElem?_getD, List.getD_eq_getElem?_getD, List.getElem?_take_of_lt h]
theorem Bys.drop {w : World} {g off : Nat} {b : List UInt8} (h : Bys w g off b) (p : Nat) : Bys w g (off + p) (b.drop p) := fun i hi => by
  rw [List.length_drop] at hi
  rw [byt_drop, Nat.add_assoc]
  exact h (p + i) (by omega)
theorem Bys.take {w : World} {g off : Nat} {b : List UInt8} (h : Bys w g off b) (p : Nat) : Bys w g off (b.take p) := fun i hi => by
  rw [List.length_take] at hi
  rw [byt_take _ _ _ (by omega)]
  exact h i (by omega)
/-- The table of sizes lies in block 0. -/
def Lay (w : World) : Prop := 0 < w.heap.size ∧ ∀ k : Nat, k < 10 → w.cell? ⟨0, k, none⟩ = some (.int .i64 (sizeOf' (k : Int)))
theorem Lay.below {w w' : World} (h : Lay w) (hb : Below w.heap.size w w') : Lay w' :=
  ⟨Nat.lt_of_lt_of_le h.1 hb.size, fun k hk => (hb.cell (p := ⟨0, k, none⟩) h.1).trans (h.2 k hk)⟩
theorem Lay.at_ {w : World} (h : Lay w) {k : Int} (h0 : 0 ≤ k) (h9 : k ≤ 9) : w.cell? ⟨0, k.toNat, none⟩ = some (.int .i64 (sizeOf' k)) := by
  have := h.2 k.toNat (by omega)
  rwa [show ((k.toNat : Nat) : Int) = k by omega] at this

theorem returned_of {x y : Value} {w w' : World} {e : Ending} (h : e = .returned x ∧ Below w.heap.size w w') (hxy : x = y) : e = .returned y ∧ Below w.heap.size w w' := by rw [← hxy]; exact h
/-- The five bytes of a command, zeros behind. -/
def codeV (c : Cm) : Value := .agg #[.int .u8 (byt (codeC c) 0), .int .u8 (byt (codeC c) 1), .int .u8 (byt (codeC c) 2), .int .u8 (byt (codeC c) 3), .int .u8 (byt (codeC c) 4)]
theorem lo_small {x : Int} (h0 : 0 ≤ x) (h1 : x ≤ 255) : ((lo x).toNat : Int) = x := by rw [lo_toNat]; omega
theorem code_any (c : Cm) (w : World) (h1 : 1 ≤ c.kind) (h9 : c.kind ≤ 9) (s0 : 0 ≤ c.sch) (s1 : c.sch ≤ 255) (o0 : 0 ≤ c.op) (o1 : c.op ≤ 255) :
    Calls Tryd.prog 28 #[c.v] w fun e w' => e = .returned (codeV c) ∧ Below w.heap.size w w' := by
  obtain ⟨k, fr, to, a, t, s, o, ky, v⟩ := c
  simp only at h1 h9 s0 s1 o0 o1
  rcases kind_cases h1 h9 with rfl | rfl | rfl | rfl | rfl | rfl | rfl | rfl | rfl
  · exact (code1 fr to a t s o ky v w).mono fun e w' h => returned_of h (by simp [codeV, codeC, byt, lo_toNat])
  · exact (code2 fr to a t s o ky v w).mono fun e w' h => returned_of h (by simp [codeV, codeC, byt, lo_toNat])
  · exact (code3 fr to a t s o ky v w).mono fun e w' h => returned_of h (by simp [codeV, codeC, byt, lo_toNat])
  · exact (code4 fr to a t s o ky v w).mono fun e w' h => returned_of h (by simp [codeV, codeC, byt, lo_toNat, lo_small s0 s1])
  · exact (code5 fr to a t s o ky v w).mono fun e w' h => returned_of h (by simp [codeV, codeC, byt, lo_toNat])
  · exact (code6 fr to a t s o ky v w).mono fun e w' h => returned_of h (by simp [codeV, codeC, byt, lo_toNat])
  · exact (code7 fr to a t s o ky v w).mono fun e w' h => returned_of h (by simp [codeV, codeC, byt, lo_toNat])
  · exact (code8 fr to a t s o ky v w).mono fun e w' h => returned_of h (by simp [codeV, codeC, byt, lo_toNat])
  · exact (code9 fr to a t s o ky v w).mono fun e w' h => returned_of h (by simp [codeV, codeC, byt, lo_toNat, lo_small o0 o1])
theorem read_any (k : Int) (g off cap : Nat) (b : List UInt8) (w : World) (h1 : 0 ≤ k) (h9 : k ≤ 9) (hl : sizeOf' k ≤ b.length) (hb : Bys w g off b) :
    Calls Tryd.prog 30 #[.int .u8 k, .slice (some ⟨g, off, none⟩) b.length cap] w fun e w' => e = .returned (readC k b).v ∧ Below w.heap.size w w' := by
  have b0 := byt_bd b 0
  have b1 := byt_bd b 1
  have b3 := byt_bd b 3
  have b4 := byt_bd b 4
  rcases (show k = 0 ∨ 1 ≤ k by omega) with rfl | h1'
  · exact read0 _ _ cap w
  rcases kind_cases h1' h9 with rfl | rfl | rfl | rfl | rfl | rfl | rfl | rfl | rfl
  · exact read1 g off _ cap _ w hl (hb 0 hl) b0.1 b0.2
  · exact read2 _ _ cap w
  · exact read3 g off _ cap _ w hl (hb 1 hl) b1.1 b1.2
  · exact read4 g off _ cap _ w hl (hb 1 hl)
  · exact read5 g off _ cap _ w hl (hb 1 hl) b1.1 b1.2
  · exact read6 g off _ cap _ w hl (hb 1 hl) b1.1 b1.2
  · exact read7 _ _ cap w
  · exact read8 _ _ cap w
  · have hl' : 5 ≤ b.length := hl
    exact read9 g off _ cap _ _ _ _ w hl' (hb 1 (by omega)) b1.1 b1.2 (hb 2 (by omega)) (hb 3 (by omega)) b3.1 b3.2 (hb 4 (by omega)) b4.1 b4.2
end Go.Proofs.YtlgfdemggkiojaaDoor
