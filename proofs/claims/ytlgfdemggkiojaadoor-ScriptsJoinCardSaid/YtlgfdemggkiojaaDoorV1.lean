/-
  The program's Parse of layer 3: all commands, in memory of their own, with no room behind; conditions: the table of sizes reads as the program lays it; the bytes lie as it says.
-/
import Derived.Test.YtlgfdemggkiojaaDoorI1
namespace Go.Proofs.YtlgfdemggkiojaaDoor
open Go.RowKit

/-- What stands between two rounds of the loop: block B has the slice, whose row is none of the loop's two blocks. -/
structure Told (w0 : World) (B D : Nat) (pre : List Cm) (W : World) : Prop where
  ex : ∃ v, Boxed W B 25 v ∧ W.ownsRow (B + 1) 34 9 v pre.length (flatV pre) ∧ v.ownBlock ≠ some D ∧ v.ownBlock ≠ some (D + 1)
  low : Below B w0 W
section
variable {w0 X Y : World} {B D : Nat} {pre : List Cm}
theorem Told.turned (h : Told w0 B D pre X) (ht : Turned D X Y) (hBD : B < D) : Told w0 B D pre Y := by
  obtain ⟨v, hb, ho, h1, h2⟩ := h.ex
  refine ⟨⟨v, (ht.block B hb.lt (by omega) (by omega)).trans hb, own_same ho fun g hg => ?_, h1, h2⟩, ⟨ht.os.trans h.low.os, ht.tape.trans h.low.tape, ht.output.trans h.low.output, Nat.le_trans h.low.size ht.size, fun k hk => (ht.block k (by have := hb.lt; omega) (by omega) (by omega)).trans (h.low.block k hk)⟩⟩
  exact ht.block g (ho.lt g hg).2 (fun e => h1 (by rw [hg, e])) (fun e => h2 (by rw [hg, e]))
theorem Told.spare {N : Nat} (h : Told w0 B D pre X) (ht : Spare (RowOf B) N X Y) (hN : B < N) : Told w0 B D pre Y := by
  obtain ⟨v, hb, ho, h1, h2⟩ := h.ex
  refine ⟨⟨v, (ht.low B hN hb.lt).trans hb, own_same ho fun g hg => ?_, h1, h2⟩, ⟨ht.os.trans h.low.os, ht.tape.trans h.low.tape, ht.output.trans h.low.output, Nat.le_trans h.low.size ht.size, fun k hk => (ht.low k (by omega) (by have := hb.lt; omega)).trans (h.low.block k hk)⟩⟩
  exact ht.row g ⟨v, hb.cell, hg⟩ (ho.lt g hg).2
theorem Told.grown (h : Told w0 B D pre X) (hg : Grown X Y) : Told w0 B D pre Y := by
  obtain ⟨v, hb, ho, h1, h2⟩ := h.ex
  exact ⟨⟨v, grown_obj hg hb, own_low ho hg, h1, h2⟩, h.low.trans (Below.mono hg (Nat.le_of_lt hb.lt))⟩
/-- One round: a command is appended, the slice laid anew. -/
theorem Told.step {v v' : Value} {w1 w2 : World} {c : Cm} (hb : Boxed X B 25 v) (h1 : v.ownBlock ≠ some D) (h2 : v.ownBlock ≠ some (D + 1)) (ho : X.ownsRow (B + 1) 34 9 v pre.length (flatV pre)) (hlow : Below B w0 X) (hBD : B < D) (hD : D + 1 < X.heap.size)
    (e1 : Grown X w1) (ho2 : w2.ownsRow (B + 1) 34 9 v' (pre.length + 1) (flatV pre ++ vC c)) (hg : w1.grownBy w2 v.ownBlock) (hat : v'.ownBlock = v.ownBlock ∨ v'.ownBlock = some w1.heap.size) :
    Told w0 B D (pre ++ [c]) (w2.setCell ⟨B, 0, none⟩ v') ∧ Kept B X (w2.setCell ⟨B, 0, none⟩ v') ∧
      (w2.setCell ⟨B, 0, none⟩ v').heap[D]? = X.heap[D]? ∧ (w2.setCell ⟨B, 0, none⟩ v').heap[D + 1]? = X.heap[D + 1]? := by
  have hBl := hb.lt
  have s1 := e1.size
  have s2 := hg.size
  have nB : some B ≠ v.ownBlock := fun e => by have := (ho.lt B e.symm).1; omega
  have hbox2 : Boxed w2 B 25 v := (hg.block B (by omega) nB).trans (grown_obj e1 hb)
  have far : ∀ k, k < X.heap.size → k ≠ B → some k ≠ v.ownBlock → (w2.setCell ⟨B, 0, none⟩ v').heap[k]? = X.heap[k]? := fun k hk hkB hkv =>
    (Below.heap_setCell w2 ⟨B, 0, none⟩ v' k hkB).trans ((hg.block k (by omega) hkv).trans (e1.block k hk))
  have hbox3 : Boxed (w2.setCell ⟨B, 0, none⟩ v') B 25 v' := one_setCell hbox2
  have vlt : ∀ k, v'.ownBlock = some k → v.ownBlock = some k ∨ X.heap.size ≤ k := fun k hk => by
    rcases hat with e | e
    · exact .inl (e ▸ hk)
    · rw [hk] at e
      injection e with e
      exact .inr (by omega)
  refine ⟨⟨⟨v', hbox3, ?_, fun e => ?_, fun e => ?_⟩, ?_⟩, ⟨?_, fun _ k o hko hoc hkB hr => ?_, fun _ k hk => ?_⟩, ?_, ?_⟩
  · rw [List.length_append, flatV_snoc]
    refine own_same ho2 fun g hgv => Below.heap_setCell w2 ⟨B, 0, none⟩ v' g fun e => ?_
    have hge : g = B := e
    have := (ho2.lt g hgv).1
    omega
  · rcases vlt D e with e | e
    · exact h1 e
    · omega
  · rcases vlt (D + 1) e with e | e
    · exact h2 e
    · omega
  · refine ⟨hg.os.trans ((Below.os e1).trans hlow.os), hg.tape.trans ((Below.tape e1).trans hlow.tape), hg.output.trans ((Below.output e1).trans hlow.output), by simp; have := hlow.size; omega, fun k hk => ?_⟩
    exact (far k (by omega) (by omega) fun e => by have := (ho.lt k e.symm).1; omega).trans (hlow.block k hk)
  · simp
    omega
  · exact (far k (Array.getElem?_eq_some_iff.1 hko).1 hkB fun e => hr ⟨v, hb.cell, e.symm⟩).trans hko
  · obtain ⟨u, hu, huk⟩ := hk
    rw [hbox3.cell] at hu
    cases hu
    rcases vlt k huk with e | e
    · exact .inl ⟨v, hb.cell, e⟩
    · exact .inr e
  · exact far D (by omega) (by omega) (Ne.symm h1)
  · exact far (D + 1) hD (by omega) (Ne.symm h2)
end
theorem cmds_any (A : Option Addr) (n cap : Nat) (w : World) : Calls Tryd.prog 22 #[.slice A n cap] w fun e w' => e = .returned (.func (.func 33) #[] #[.pointer (some ⟨w.heap.size, 0, none⟩)]) ∧ w.alloc (.cells #[.slice A n cap] 22) = w' := by
  go_enter Tryd.func22, Tryd.ntmps22
  go_wp2
  go_ret
  exact ⟨rfl, rfl⟩
theorem clip_cmds (A : Option Addr) (n cap : Nat) (w : World) (hn : n ≤ cap) : Calls Tryd.prog 23 #[.slice A n cap] w fun e w' => e = .returned (.slice A n n) ∧ w = w' := by
  go_enter Tryd.func23, Tryd.ntmps23
  go_wp2
  go_ret
  exact ⟨rfl, rfl⟩
theorem clip_bytes (A : Option Addr) (n cap : Nat) (w : World) (hn : n ≤ cap) : Calls Tryd.prog 32 #[.slice A n cap] w fun e w' => e = .returned (.slice A n n) ∧ w = w' := by
  go_enter Tryd.func32, Tryd.ntmps32
  go_wp2
  go_ret
  exact ⟨rfl, rfl⟩
end Go.Proofs.YtlgfdemggkiojaaDoor
