/-
  The document's long and number of layer 3: what each gives back; condition: the bytes lie as it says.
-/
import Derived.Test.YtlgfdemggkiojaaDoorF6
import Derived.Test.YtlgfdemggkiojaaDoorPlain3
namespace Go.Proofs.YtlgfdemggkiojaaDoor
open Go.RowKit

def longC (k : Int) : Int := if k = 3 then 1 else if k = 4 then 1 else if k = 5 then 1 else if k = 6 then 1 else if k = 9 then 4 else 0
set_option maxHeartbeats 1000000 in
theorem long_any (k : Int) (w : World) : Calls Tryd.prog 26 #[.int .i64 k] w fun e w' => e = .returned (.int .i64 (longC k)) ∧ w = w' := by
  go_enter Tryd.func26, Tryd.ntmps26
  go_wp2
  all_goals
    go_ret
    refine ⟨ret_int ?_, rfl⟩
    simp only [beq_iff_eq, beq_eq_false_iff_ne, ne_eq] at *
    unfold longC
    simp [*]
theorem long_is (k r : Int) (h : longC k = r) (w : World) : Calls Tryd.prog 26 #[.int .i64 k] w fun e w' => e = .returned (.int .i64 r) ∧ w = w' := by
  rw [← h]
  exact long_any k w
set_option maxHeartbeats 1000000 in
theorem number_out (A : Option Addr) (m cap : Nat) (i : Int) (w : World) (hi : (m : Int) ≤ i) :
    Calls Tryd.prog 27 #[.slice A m cap, .int .i64 i] w fun e w' => e = .returned (.int .i64 256) ∧ w = w' := by
  go_enter Tryd.func27, Tryd.ntmps27
  go_wp2
  go_ret
  exact ⟨rfl, rfl⟩
set_option maxHeartbeats 1000000 in
theorem number_in (g off m cap j : Nat) (x : Int) (w : World) (hj : j < m) (hc : w.cell? ⟨g, off + j, none⟩ = some (.int .u8 x)) (h0 : 0 ≤ x) (h1 : x ≤ 255) :
    Calls Tryd.prog 27 #[.slice (some ⟨g, off, none⟩) m cap, .int .i64 j] w fun e w' => e = .returned (.int .i64 x) ∧ w = w' := by
  go_enter Tryd.func27, Tryd.ntmps27
  go_wp2
  go_ret
  exact ⟨rfl, rfl⟩
theorem number_any (g off cap : Nat) (t : List UInt8) (i : Int) (j : Nat) (hij : i = j) (w : World) (hb : Bys w g off t) :
    Calls Tryd.prog 27 #[.slice (some ⟨g, off, none⟩) t.length cap, .int .i64 i] w fun e w' => e = .returned (.int .i64 (num t j)) ∧ w = w' := by
  subst hij
  by_cases hj : j < t.length
  · have hbd := byt_bd t j
    rw [num_at hj]
    exact number_in g off _ cap j _ w hj (hb j hj) hbd.1 hbd.2
  · rw [num_out hj]
    exact number_out _ _ cap _ w (by omega)
/-- A command, as the document has it. -/
def Cm.r (c : Cm) : Value := .agg #[.int .i64 c.kind, .int .i64 c.fr, .int .i64 c.to, .int .i64 c.at_, .int .i64 c.thr, .int .u8 c.sch, .int .i64 c.op, .int .u64 c.key, .int .u64 c.val]
theorem below_three (w : World) (x y z : Obj) : Below w.heap.size w (((w.alloc x).alloc y).alloc z) := (below_two w x y).alloc (by simp; omega) z
def noCmdR : Value := .tuple #[.agg #[.int .i64 0, .int .i64 0, .int .i64 0, .int .i64 0, .int .i64 0, .int .u8 0, .int .i64 0, .int .u64 0, .int .u64 0], .bool false]
def someCmdR (c : Cm) : Value := .tuple #[c.r, .bool true]
set_option maxHeartbeats 1000000 in
theorem rnext_out (A : Option Addr) (n cap : Nat) (at_ : Int) (w : World) (hn : n ≤ cap) (hc : cap ≤ 9223372036854775807) (h : ¬ (0 ≤ at_ ∧ at_ < ((min n 65536 : Nat) : Int))) :
    Calls Tryd.prog 13 #[.slice A n cap, .int .i64 at_] w fun e w' => e = .returned noCmdR ∧ Below w.heap.size w w' := by
  have h2 : at_ < 0 ∨ 0 ≤ at_ ∧ ((min n 65536 : Nat) : Int) ≤ at_ := by omega
  clear h
  by_cases hm : n ≤ 65536
  · rw [Nat.min_eq_left hm] at h2
    rcases h2 with h2 | ⟨h2, h3⟩
    all_goals
      go_enter Tryd.func13, Tryd.ntmps13
      go_wp2_with fail
      exact bodyPost_ret (v := noCmdR) (by simp [results, Tryd.results13, go_sem, noCmdR]) rfl ⟨rfl, (Below.refl _ _).alloc (Nat.le_refl _) _⟩
  · rw [Nat.min_eq_right (by omega)] at h2
    have hm' : 65536 < n := by omega
    clear hm
    rcases h2 with h2 | ⟨h2, h3⟩
    all_goals
      go_enter Tryd.func13, Tryd.ntmps13
      go_wp2_with fail
      exact bodyPost_ret (v := noCmdR) (by simp [results, Tryd.results13, go_sem, noCmdR]) rfl ⟨rfl, (Below.refl _ _).alloc (Nat.le_refl _) _⟩
end Go.Proofs.YtlgfdemggkiojaaDoor
