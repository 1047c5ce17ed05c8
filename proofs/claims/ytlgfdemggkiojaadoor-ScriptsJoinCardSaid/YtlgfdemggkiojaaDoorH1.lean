/-
  The law's helpers of layer 3: a command as the document has it, without its places; commands that are the same; a slice read as text; condition: what lies lies as it says.
-/
import Derived.Test.YtlgfdemggkiojaaDoorR10
import Derived.Laws.BytesString
import Derived.Stop.BytesEq
namespace Go.Proofs.YtlgfdemggkiojaaDoor
open Go.RowKit

theorem str_of (w : World) (A : Option Addr) (cap : Nat) (l : List UInt8) (h : Sl w A l) : (convert 22 9 (.slice A l.length cap)).run Tryd.prog w = .ok (.string ⟨l.toArray⟩) w := by
  cases A with
  | none =>
    have hl : l = [] := by
      by_cases hl : l = []
      · exact hl
      · obtain ⟨g, off, e, _⟩ := h hl
        cases e
    subst hl
    rw [run_convert_bytes_string w 22 9 5 none _ _ Tryd.underlying22 Tryd.underlying5 Tryd.underlying9]
    rfl
  | some a =>
    refine run_convert_bytes_back (P := Tryd.prog) w 22 9 5 a cap l Tryd.underlying22 Tryd.underlying5 Tryd.underlying9 fun j hj => ?_
    obtain ⟨g, off, e, hb⟩ := h (fun e => by subst e; simp at hj)
    cases e
    rw [Addr.add_lit, hb j hj]
    simp [byt, List.getD_eq_getElem?_getD, List.getElem?_eq_getElem hj]
set_option maxHeartbeats 1000000 in
theorem other_any (k fr u a t s o ky v : Int) (w : World) (h0 : 0 ≤ k) (h1 : k ≤ 255) (o0 : 0 ≤ o) (o1 : o ≤ 255) :
    Calls Tryd.prog 15 #[.agg #[.int .u8 k, .int .i64 fr, .int .i64 u, .int .i64 a, .int .i64 t, .int .u8 s, .int .u8 o, .int .u64 ky, .int .u64 v]] w fun e w' => e = .returned (.agg #[.int .i64 k, .int .i64 fr, .int .i64 u, .int .i64 a, .int .i64 t, .int .u8 s, .int .i64 o, .int .u64 ky, .int .u64 v]) ∧ Below w.heap.size w w' := by
  go_enter Tryd.func15, Tryd.ntmps15
  go_wp2_with fail
  exact bodyPost_ret (v := .agg #[.int .i64 k, .int .i64 fr, .int .i64 u, .int .i64 a, .int .i64 t, .int .u8 s, .int .i64 o, .int .u64 ky, .int .u64 v]) (by simp [results, Tryd.results15, go_sem]) rfl ⟨rfl, below_two _ _ _⟩
theorem other_v (c : Cm) (w : World) (hf : c.Fit) : Calls Tryd.prog 15 #[c.v] w fun e w' => e = .returned c.r ∧ Below w.heap.size w w' := other_any _ _ _ _ _ _ _ _ _ w hf.k0 hf.k1 hf.o0 hf.o1
set_option maxHeartbeats 1000000 in
theorem bare_any (k fr u a t s o ky v : Int) (w : World) :
    Calls Tryd.prog 21 #[.agg #[.int .u8 k, .int .i64 fr, .int .i64 u, .int .i64 a, .int .i64 t, .int .u8 s, .int .u8 o, .int .u64 ky, .int .u64 v]] w fun e w' => e = .returned (.agg #[.int .u8 k, .int .i64 0, .int .i64 0, .int .i64 a, .int .i64 t, .int .u8 s, .int .u8 o, .int .u64 ky, .int .u64 v]) ∧ Below w.heap.size w w' := by
  go_enter Tryd.func21, Tryd.ntmps21
  go_wp2_with fail
  exact bodyPost_ret (v := .agg #[.int .u8 k, .int .i64 0, .int .i64 0, .int .i64 a, .int .i64 t, .int .u8 s, .int .u8 o, .int .u64 ky, .int .u64 v]) (by simp [results, Tryd.results21, go_sem]) rfl ⟨rfl, below_two _ _ _⟩
theorem bare_v (c : Cm) (w : World) : Calls Tryd.prog 21 #[c.v] w fun e w' => e = .returned c.bare.v ∧ Below w.heap.size w w' := bare_any _ _ _ _ _ _ _ _ _ w
theorem same_self (k fr u a t s o ky v : Int) : same9 k fr u a t s o ky v k fr u a t s o ky v = true := decide_eq_true rfl
theorem neq38_self (k fr u a t s o ky v : Int) (w : World) : (binOp .neq 38 (.agg #[.int .i64 k, .int .i64 fr, .int .i64 u, .int .i64 a, .int .i64 t, .int .u8 s, .int .i64 o, .int .u64 ky, .int .u64 v]) (.agg #[.int .i64 k, .int .i64 fr, .int .i64 u, .int .i64 a, .int .i64 t, .int .u8 s, .int .i64 o, .int .u64 ky, .int .u64 v])).run Tryd.prog w = .ok (.bool false) w := by
  rw [neq38, same_self]
  rfl
theorem neq34_self (k fr u a t s o ky v : Int) (w : World) : (binOp .neq 34 (.agg #[.int .u8 k, .int .i64 fr, .int .i64 u, .int .i64 a, .int .i64 t, .int .u8 s, .int .u8 o, .int .u64 ky, .int .u64 v]) (.agg #[.int .u8 k, .int .i64 fr, .int .i64 u, .int .i64 a, .int .i64 t, .int .u8 s, .int .u8 o, .int .u64 ky, .int .u64 v])).run Tryd.prog w = .ok (.bool false) w := by
  rw [neq34, same_self]
  rfl
theorem eql34_self (k fr u a t s o ky v : Int) (w : World) : (binOp .eql 34 (.agg #[.int .u8 k, .int .i64 fr, .int .i64 u, .int .i64 a, .int .i64 t, .int .u8 s, .int .u8 o, .int .u64 ky, .int .u64 v]) (.agg #[.int .u8 k, .int .i64 fr, .int .i64 u, .int .i64 a, .int .i64 t, .int .u8 s, .int .u8 o, .int .u64 ky, .int .u64 v])).run Tryd.prog w = .ok (.bool true) w := by
  rw [eql34, same_self]
end Go.Proofs.YtlgfdemggkiojaaDoor
