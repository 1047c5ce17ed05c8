/-
  The document's Bytes of layer 3: a command's bytes, in memory of their own; no condition but that its small numbers fit their kinds.
-/
import Derived.Test.YtlgfdemggkiojaaDoorF9
namespace Go.Proofs.YtlgfdemggkiojaaDoor
open Go.RowKit

/-- What Bytes hands back. -/
def RBytes (w0 : World) (bs : List UInt8) (e : Ending) (W' : World) : Prop :=
  ∃ g, e = .returned (.slice (some ⟨g, 0, none⟩) bs.length bs.length) ∧ W'.heap[g]? = some (.cells (bs.map bC).toArray 5 (0, 0)) ∧ Below w0.heap.size w0 W'
theorem rbytes_mk {w : World} {x : Obj} {cs : Array Value} {e : Ending} {w' : World} (bs : List UInt8) (h : e = .returned (.slice (some ⟨w.heap.size + 1, 0, none⟩) bs.length bs.length) ∧ (w.alloc x).alloc (.cells cs 5) = w') (hcs : cs = (bs.map bC).toArray) : RBytes w bs e w' := by
  obtain ⟨rfl, rfl⟩ := h
  subst hcs
  have hq := heap_alloc_new (w.alloc x) (.cells (bs.map bC).toArray 5)
  rw [World.size_alloc] at hq
  exact ⟨_, rfl, hq, below_two _ _ _⟩
def rObj (k fr u a t s o ky v : Int) : Obj := .cells #[.int .i64 k, .int .i64 fr, .int .i64 u, .int .i64 a, .int .i64 t, .int .u8 s, .int .i64 o, .int .u64 ky, .int .u64 v] 38
set_option maxHeartbeats 1000000 in
theorem rb1 (fr u a t s o ky v : Int) (w : World) :
    Calls Tryd.prog 31 #[.agg #[.int .i64 1, .int .i64 fr, .int .i64 u, .int .i64 a, .int .i64 t, .int .u8 s, .int .i64 o, .int .u64 ky, .int .u64 v]] w fun e w' => e = .returned (.slice (some ⟨w.heap.size + 1, 0, none⟩) 1 1) ∧ (w.alloc (rObj 1 fr u a t s o ky v)).alloc (.cells #[.int .u8 (a % 256)] 5) = w' := by
  unfold rObj
  go_enter Tryd.func31, Tryd.ntmps31
  go_wp2
  go_ret
  exact ⟨rfl, rfl⟩
set_option maxHeartbeats 1000000 in
theorem rb2 (fr u a t s o ky v : Int) (w : World) :
    Calls Tryd.prog 31 #[.agg #[.int .i64 2, .int .i64 fr, .int .i64 u, .int .i64 a, .int .i64 t, .int .u8 s, .int .i64 o, .int .u64 ky, .int .u64 v]] w fun e w' => e = .returned (.slice (some ⟨w.heap.size + 1, 0, none⟩) 1 1) ∧ (w.alloc (rObj 2 fr u a t s o ky v)).alloc (.cells #[.int .u8 128] 5) = w' := by
  unfold rObj
  go_enter Tryd.func31, Tryd.ntmps31
  go_wp2
  go_ret
  exact ⟨rfl, rfl⟩
set_option maxHeartbeats 1000000 in
theorem rb3 (fr u a t s o ky v : Int) (w : World) :
    Calls Tryd.prog 31 #[.agg #[.int .i64 3, .int .i64 fr, .int .i64 u, .int .i64 a, .int .i64 t, .int .u8 s, .int .i64 o, .int .u64 ky, .int .u64 v]] w fun e w' => e = .returned (.slice (some ⟨w.heap.size + 1, 0, none⟩) 2 2) ∧ (w.alloc (rObj 3 fr u a t s o ky v)).alloc (.cells #[.int .u8 129, .int .u8 (t % 256)] 5) = w' := by
  unfold rObj
  go_enter Tryd.func31, Tryd.ntmps31
  go_wp2
  go_ret
  exact ⟨rfl, rfl⟩
set_option maxHeartbeats 1000000 in
theorem rb4 (fr u a t s o ky v : Int) (w : World) :
    Calls Tryd.prog 31 #[.agg #[.int .i64 4, .int .i64 fr, .int .i64 u, .int .i64 a, .int .i64 t, .int .u8 s, .int .i64 o, .int .u64 ky, .int .u64 v]] w fun e w' => e = .returned (.slice (some ⟨w.heap.size + 1, 0, none⟩) 2 2) ∧ (w.alloc (rObj 4 fr u a t s o ky v)).alloc (.cells #[.int .u8 130, .int .u8 s] 5) = w' := by
  unfold rObj
  go_enter Tryd.func31, Tryd.ntmps31
  go_wp2
  go_ret
  exact ⟨rfl, rfl⟩
set_option maxHeartbeats 1000000 in
theorem rb5 (fr u a t s o ky v : Int) (w : World) :
    Calls Tryd.prog 31 #[.agg #[.int .i64 5, .int .i64 fr, .int .i64 u, .int .i64 a, .int .i64 t, .int .u8 s, .int .i64 o, .int .u64 ky, .int .u64 v]] w fun e w' => e = .returned (.slice (some ⟨w.heap.size + 1, 0, none⟩) 2 2) ∧ (w.alloc (rObj 5 fr u a t s o ky v)).alloc (.cells #[.int .u8 131, .int .u8 (a % 256)] 5) = w' := by
  unfold rObj
  go_enter Tryd.func31, Tryd.ntmps31
  go_wp2
  go_ret
  exact ⟨rfl, rfl⟩
set_option maxHeartbeats 1000000 in
theorem rb6 (fr u a t s o ky v : Int) (w : World) :
    Calls Tryd.prog 31 #[.agg #[.int .i64 6, .int .i64 fr, .int .i64 u, .int .i64 a, .int .i64 t, .int .u8 s, .int .i64 o, .int .u64 ky, .int .u64 v]] w fun e w' => e = .returned (.slice (some ⟨w.heap.size + 1, 0, none⟩) 2 2) ∧ (w.alloc (rObj 6 fr u a t s o ky v)).alloc (.cells #[.int .u8 132, .int .u8 (a % 256)] 5) = w' := by
  unfold rObj
  go_enter Tryd.func31, Tryd.ntmps31
  go_wp2
  go_ret
  exact ⟨rfl, rfl⟩
set_option maxHeartbeats 1000000 in
theorem rb7 (fr u a t s o ky v : Int) (w : World) :
    Calls Tryd.prog 31 #[.agg #[.int .i64 7, .int .i64 fr, .int .i64 u, .int .i64 a, .int .i64 t, .int .u8 s, .int .i64 o, .int .u64 ky, .int .u64 v]] w fun e w' => e = .returned (.slice (some ⟨w.heap.size + 1, 0, none⟩) 1 1) ∧ (w.alloc (rObj 7 fr u a t s o ky v)).alloc (.cells #[.int .u8 133] 5) = w' := by
  unfold rObj
  go_enter Tryd.func31, Tryd.ntmps31
  go_wp2
  go_ret
  exact ⟨rfl, rfl⟩
set_option maxHeartbeats 1000000 in
theorem rb8 (fr u a t s o ky v : Int) (w : World) :
    Calls Tryd.prog 31 #[.agg #[.int .i64 8, .int .i64 fr, .int .i64 u, .int .i64 a, .int .i64 t, .int .u8 s, .int .i64 o, .int .u64 ky, .int .u64 v]] w fun e w' => e = .returned (.slice (some ⟨w.heap.size + 1, 0, none⟩) 1 1) ∧ (w.alloc (rObj 8 fr u a t s o ky v)).alloc (.cells #[.int .u8 134] 5) = w' := by
  unfold rObj
  go_enter Tryd.func31, Tryd.ntmps31
  go_wp2
  go_ret
  exact ⟨rfl, rfl⟩
set_option maxHeartbeats 1000000 in
theorem rb9 (fr u a t s o ky v : Int) (w : World) :
    Calls Tryd.prog 31 #[.agg #[.int .i64 9, .int .i64 fr, .int .i64 u, .int .i64 a, .int .i64 t, .int .u8 s, .int .i64 o, .int .u64 ky, .int .u64 v]] w fun e w' => e = .returned (.slice (some ⟨w.heap.size + 1, 0, none⟩) 5 5) ∧ (w.alloc (rObj 9 fr u a t s o ky v)).alloc (.cells #[.int .u8 135, .int .u8 (t % 256), .int .u8 (o % 256), .int .u8 (ky % 256), .int .u8 (v % 256)] 5) = w' := by
  unfold rObj
  go_enter Tryd.func31, Tryd.ntmps31
  go_wp2
  go_ret
  exact ⟨rfl, rfl⟩
theorem rbytes_any (c : Cm) (w : World) (h1 : 1 ≤ c.kind) (h9 : c.kind ≤ 9) (s0 : 0 ≤ c.sch) (s1 : c.sch ≤ 255) :
    Calls Tryd.prog 31 #[c.r] w (RBytes w (codeC c)) := by
  obtain ⟨k, fr, u, a, t, s, o, ky, v⟩ := c
  simp only at h1 h9 s0 s1
  rcases kind_cases h1 h9 with rfl | rfl | rfl | rfl | rfl | rfl | rfl | rfl | rfl
  · exact (rb1 fr u a t s o ky v w).mono fun e w' h => rbytes_mk _ h (by simp [codeC, bC, lo_toNat])
  · exact (rb2 fr u a t s o ky v w).mono fun e w' h => rbytes_mk _ h (by simp [codeC, bC, lo_toNat])
  · exact (rb3 fr u a t s o ky v w).mono fun e w' h => rbytes_mk _ h (by simp [codeC, bC, lo_toNat])
  · exact (rb4 fr u a t s o ky v w).mono fun e w' h => rbytes_mk _ h (by simp [codeC, bC, lo_toNat, lo_small s0 s1])
  · exact (rb5 fr u a t s o ky v w).mono fun e w' h => rbytes_mk _ h (by simp [codeC, bC, lo_toNat])
  · exact (rb6 fr u a t s o ky v w).mono fun e w' h => rbytes_mk _ h (by simp [codeC, bC, lo_toNat])
  · exact (rb7 fr u a t s o ky v w).mono fun e w' h => rbytes_mk _ h (by simp [codeC, bC, lo_toNat])
  · exact (rb8 fr u a t s o ky v w).mono fun e w' h => rbytes_mk _ h (by simp [codeC, bC, lo_toNat])
  · exact (rb9 fr u a t s o ky v w).mono fun e w' h => rbytes_mk _ h (by simp [codeC, bC, lo_toNat])
end Go.Proofs.YtlgfdemggkiojaaDoor
