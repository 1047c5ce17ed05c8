/-
  Package allocs: addresses of words, new lines, new operations, whether one is over, what it got; condition: the table of fields as laid, numbers of their kinds, the operation lies as it says.
  Package allocs: a step of an operation by its part's step and by what is behind it; condition: which method the part's step is; the operation lies as it says.
-/
import Derived.Test.YtmjcbjcnmgleaaaGreatDoorB3
namespace Go.Proofs.YtmjcbjcnmgleaaaGreatDoor
open Go.RowKit Go.Maps

/-- What makes a new block: where it lies, what it holds; all else as it was. -/
def NewAt (t : TypeId) (cs : List Value) (w : World) (e : Ending) (w' : World) : Prop := ∃ r, e = .returned (.pointer (some ⟨r, 0, none⟩)) ∧ w.heap.size ≤ r ∧ Bq r t cs w' ∧ Below w.heap.size w w'
section
variable {q r : Nat} {t : TypeId} {nx v0 v1 v2 v3 v4 : Value} {s f g : Int} {w w' : World}
theorem slotAt_any (s f : Int) (w : World) : Calls Tryz.prog 121 #[.int .i64 s, .int .i64 f] w fun e w' => e = .returned (.agg #[.int .u8 9, .int .i64 s, .int .i64 f]) ∧ Below w.heap.size w w' := by
  go_enter Tryz.func121, Tryz.ntmps121
  go_wp2
  exact bodyPost_ret (v := .agg #[.int .u8 9, .int .i64 s, .int .i64 f]) (by simp [results, Tryz.results121, go_sem]) rfl ⟨rfl, (Below.refl _ _).alloc (Nat.le_refl _) _⟩
theorem segAt_any (s f g : Int) (hg : Int.tdiv s 8 = g) (hw : IntKind.i64.wrap g = g) (w : World) : Calls Tryz.prog 145 #[.int .i64 s, .int .i64 f] w fun e w' => e = .returned (.agg #[.int .u8 6, .int .i64 g, .int .i64 f]) ∧ Below w.heap.size w w' := by
  go_enter Tryz.func145, Tryz.ntmps145
  go_wp2
  exact bodyPost_ret (v := .agg #[.int .u8 6, .int .i64 g, .int .i64 f]) (by simp [results, Tryz.results145, go_sem]) rfl ⟨rfl, (Below.refl _ _).alloc (Nat.le_refl _) _⟩
theorem may_yes (h0 : 0 ≤ s) (h1 : s < 256) (w : World) : Calls Tryz.prog 87 #[.int .i64 s] w fun e w' => e = .returned (.bool true) ∧ w' = w := by
  go_enter Tryz.func87, Tryz.ntmps87
  go_wp2
  go_ret
  exact ⟨rfl, rfl⟩
theorem may_no (h : s < 0 ∨ 255 < s) (w : World) : Calls Tryz.prog 87 #[.int .i64 s] w fun e w' => e = .returned (.bool false) ∧ w' = w := by
  rcases h with h | h
  · go_enter Tryz.func87, Tryz.ntmps87
    go_wp2
    go_ret
    exact ⟨rfl, rfl⟩
  · have h0 : 0 ≤ s := by omega
    have h1 : decide (s < 256) = false := decide_eq_false (by omega)
    go_enter Tryz.func87, Tryz.ntmps87
    go_wp2
    go_ret
    exact ⟨rfl, rfl⟩
theorem newHeader_any (s : Int) (w : World) : Calls Tryz.prog 88 #[.int .i64 s] w (NewAt 209 [.int .u8 9, .int .i64 s, .int .i64 0, .int .u64 0] w) := by
  go_enter Tryz.func88, Tryz.ntmps88
  go_wp2_with fail
  ((with_reducible refine (slotAt_any s 0 _).mono ?_); rintro e w1 ⟨rfl, hb⟩)
  have HB := Lib.hid hb
  clear hb
  go_wp2_with fail
  go_ret
  exact ⟨_, rfl, HB.out.size, Bq.new _ _ _, HB.out.alloc HB.out.size _⟩
theorem newState_any (s : Int) (hg : Int.tdiv s 8 = g) (hw : IntKind.i64.wrap g = g) (w : World) : Calls Tryz.prog 122 #[.int .i64 s] w (NewAt 213 [.int .u8 6, .int .i64 g, .int .i64 0, .int .u64 0] w) := by
  go_enter Tryz.func122, Tryz.ntmps122
  go_wp2_with fail
  ((with_reducible refine (segAt_any s 0 g hg hw _).mono ?_); rintro e w1 ⟨rfl, hb⟩)
  have HB := Lib.hid hb
  clear hb
  go_wp2_with fail
  go_ret
  exact ⟨_, rfl, HB.out.size, Bq.new _ _ _, HB.out.alloc HB.out.size _⟩
theorem newAside_any (s : Int) (hg : Int.tdiv s 8 = g) (hw : IntKind.i64.wrap g = g) (w : World) : Calls Tryz.prog 124 #[.int .i64 s] w (NewAt 249 [.int .u8 6, .int .i64 g, .int .i64 1, .int .i64 1, .int .u64 0, .bool false] w) := by
  go_enter Tryz.func124, Tryz.ntmps124
  go_wp2_with fail
  ((with_reducible refine (segAt_any s 1 g hg hw _).mono ?_); rintro e w1 ⟨rfl, hb⟩)
  have HB := Lib.hid hb
  clear hb
  go_wp2_with fail
  go_ret
  exact ⟨_, rfl, HB.out.size, Bq.new _ _ _, HB.out.alloc HB.out.size _⟩
theorem overAlloc_no (k : Bq q 167 [.iface t v0, v1, v2, v3, v4] w) : Calls Tryz.prog 58 #[.pointer (some ⟨q, 0, none⟩)] w fun e w' => e = .returned (.bool false) ∧ w' = w := by
  have c0 : w.cell? ⟨q, 0, none⟩ = some (.iface t v0) := k.cell 0
  go_enter Tryz.func58, Tryz.ntmps58
  go_wp2
  go_ret
  exact ⟨rfl, rfl⟩
theorem overAlloc_yes (k : Bq q 167 [.nilIface, v1, v2, v3, v4] w) : Calls Tryz.prog 58 #[.pointer (some ⟨q, 0, none⟩)] w fun e w' => e = .returned (.bool true) ∧ w' = w := by
  have c0 : w.cell? ⟨q, 0, none⟩ = some (.nilIface) := k.cell 0
  go_enter Tryz.func58, Tryz.ntmps58
  go_wp2
  go_ret
  exact ⟨rfl, rfl⟩
theorem overAlloc_nil (w : World) : Calls Tryz.prog 58 #[.pointer none] w fun e w' => e = .returned (.bool true) ∧ w' = w := by
  go_enter Tryz.func58, Tryz.ntmps58
  go_wp2
  go_ret
  exact ⟨rfl, rfl⟩
theorem stepAlloc_over (m : Value) (k : Bq q 167 [.nilIface, v1, v2, v3, v4] w) : Calls Tryz.prog 52 #[.pointer (some ⟨q, 0, none⟩), m] w fun e w' => e = .returned (.bool true) ∧ w' = w := by
  have HK := Lib.hid k
  clear k
  go_enter Tryz.func52, Tryz.ntmps52
  go_wp2_with (go_at_call 58; refine (overAlloc_yes HK.out).mono ?_; rintro e w' ⟨rfl, rfl⟩)
  go_ret
  exact ⟨rfl, rfl⟩
theorem stepAlloc_nil (m : Value) (w : World) : Calls Tryz.prog 52 #[.pointer none, m] w fun e w' => e = .returned (.bool true) ∧ w' = w := by
  go_enter Tryz.func52, Tryz.ntmps52
  go_wp2_with (go_at_call 58; refine (overAlloc_nil _).mono ?_; rintro e w' ⟨rfl, rfl⟩)
  go_ret
  exact ⟨rfl, rfl⟩
theorem overFree_no (k : Bq q 161 [.iface t v0, v1, v2, v3] w) : Calls Tryz.prog 91 #[.pointer (some ⟨q, 0, none⟩)] w fun e w' => e = .returned (.bool false) ∧ w' = w := by
  have c0 : w.cell? ⟨q, 0, none⟩ = some (.iface t v0) := k.cell 0
  go_enter Tryz.func91, Tryz.ntmps91
  go_wp2
  go_ret
  exact ⟨rfl, rfl⟩
theorem overFree_yes (k : Bq q 161 [.nilIface, v1, v2, v3] w) : Calls Tryz.prog 91 #[.pointer (some ⟨q, 0, none⟩)] w fun e w' => e = .returned (.bool true) ∧ w' = w := by
  have c0 : w.cell? ⟨q, 0, none⟩ = some (.nilIface) := k.cell 0
  go_enter Tryz.func91, Tryz.ntmps91
  go_wp2
  go_ret
  exact ⟨rfl, rfl⟩
theorem overFree_nil (w : World) : Calls Tryz.prog 91 #[.pointer none] w fun e w' => e = .returned (.bool true) ∧ w' = w := by
  go_enter Tryz.func91, Tryz.ntmps91
  go_wp2
  go_ret
  exact ⟨rfl, rfl⟩
theorem stepFree_over (m : Value) (k : Bq q 161 [.nilIface, v1, v2, v3] w) : Calls Tryz.prog 54 #[.pointer (some ⟨q, 0, none⟩), m] w fun e w' => e = .returned (.bool true) ∧ w' = w := by
  have HK := Lib.hid k
  clear k
  go_enter Tryz.func54, Tryz.ntmps54
  go_wp2_with (go_at_call 91; refine (overFree_yes HK.out).mono ?_; rintro e w' ⟨rfl, rfl⟩)
  go_ret
  exact ⟨rfl, rfl⟩
theorem stepFree_nil (m : Value) (w : World) : Calls Tryz.prog 54 #[.pointer none, m] w fun e w' => e = .returned (.bool true) ∧ w' = w := by
  go_enter Tryz.func54, Tryz.ntmps54
  go_wp2_with (go_at_call 91; refine (overFree_nil _).mono ?_; rintro e w' ⟨rfl, rfl⟩)
  go_ret
  exact ⟨rfl, rfl⟩
theorem overPark_no (k : Bq q 245 [.iface t v0, v1, v2, v3] w) : Calls Tryz.prog 196 #[.pointer (some ⟨q, 0, none⟩)] w fun e w' => e = .returned (.bool false) ∧ w' = w := by
  have c0 : w.cell? ⟨q, 0, none⟩ = some (.iface t v0) := k.cell 0
  go_enter Tryz.func196, Tryz.ntmps196
  go_wp2
  go_ret
  exact ⟨rfl, rfl⟩
theorem overPark_yes (k : Bq q 245 [.nilIface, v1, v2, v3] w) : Calls Tryz.prog 196 #[.pointer (some ⟨q, 0, none⟩)] w fun e w' => e = .returned (.bool true) ∧ w' = w := by
  have c0 : w.cell? ⟨q, 0, none⟩ = some (.nilIface) := k.cell 0
  go_enter Tryz.func196, Tryz.ntmps196
  go_wp2
  go_ret
  exact ⟨rfl, rfl⟩
theorem overPark_nil (w : World) : Calls Tryz.prog 196 #[.pointer none] w fun e w' => e = .returned (.bool true) ∧ w' = w := by
  go_enter Tryz.func196, Tryz.ntmps196
  go_wp2
  go_ret
  exact ⟨rfl, rfl⟩
theorem stepPark_over (m : Value) (k : Bq q 245 [.nilIface, v1, v2, v3] w) : Calls Tryz.prog 195 #[.pointer (some ⟨q, 0, none⟩), m] w fun e w' => e = .returned (.bool true) ∧ w' = w := by
  have HK := Lib.hid k
  clear k
  go_enter Tryz.func195, Tryz.ntmps195
  go_wp2_with (go_at_call 196; refine (overPark_yes HK.out).mono ?_; rintro e w' ⟨rfl, rfl⟩)
  go_ret
  exact ⟨rfl, rfl⟩
theorem stepPark_nil (m : Value) (w : World) : Calls Tryz.prog 195 #[.pointer none, m] w fun e w' => e = .returned (.bool true) ∧ w' = w := by
  go_enter Tryz.func195, Tryz.ntmps195
  go_wp2_with (go_at_call 196; refine (overPark_nil _).mono ?_; rintro e w' ⟨rfl, rfl⟩)
  go_ret
  exact ⟨rfl, rfl⟩
theorem newPark_yes (h0 : 0 ≤ s) (h1 : s < 256) (w : World) : Calls Tryz.prog 123 #[.int .i64 s] w fun e w' => ∃ q r, e = .returned (.pointer (some ⟨q, 0, none⟩)) ∧ w.heap.size ≤ r ∧ r < q ∧ Bq q 245 [.iface 162 (.pointer (some ⟨r, 0, none⟩)), .int .i64 s, .int .u32 0, .bool false] w' ∧ Bq r 209 [.int .u8 9, .int .i64 s, .int .i64 0, .int .u64 0] w' ∧ Below w.heap.size w w' := by
  go_enter Tryz.func123, Tryz.ntmps123
  go_wp2_with fail
  ((with_reducible refine (may_yes h0 h1 _).mono ?_); rintro e w1 ⟨rfl, rfl⟩)
  go_wp2_with fail
  ((with_reducible refine (newHeader_any s _).mono ?_); rintro e w2 ⟨r, rfl, hr, hk, hb⟩)
  have HB := Lib.hid hb
  have HK := Lib.hid hk
  clear hb hk
  go_wp2_with fail
  go_ret
  exact ⟨_, r, rfl, hr, HK.out.lt, Bq.new _ _ _, HK.out.below ((Below.refl _ _).alloc (Nat.le_refl _) _), HB.out.alloc HB.out.size _⟩
theorem newPark_no (h : s < 0 ∨ 255 < s) (w : World) : Calls Tryz.prog 123 #[.int .i64 s] w (NewAt 245 [.nilIface, .int .i64 0, .int .u32 0, .bool false] w) := by
  go_enter Tryz.func123, Tryz.ntmps123
  go_wp2_with fail
  ((with_reducible refine (may_no h _).mono ?_); rintro e w1 ⟨rfl, rfl⟩)
  go_wp2_with fail
  go_ret
  exact ⟨_, rfl, Nat.le_refl _, Bq.new _ _ _, (Below.refl _ _).alloc (Nat.le_refl _) _⟩
theorem newFree_yes (m : Int) (h0 : 0 ≤ s) (h1 : s < 256) (w : World) : Calls Tryz.prog 50 #[.int .i64 s, .int .u32 m] w fun e w' => ∃ q r, e = .returned (.pointer (some ⟨q, 0, none⟩)) ∧ w.heap.size ≤ r ∧ r < q ∧ Bq q 161 [.iface 162 (.pointer (some ⟨r, 0, none⟩)), .int .i64 s, .int .u32 m, .int .u8 0] w' ∧ Bq r 209 [.int .u8 9, .int .i64 s, .int .i64 0, .int .u64 0] w' ∧ Below w.heap.size w w' := by
  go_enter Tryz.func50, Tryz.ntmps50
  go_wp2_with fail
  ((with_reducible refine (may_yes h0 h1 _).mono ?_); rintro e w1 ⟨rfl, rfl⟩)
  go_wp2_with fail
  ((with_reducible refine (newHeader_any s _).mono ?_); rintro e w2 ⟨r, rfl, hr, hk, hb⟩)
  have HB := Lib.hid hb
  have HK := Lib.hid hk
  clear hb hk
  go_wp2_with fail
  go_ret
  exact ⟨_, r, rfl, hr, HK.out.lt, Bq.new _ _ _, HK.out.below ((Below.refl _ _).alloc (Nat.le_refl _) _), HB.out.alloc HB.out.size _⟩
theorem newFree_no (m : Int) (h : s < 0 ∨ 255 < s) (w : World) : Calls Tryz.prog 50 #[.int .i64 s, .int .u32 m] w (NewAt 161 [.nilIface, .int .i64 0, .int .u32 0, .int .u8 0] w) := by
  go_enter Tryz.func50, Tryz.ntmps50
  go_wp2_with fail
  ((with_reducible refine (may_no h _).mono ?_); rintro e w1 ⟨rfl, rfl⟩)
  go_wp2_with fail
  go_ret
  exact ⟨_, rfl, Nat.le_refl _, Bq.new _ _ _, (Below.refl _ _).alloc (Nat.le_refl _) _⟩
theorem newAlloc_any (w : World) : Calls Tryz.prog 51 #[] w fun e w' => ∃ q r, e = .returned (.pointer (some ⟨q, 0, none⟩)) ∧ w.heap.size ≤ r ∧ r < q ∧ Bq q 167 [.iface 164 (.pointer (some ⟨r, 0, none⟩)), .int .i64 0, .int .u32 0, .bool false, .bool false] w' ∧ OpAt 210 r 1 0 0 w' ∧ Below w.heap.size w w' := by
  go_enter Tryz.func51, Tryz.ntmps51
  go_wp2_with fail
  ((with_reducible refine (newPop_any _).mono ?_); rintro e w2 ⟨rfl, hk, hb, -⟩)
  have HB := Lib.hid hb
  have HK := Lib.hid hk
  clear hb hk
  go_wp2_with fail
  go_ret
  exact ⟨_, _, rfl, Nat.le_refl _, HK.out.lt, Bq.new _ _ _, HK.out.below ((Below.refl _ _).alloc (Nat.le_refl _) _), HB.out.alloc HB.out.size _⟩
theorem gotPark_any {b : Bool} (k : Bq q 245 [nx, v1, v2, .bool b] w) : Calls Tryz.prog 125 #[.pointer (some ⟨q, 0, none⟩)] w fun e w' => e = .returned (.bool b) ∧ w' = w := by
  have c3 : w.cell? ⟨q, 3, none⟩ = some (.bool b) := k.cell 3
  go_enter Tryz.func125, Tryz.ntmps125
  go_wp2
  go_ret
  exact ⟨rfl, rfl⟩
theorem gotPark_nil (w : World) : Calls Tryz.prog 125 #[.pointer none] w fun e w' => e = .returned (.bool false) ∧ w' = w := by
  go_enter Tryz.func125, Tryz.ntmps125
  go_wp2
  go_ret
  exact ⟨rfl, rfl⟩
theorem gotAlloc_no (k : Bq q 167 [nx, v1, v2, v3, .bool false] w) : Calls Tryz.prog 53 #[.pointer (some ⟨q, 0, none⟩)] w fun e w' => e = .returned (.tuple #[.agg #[.int .i64 (-1), .int .u32 0, .bool false], .bool false]) ∧ Below w.heap.size w w' := by
  have c4 : (w.alloc (.cells #[.int .i64 0, .int .u32 0, .bool false] 85)).cell? ⟨q, 4, none⟩ = some (.bool false) := (k.below ((Below.refl _ _).alloc (Nat.le_refl _) _)).cell 4
  go_enter Tryz.func53, Tryz.ntmps53
  go_wp2
  exact bodyPost_ret (v := .tuple #[.agg #[.int .i64 (-1), .int .u32 0, .bool false], .bool false]) (by simp [results, Tryz.results53, go_sem]) rfl ⟨rfl, (Below.refl _ _).alloc (Nat.le_refl _) _⟩
theorem gotAlloc_nil (w : World) : Calls Tryz.prog 53 #[.pointer none] w fun e w' => e = .returned (.tuple #[.agg #[.int .i64 (-1), .int .u32 0, .bool false], .bool false]) ∧ Below w.heap.size w w' := by
  go_enter Tryz.func53, Tryz.ntmps53
  go_wp2
  exact bodyPost_ret (v := .tuple #[.agg #[.int .i64 (-1), .int .u32 0, .bool false], .bool false]) (by simp [results, Tryz.results53, go_sem]) rfl ⟨rfl, (Below.refl _ _).alloc (Nat.le_refl _) _⟩
theorem gotAlloc_yes {m : Bool} (k : Bq q 167 [nx, .int .i64 s, .int .u32 g, .bool m, .bool true] w) : Calls Tryz.prog 53 #[.pointer (some ⟨q, 0, none⟩)] w fun e w' => e = .returned (.tuple #[.agg #[.int .i64 s, .int .u32 g, .bool m], .bool true]) ∧ Below w.heap.size w w' := by
  have k' := k.below ((Below.refl _ w).alloc (Nat.le_refl _) (.cells #[.int .i64 0, .int .u32 0, .bool false] 85))
  have c1 := k'.cell 1
  have c2 := k'.cell 2
  have c3 := k'.cell 3
  have c4 := k'.cell 4
  simp only [List.getElem?_cons_zero, List.getElem?_cons_succ] at c1 c2 c3 c4
  clear k k'
  go_enter Tryz.func53, Tryz.ntmps53
  go_wp2
  exact bodyPost_ret (v := .tuple #[.agg #[.int .i64 s, .int .u32 g, .bool m], .bool true]) (by simp [results, Tryz.results53, go_sem]) rfl ⟨rfl, (Below.refl _ _).alloc (Nat.le_refl _) _⟩
end
end Go.Proofs.YtmjcbjcnmgleaaaGreatDoor
namespace Go.Proofs.YtmjcbjcnmgleaaaGreatDoor
open Go.RowKit Go.Maps

section
variable {p q : Nat} {pt : TypeId} {f : FuncId} {rv v1 v2 v3 v4 u1 u2 u3 u4 : Value} {w : World} {R : World → Prop} {S : Value → World → Prop}
set_option maxRecDepth 100000 in
set_option maxHeartbeats 4000000 in
theorem parkStep_no (he : ∀ args X, (callFunc f args).run Tryz.prog X = .ok (.enter f args) X) (hm : ∀ X, (method (409) pt rv "Step").run Tryz.prog X = .ok (f, rv) X) (k : Bq q 245 [.iface pt rv, v1, v2, v3] w)
    (hs : Calls Tryz.prog f #[rv, .pointer (some ⟨p, 0, none⟩)] w fun e w1 => e = .returned (.bool false) ∧ R w1) (hR : ∀ w1, R w1 → Bq q 245 [.iface pt rv, v1, v2, v3] w1) :
    Calls Tryz.prog 195 #[.pointer (some ⟨q, 0, none⟩), .pointer (some ⟨p, 0, none⟩)] w fun e w' => e = .returned (.bool false) ∧ R w' := by
  have c0 : w.cell? ⟨q, 0, none⟩ = some (.iface pt rv) := k.cell 0
  have HK := Lib.hid k
  have HS := Lib.hid hs
  have HR := Lib.hid hR
  clear k hs hR
  go_enter Tryz.func195, Tryz.ntmps195
  go_wp2_with fail
  ((with_reducible refine (overPark_no HK.out).mono ?_); rintro e w1 ⟨rfl, rfl⟩)
  go_wp2_with fail
  ((with_reducible refine HS.out.mono ?_); rintro e w2 ⟨rfl, h2⟩)
  have HK2 := Lib.hid (HR.out _ h2)
  go_wp2_with fail
  ((with_reducible refine (overPark_no HK2.out).mono ?_); rintro e w3 ⟨rfl, rfl⟩)
  go_wp2_with fail
  go_ret
  exact ⟨rfl, h2⟩
set_option maxRecDepth 100000 in
set_option maxHeartbeats 4000000 in
theorem parkStep_on (he : ∀ args X, (callFunc f args).run Tryz.prog X = .ok (.enter f args) X) (hm : ∀ X, (method (409) pt rv "Step").run Tryz.prog X = .ok (f, rv) X) (k : Bq q 245 [.iface pt rv, v1, v2, v3] w)
    (hs : Calls Tryz.prog f #[rv, .pointer (some ⟨p, 0, none⟩)] w fun e w1 => e = .returned (.bool true) ∧ R w1)
    (hR : ∀ w1, R w1 → Calls Tryz.prog 197 #[.pointer (some ⟨q, 0, none⟩)] w1 fun e w2 => ∃ t z, e = .returned (.iface t z) ∧ S (.iface t z) w2)
    (hS : ∀ z X, S z X → ∃ u1 u2 u3, Bq q 245 [.iface pt rv, u1, u2, u3] X) :
    Calls Tryz.prog 195 #[.pointer (some ⟨q, 0, none⟩), .pointer (some ⟨p, 0, none⟩)] w fun e w' => ∃ t z X, S (.iface t z) X ∧ e = .returned (.bool false) ∧ w' = X.setCell ⟨q, 0, none⟩ (.iface t z) := by
  have c0 : w.cell? ⟨q, 0, none⟩ = some (.iface pt rv) := k.cell 0
  have HK := Lib.hid k
  have HS := Lib.hid hs
  have HR := Lib.hid hR
  have HSS := Lib.hid hS
  clear k hs hR hS
  go_enter Tryz.func195, Tryz.ntmps195
  go_wp2_with fail
  ((with_reducible refine (overPark_no HK.out).mono ?_); rintro e w1 ⟨rfl, rfl⟩)
  go_wp2_with fail
  ((with_reducible refine HS.out.mono ?_); rintro e w2 ⟨rfl, h2⟩)
  go_wp2_with fail
  ((with_reducible refine (HR.out _ h2).mono ?_); rintro e w3 ⟨t, z, rfl, h3⟩)
  obtain ⟨u1, u2, u3, k3⟩ := HSS.out _ _ h3
  have z0 := k3.free 0
  have c3 : w3.cell? ⟨q, 0, none⟩ = some (.iface pt rv) := k3.cell 0
  have HK3 := Lib.hid (k3.set 0 (.iface t z) rfl)
  clear k3
  go_wp2_with fail
  ((with_reducible refine (overPark_no HK3.out).mono ?_); rintro e w4 ⟨rfl, rfl⟩)
  go_wp2_with fail
  go_ret
  exact ⟨t, z, _, h3, rfl, rfl⟩
set_option maxRecDepth 100000 in
set_option maxHeartbeats 4000000 in
theorem parkStep_end (he : ∀ args X, (callFunc f args).run Tryz.prog X = .ok (.enter f args) X) (hm : ∀ X, (method (409) pt rv "Step").run Tryz.prog X = .ok (f, rv) X) (k : Bq q 245 [.iface pt rv, v1, v2, v3] w)
    (hs : Calls Tryz.prog f #[rv, .pointer (some ⟨p, 0, none⟩)] w fun e w1 => e = .returned (.bool true) ∧ R w1)
    (hR : ∀ w1, R w1 → Calls Tryz.prog 197 #[.pointer (some ⟨q, 0, none⟩)] w1 fun e w2 => e = .returned .nilIface ∧ S .nilIface w2)
    (hS : ∀ z X, S z X → ∃ u1 u2 u3, Bq q 245 [.iface pt rv, u1, u2, u3] X) :
    Calls Tryz.prog 195 #[.pointer (some ⟨q, 0, none⟩), .pointer (some ⟨p, 0, none⟩)] w fun e w' => ∃ X, S .nilIface X ∧ e = .returned (.bool true) ∧ w' = X.setCell ⟨q, 0, none⟩ .nilIface := by
  have c0 : w.cell? ⟨q, 0, none⟩ = some (.iface pt rv) := k.cell 0
  have HK := Lib.hid k
  have HS := Lib.hid hs
  have HR := Lib.hid hR
  have HSS := Lib.hid hS
  clear k hs hR hS
  go_enter Tryz.func195, Tryz.ntmps195
  go_wp2_with fail
  ((with_reducible refine (overPark_no HK.out).mono ?_); rintro e w1 ⟨rfl, rfl⟩)
  go_wp2_with fail
  ((with_reducible refine HS.out.mono ?_); rintro e w2 ⟨rfl, h2⟩)
  go_wp2_with fail
  ((with_reducible refine (HR.out _ h2).mono ?_); rintro e w3 ⟨rfl, h3⟩)
  obtain ⟨u1, u2, u3, k3⟩ := HSS.out _ _ h3
  have z0 := k3.free 0
  have c3 : w3.cell? ⟨q, 0, none⟩ = some (.iface pt rv) := k3.cell 0
  have HK3 := Lib.hid (k3.set 0 (.nilIface) rfl)
  clear k3
  go_wp2_with fail
  ((with_reducible refine (overPark_yes HK3.out).mono ?_); rintro e w4 ⟨rfl, rfl⟩)
  go_wp2_with fail
  go_ret
  exact ⟨_, h3, rfl, rfl⟩
set_option maxRecDepth 100000 in
set_option maxHeartbeats 4000000 in
theorem freeStep_no (he : ∀ args X, (callFunc f args).run Tryz.prog X = .ok (.enter f args) X) (hm : ∀ X, (method (409) pt rv "Step").run Tryz.prog X = .ok (f, rv) X) (k : Bq q 161 [.iface pt rv, v1, v2, v3] w)
    (hs : Calls Tryz.prog f #[rv, .pointer (some ⟨p, 0, none⟩)] w fun e w1 => e = .returned (.bool false) ∧ R w1) (hR : ∀ w1, R w1 → Bq q 161 [.iface pt rv, v1, v2, v3] w1) :
    Calls Tryz.prog 54 #[.pointer (some ⟨q, 0, none⟩), .pointer (some ⟨p, 0, none⟩)] w fun e w' => e = .returned (.bool false) ∧ R w' := by
  have c0 : w.cell? ⟨q, 0, none⟩ = some (.iface pt rv) := k.cell 0
  have HK := Lib.hid k
  have HS := Lib.hid hs
  have HR := Lib.hid hR
  clear k hs hR
  go_enter Tryz.func54, Tryz.ntmps54
  go_wp2_with fail
  ((with_reducible refine (overFree_no HK.out).mono ?_); rintro e w1 ⟨rfl, rfl⟩)
  go_wp2_with fail
  ((with_reducible refine HS.out.mono ?_); rintro e w2 ⟨rfl, h2⟩)
  have HK2 := Lib.hid (HR.out _ h2)
  go_wp2_with fail
  ((with_reducible refine (overFree_no HK2.out).mono ?_); rintro e w3 ⟨rfl, rfl⟩)
  go_wp2_with fail
  go_ret
  exact ⟨rfl, h2⟩
set_option maxRecDepth 100000 in
set_option maxHeartbeats 4000000 in
theorem freeStep_on (he : ∀ args X, (callFunc f args).run Tryz.prog X = .ok (.enter f args) X) (hm : ∀ X, (method (409) pt rv "Step").run Tryz.prog X = .ok (f, rv) X) (k : Bq q 161 [.iface pt rv, v1, v2, v3] w)
    (hs : Calls Tryz.prog f #[rv, .pointer (some ⟨p, 0, none⟩)] w fun e w1 => e = .returned (.bool true) ∧ R w1)
    (hR : ∀ w1, R w1 → Calls Tryz.prog 92 #[.pointer (some ⟨q, 0, none⟩)] w1 fun e w2 => ∃ t z, e = .returned (.iface t z) ∧ S (.iface t z) w2)
    (hS : ∀ z X, S z X → ∃ u1 u2 u3, Bq q 161 [.iface pt rv, u1, u2, u3] X) :
    Calls Tryz.prog 54 #[.pointer (some ⟨q, 0, none⟩), .pointer (some ⟨p, 0, none⟩)] w fun e w' => ∃ t z X, S (.iface t z) X ∧ e = .returned (.bool false) ∧ w' = X.setCell ⟨q, 0, none⟩ (.iface t z) := by
  have c0 : w.cell? ⟨q, 0, none⟩ = some (.iface pt rv) := k.cell 0
  have HK := Lib.hid k
  have HS := Lib.hid hs
  have HR := Lib.hid hR
  have HSS := Lib.hid hS
  clear k hs hR hS
  go_enter Tryz.func54, Tryz.ntmps54
  go_wp2_with fail
  ((with_reducible refine (overFree_no HK.out).mono ?_); rintro e w1 ⟨rfl, rfl⟩)
  go_wp2_with fail
  ((with_reducible refine HS.out.mono ?_); rintro e w2 ⟨rfl, h2⟩)
  go_wp2_with fail
  ((with_reducible refine (HR.out _ h2).mono ?_); rintro e w3 ⟨t, z, rfl, h3⟩)
  obtain ⟨u1, u2, u3, k3⟩ := HSS.out _ _ h3
  have z0 := k3.free 0
  have c3 : w3.cell? ⟨q, 0, none⟩ = some (.iface pt rv) := k3.cell 0
  have HK3 := Lib.hid (k3.set 0 (.iface t z) rfl)
  clear k3
  go_wp2_with fail
  ((with_reducible refine (overFree_no HK3.out).mono ?_); rintro e w4 ⟨rfl, rfl⟩)
  go_wp2_with fail
  go_ret
  exact ⟨t, z, _, h3, rfl, rfl⟩
set_option maxRecDepth 100000 in
set_option maxHeartbeats 4000000 in
theorem freeStep_end (he : ∀ args X, (callFunc f args).run Tryz.prog X = .ok (.enter f args) X) (hm : ∀ X, (method (409) pt rv "Step").run Tryz.prog X = .ok (f, rv) X) (k : Bq q 161 [.iface pt rv, v1, v2, v3] w)
    (hs : Calls Tryz.prog f #[rv, .pointer (some ⟨p, 0, none⟩)] w fun e w1 => e = .returned (.bool true) ∧ R w1)
    (hR : ∀ w1, R w1 → Calls Tryz.prog 92 #[.pointer (some ⟨q, 0, none⟩)] w1 fun e w2 => e = .returned .nilIface ∧ S .nilIface w2)
    (hS : ∀ z X, S z X → ∃ u1 u2 u3, Bq q 161 [.iface pt rv, u1, u2, u3] X) :
    Calls Tryz.prog 54 #[.pointer (some ⟨q, 0, none⟩), .pointer (some ⟨p, 0, none⟩)] w fun e w' => ∃ X, S .nilIface X ∧ e = .returned (.bool true) ∧ w' = X.setCell ⟨q, 0, none⟩ .nilIface := by
  have c0 : w.cell? ⟨q, 0, none⟩ = some (.iface pt rv) := k.cell 0
  have HK := Lib.hid k
  have HS := Lib.hid hs
  have HR := Lib.hid hR
  have HSS := Lib.hid hS
  clear k hs hR hS
  go_enter Tryz.func54, Tryz.ntmps54
  go_wp2_with fail
  ((with_reducible refine (overFree_no HK.out).mono ?_); rintro e w1 ⟨rfl, rfl⟩)
  go_wp2_with fail
  ((with_reducible refine HS.out.mono ?_); rintro e w2 ⟨rfl, h2⟩)
  go_wp2_with fail
  ((with_reducible refine (HR.out _ h2).mono ?_); rintro e w3 ⟨rfl, h3⟩)
  obtain ⟨u1, u2, u3, k3⟩ := HSS.out _ _ h3
  have z0 := k3.free 0
  have c3 : w3.cell? ⟨q, 0, none⟩ = some (.iface pt rv) := k3.cell 0
  have HK3 := Lib.hid (k3.set 0 (.nilIface) rfl)
  clear k3
  go_wp2_with fail
  ((with_reducible refine (overFree_yes HK3.out).mono ?_); rintro e w4 ⟨rfl, rfl⟩)
  go_wp2_with fail
  go_ret
  exact ⟨_, h3, rfl, rfl⟩
set_option maxRecDepth 100000 in
set_option maxHeartbeats 4000000 in
theorem allocStep_no (he : ∀ args X, (callFunc f args).run Tryz.prog X = .ok (.enter f args) X) (hm : ∀ X, (method (409) pt rv "Step").run Tryz.prog X = .ok (f, rv) X) (k : Bq q 167 [.iface pt rv, v1, v2, v3, v4] w)
    (hs : Calls Tryz.prog f #[rv, .pointer (some ⟨p, 0, none⟩)] w fun e w1 => e = .returned (.bool false) ∧ R w1) (hR : ∀ w1, R w1 → Bq q 167 [.iface pt rv, v1, v2, v3, v4] w1) :
    Calls Tryz.prog 52 #[.pointer (some ⟨q, 0, none⟩), .pointer (some ⟨p, 0, none⟩)] w fun e w' => e = .returned (.bool false) ∧ R w' := by
  have c0 : w.cell? ⟨q, 0, none⟩ = some (.iface pt rv) := k.cell 0
  have HK := Lib.hid k
  have HS := Lib.hid hs
  have HR := Lib.hid hR
  clear k hs hR
  go_enter Tryz.func52, Tryz.ntmps52
  go_wp2_with fail
  ((with_reducible refine (overAlloc_no HK.out).mono ?_); rintro e w1 ⟨rfl, rfl⟩)
  go_wp2_with fail
  ((with_reducible refine HS.out.mono ?_); rintro e w2 ⟨rfl, h2⟩)
  have HK2 := Lib.hid (HR.out _ h2)
  go_wp2_with fail
  ((with_reducible refine (overAlloc_no HK2.out).mono ?_); rintro e w3 ⟨rfl, rfl⟩)
  go_wp2_with fail
  go_ret
  exact ⟨rfl, h2⟩
set_option maxRecDepth 100000 in
set_option maxHeartbeats 4000000 in
theorem allocStep_on (he : ∀ args X, (callFunc f args).run Tryz.prog X = .ok (.enter f args) X) (hm : ∀ X, (method (409) pt rv "Step").run Tryz.prog X = .ok (f, rv) X) (k : Bq q 167 [.iface pt rv, v1, v2, v3, v4] w)
    (hs : Calls Tryz.prog f #[rv, .pointer (some ⟨p, 0, none⟩)] w fun e w1 => e = .returned (.bool true) ∧ R w1)
    (hR : ∀ w1, R w1 → Calls Tryz.prog 90 #[.pointer (some ⟨q, 0, none⟩)] w1 fun e w2 => ∃ t z, e = .returned (.iface t z) ∧ S (.iface t z) w2)
    (hS : ∀ z X, S z X → ∃ u1 u2 u3 u4, Bq q 167 [.iface pt rv, u1, u2, u3, u4] X) :
    Calls Tryz.prog 52 #[.pointer (some ⟨q, 0, none⟩), .pointer (some ⟨p, 0, none⟩)] w fun e w' => ∃ t z X, S (.iface t z) X ∧ e = .returned (.bool false) ∧ w' = X.setCell ⟨q, 0, none⟩ (.iface t z) := by
  have c0 : w.cell? ⟨q, 0, none⟩ = some (.iface pt rv) := k.cell 0
  have HK := Lib.hid k
  have HS := Lib.hid hs
  have HR := Lib.hid hR
  have HSS := Lib.hid hS
  clear k hs hR hS
  go_enter Tryz.func52, Tryz.ntmps52
  go_wp2_with fail
  ((with_reducible refine (overAlloc_no HK.out).mono ?_); rintro e w1 ⟨rfl, rfl⟩)
  go_wp2_with fail
  ((with_reducible refine HS.out.mono ?_); rintro e w2 ⟨rfl, h2⟩)
  go_wp2_with fail
  ((with_reducible refine (HR.out _ h2).mono ?_); rintro e w3 ⟨t, z, rfl, h3⟩)
  obtain ⟨u1, u2, u3, u4, k3⟩ := HSS.out _ _ h3
  have z0 := k3.free 0
  have c3 : w3.cell? ⟨q, 0, none⟩ = some (.iface pt rv) := k3.cell 0
  have HK3 := Lib.hid (k3.set 0 (.iface t z) rfl)
  clear k3
  go_wp2_with fail
  ((with_reducible refine (overAlloc_no HK3.out).mono ?_); rintro e w4 ⟨rfl, rfl⟩)
  go_wp2_with fail
  go_ret
  exact ⟨t, z, _, h3, rfl, rfl⟩
set_option maxRecDepth 100000 in
set_option maxHeartbeats 4000000 in
theorem allocStep_end (he : ∀ args X, (callFunc f args).run Tryz.prog X = .ok (.enter f args) X) (hm : ∀ X, (method (409) pt rv "Step").run Tryz.prog X = .ok (f, rv) X) (k : Bq q 167 [.iface pt rv, v1, v2, v3, v4] w)
    (hs : Calls Tryz.prog f #[rv, .pointer (some ⟨p, 0, none⟩)] w fun e w1 => e = .returned (.bool true) ∧ R w1)
    (hR : ∀ w1, R w1 → Calls Tryz.prog 90 #[.pointer (some ⟨q, 0, none⟩)] w1 fun e w2 => e = .returned .nilIface ∧ S .nilIface w2)
    (hS : ∀ z X, S z X → ∃ u1 u2 u3 u4, Bq q 167 [.iface pt rv, u1, u2, u3, u4] X) :
    Calls Tryz.prog 52 #[.pointer (some ⟨q, 0, none⟩), .pointer (some ⟨p, 0, none⟩)] w fun e w' => ∃ X, S .nilIface X ∧ e = .returned (.bool true) ∧ w' = X.setCell ⟨q, 0, none⟩ .nilIface := by
  have c0 : w.cell? ⟨q, 0, none⟩ = some (.iface pt rv) := k.cell 0
  have HK := Lib.hid k
  have HS := Lib.hid hs
  have HR := Lib.hid hR
  have HSS := Lib.hid hS
  clear k hs hR hS
  go_enter Tryz.func52, Tryz.ntmps52
  go_wp2_with fail
  ((with_reducible refine (overAlloc_no HK.out).mono ?_); rintro e w1 ⟨rfl, rfl⟩)
  go_wp2_with fail
  ((with_reducible refine HS.out.mono ?_); rintro e w2 ⟨rfl, h2⟩)
  go_wp2_with fail
  ((with_reducible refine (HR.out _ h2).mono ?_); rintro e w3 ⟨rfl, h3⟩)
  obtain ⟨u1, u2, u3, u4, k3⟩ := HSS.out _ _ h3
  have z0 := k3.free 0
  have c3 : w3.cell? ⟨q, 0, none⟩ = some (.iface pt rv) := k3.cell 0
  have HK3 := Lib.hid (k3.set 0 (.nilIface) rfl)
  clear k3
  go_wp2_with fail
  ((with_reducible refine (overAlloc_yes HK3.out).mono ?_); rintro e w4 ⟨rfl, rfl⟩)
  go_wp2_with fail
  go_ret
  exact ⟨_, h3, rfl, rfl⟩
end
end Go.Proofs.YtmjcbjcnmgleaaaGreatDoor
