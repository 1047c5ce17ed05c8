/-
  Package allocs; conditions as each theorem says.
-/
import Derived.Test.YtmjcbjcnmgleaaaGreatDoorXP17
import Derived.Test.YtmjcbjcnmgleaaaGreatDoorXP15
namespace Go.Proofs.YtmjcbjcnmgleaaaGreatDoor
open Go.RowKit Go.Maps
def Behind (T pt bt : TypeId) (q : Nat) (op part : List Value) (w : World) (e : Ending) (w' : World) : Prop := ∃ r, e = .returned (.iface pt (.pointer (some ⟨r, 0, none⟩))) ∧ w.heap.size ≤ r ∧ Bq r bt part w' ∧ Bq q T op w' ∧ Only q q w w'
theorem gen_u64' (x : Int) : U64 (fld x 3 32) := by
  have h1 := fld_nonneg x 3 32
  have h2 := fld_lt x 3 32
  have h3 : (2 : Int) ^ 32 = 4294967296 := by decide
  rw [h3] at h2
  exact ⟨by omega, by omega⟩
theorem ta_allocs_parked_allocs_header (v : Value) (w : World) : (Instr.typeAssert (.iface 291 v) 159 162 true).run Tryz.prog w = .ok (.tuple #[.pointer none, .bool false]) w := by kernel_rfl
theorem ta_allocs_parked_allocs_parked (v : Value) (w : World) : (Instr.typeAssert (.iface 291 v) 159 291 true).run Tryz.prog w = .ok (.tuple #[v, .bool true]) w := by kernel_rfl
theorem ta_allocs_aside_allocs_header (v : Value) (w : World) : (Instr.typeAssert (.iface 229 v) 159 162 true).run Tryz.prog w = .ok (.tuple #[.pointer none, .bool false]) w := by kernel_rfl
theorem ta_allocs_aside_allocs_parked (v : Value) (w : World) : (Instr.typeAssert (.iface 229 v) 159 291 true).run Tryz.prog w = .ok (.tuple #[.pointer none, .bool false]) w := by kernel_rfl
theorem ta_allocs_aside_allocs_aside (v : Value) (w : World) : (Instr.typeAssert (.iface 229 v) 159 229 true).run Tryz.prog w = .ok (.tuple #[v, .bool true]) w := by kernel_rfl
theorem ta_allocs_state_allocs_header (v : Value) (w : World) : (Instr.typeAssert (.iface 211 v) 159 162 true).run Tryz.prog w = .ok (.tuple #[.pointer none, .bool false]) w := by kernel_rfl
theorem ta_allocs_state_allocs_parked (v : Value) (w : World) : (Instr.typeAssert (.iface 211 v) 159 291 true).run Tryz.prog w = .ok (.tuple #[.pointer none, .bool false]) w := by kernel_rfl
theorem ta_allocs_state_allocs_aside (v : Value) (w : World) : (Instr.typeAssert (.iface 211 v) 159 229 true).run Tryz.prog w = .ok (.tuple #[.pointer none, .bool false]) w := by kernel_rfl
theorem ta_allocs_state_allocs_state (v : Value) (w : World) : (Instr.typeAssert (.iface 211 v) 159 211 true).run Tryz.prog w = .ok (.tuple #[v, .bool true]) w := by kernel_rfl
theorem ta_allocs_back_allocs_header (v : Value) (w : World) : (Instr.typeAssert (.iface 293 v) 159 162 true).run Tryz.prog w = .ok (.tuple #[.pointer none, .bool false]) w := by kernel_rfl
theorem ta_allocs_back_allocs_parked (v : Value) (w : World) : (Instr.typeAssert (.iface 293 v) 159 291 true).run Tryz.prog w = .ok (.tuple #[.pointer none, .bool false]) w := by kernel_rfl
theorem ta_allocs_back_allocs_aside (v : Value) (w : World) : (Instr.typeAssert (.iface 293 v) 159 229 true).run Tryz.prog w = .ok (.tuple #[.pointer none, .bool false]) w := by kernel_rfl
theorem ta_allocs_back_allocs_state (v : Value) (w : World) : (Instr.typeAssert (.iface 293 v) 159 211 true).run Tryz.prog w = .ok (.tuple #[.pointer none, .bool false]) w := by kernel_rfl
theorem ta_allocs_back_allocs_back (v : Value) (w : World) : (Instr.typeAssert (.iface 293 v) 159 293 true).run Tryz.prog w = .ok (.tuple #[v, .bool true]) w := by kernel_rfl
theorem ta_allocs_still_allocs_header (v : Value) (w : World) : (Instr.typeAssert (.iface 295 v) 159 162 true).run Tryz.prog w = .ok (.tuple #[.pointer none, .bool false]) w := by kernel_rfl
theorem ta_allocs_still_allocs_parked (v : Value) (w : World) : (Instr.typeAssert (.iface 295 v) 159 291 true).run Tryz.prog w = .ok (.tuple #[.pointer none, .bool false]) w := by kernel_rfl
theorem ta_allocs_still_allocs_aside (v : Value) (w : World) : (Instr.typeAssert (.iface 295 v) 159 229 true).run Tryz.prog w = .ok (.tuple #[.pointer none, .bool false]) w := by kernel_rfl
theorem ta_allocs_still_allocs_state (v : Value) (w : World) : (Instr.typeAssert (.iface 295 v) 159 211 true).run Tryz.prog w = .ok (.tuple #[.pointer none, .bool false]) w := by kernel_rfl
theorem ta_allocs_still_allocs_back (v : Value) (w : World) : (Instr.typeAssert (.iface 295 v) 159 293 true).run Tryz.prog w = .ok (.tuple #[.pointer none, .bool false]) w := by kernel_rfl
theorem ta_allocs_still_allocs_still (v : Value) (w : World) : (Instr.typeAssert (.iface 295 v) 159 295 true).run Tryz.prog w = .ok (.tuple #[v, .bool true]) w := by kernel_rfl
theorem ta_allocs_free_allocs_header (v : Value) (w : World) : (Instr.typeAssert (.iface 297 v) 159 162 true).run Tryz.prog w = .ok (.tuple #[.pointer none, .bool false]) w := by kernel_rfl
theorem ta_allocs_free_allocs_parked (v : Value) (w : World) : (Instr.typeAssert (.iface 297 v) 159 291 true).run Tryz.prog w = .ok (.tuple #[.pointer none, .bool false]) w := by kernel_rfl
theorem ta_allocs_free_allocs_aside (v : Value) (w : World) : (Instr.typeAssert (.iface 297 v) 159 229 true).run Tryz.prog w = .ok (.tuple #[.pointer none, .bool false]) w := by kernel_rfl
theorem ta_allocs_free_allocs_state (v : Value) (w : World) : (Instr.typeAssert (.iface 297 v) 159 211 true).run Tryz.prog w = .ok (.tuple #[.pointer none, .bool false]) w := by kernel_rfl
theorem ta_allocs_free_allocs_back (v : Value) (w : World) : (Instr.typeAssert (.iface 297 v) 159 293 true).run Tryz.prog w = .ok (.tuple #[.pointer none, .bool false]) w := by kernel_rfl
theorem ta_allocs_free_allocs_still (v : Value) (w : World) : (Instr.typeAssert (.iface 297 v) 159 295 true).run Tryz.prog w = .ok (.tuple #[.pointer none, .bool false]) w := by kernel_rfl
theorem ta_allocs_free_allocs_free (v : Value) (w : World) : (Instr.typeAssert (.iface 297 v) 159 297 true).run Tryz.prog w = .ok (.tuple #[v, .bool true]) w := by kernel_rfl
theorem ta_allocs_amend_allocs_header (v : Value) (w : World) : (Instr.typeAssert (.iface 303 v) 159 162 true).run Tryz.prog w = .ok (.tuple #[.pointer none, .bool false]) w := by kernel_rfl
theorem ta_allocs_amend_allocs_parked (v : Value) (w : World) : (Instr.typeAssert (.iface 303 v) 159 291 true).run Tryz.prog w = .ok (.tuple #[.pointer none, .bool false]) w := by kernel_rfl
theorem ta_allocs_amend_allocs_aside (v : Value) (w : World) : (Instr.typeAssert (.iface 303 v) 159 229 true).run Tryz.prog w = .ok (.tuple #[.pointer none, .bool false]) w := by kernel_rfl
theorem ta_allocs_amend_allocs_state (v : Value) (w : World) : (Instr.typeAssert (.iface 303 v) 159 211 true).run Tryz.prog w = .ok (.tuple #[.pointer none, .bool false]) w := by kernel_rfl
theorem ta_allocs_amend_allocs_back (v : Value) (w : World) : (Instr.typeAssert (.iface 303 v) 159 293 true).run Tryz.prog w = .ok (.tuple #[.pointer none, .bool false]) w := by kernel_rfl
theorem ta_allocs_amend_allocs_still (v : Value) (w : World) : (Instr.typeAssert (.iface 303 v) 159 295 true).run Tryz.prog w = .ok (.tuple #[.pointer none, .bool false]) w := by kernel_rfl
theorem ta_allocs_amend_allocs_free (v : Value) (w : World) : (Instr.typeAssert (.iface 303 v) 159 297 true).run Tryz.prog w = .ok (.tuple #[.pointer none, .bool false]) w := by kernel_rfl
theorem ta_frees_Push_allocs_header (v : Value) (w : World) : (Instr.typeAssert (.iface 152 v) 159 162 true).run Tryz.prog w = .ok (.tuple #[.pointer none, .bool false]) w := by kernel_rfl
theorem ta_frees_Push_allocs_parked (v : Value) (w : World) : (Instr.typeAssert (.iface 152 v) 159 291 true).run Tryz.prog w = .ok (.tuple #[.pointer none, .bool false]) w := by kernel_rfl
theorem ta_frees_Push_allocs_aside (v : Value) (w : World) : (Instr.typeAssert (.iface 152 v) 159 229 true).run Tryz.prog w = .ok (.tuple #[.pointer none, .bool false]) w := by kernel_rfl
theorem ta_frees_Push_allocs_state (v : Value) (w : World) : (Instr.typeAssert (.iface 152 v) 159 211 true).run Tryz.prog w = .ok (.tuple #[.pointer none, .bool false]) w := by kernel_rfl
theorem ta_frees_Push_allocs_back (v : Value) (w : World) : (Instr.typeAssert (.iface 152 v) 159 293 true).run Tryz.prog w = .ok (.tuple #[.pointer none, .bool false]) w := by kernel_rfl
theorem ta_frees_Push_allocs_still (v : Value) (w : World) : (Instr.typeAssert (.iface 152 v) 159 295 true).run Tryz.prog w = .ok (.tuple #[.pointer none, .bool false]) w := by kernel_rfl
theorem ta_frees_Push_allocs_free (v : Value) (w : World) : (Instr.typeAssert (.iface 152 v) 159 297 true).run Tryz.prog w = .ok (.tuple #[.pointer none, .bool false]) w := by kernel_rfl
theorem ta_allocs_live_frees_Pop (v : Value) (w : World) : (Instr.typeAssert (.iface 223 v) 159 164 true).run Tryz.prog w = .ok (.tuple #[.pointer none, .bool false]) w := by kernel_rfl
theorem ta_allocs_live_allocs_state (v : Value) (w : World) : (Instr.typeAssert (.iface 223 v) 159 211 true).run Tryz.prog w = .ok (.tuple #[.pointer none, .bool false]) w := by kernel_rfl
theorem ta_allocs_live_allocs_Park (v : Value) (w : World) : (Instr.typeAssert (.iface 223 v) 159 214 true).run Tryz.prog w = .ok (.tuple #[.pointer none, .bool false]) w := by kernel_rfl
theorem ta_allocs_live_allocs_era (v : Value) (w : World) : (Instr.typeAssert (.iface 223 v) 159 216 true).run Tryz.prog w = .ok (.tuple #[.pointer none, .bool false]) w := by kernel_rfl
theorem ta_allocs_live_allocs_birth (v : Value) (w : World) : (Instr.typeAssert (.iface 223 v) 159 218 true).run Tryz.prog w = .ok (.tuple #[.pointer none, .bool false]) w := by kernel_rfl
theorem ta_allocs_live_allocs_header (v : Value) (w : World) : (Instr.typeAssert (.iface 223 v) 159 162 true).run Tryz.prog w = .ok (.tuple #[.pointer none, .bool false]) w := by kernel_rfl
theorem ta_allocs_live_allocs_live (v : Value) (w : World) : (Instr.typeAssert (.iface 223 v) 159 223 true).run Tryz.prog w = .ok (.tuple #[v, .bool true]) w := by kernel_rfl
section
variable {q r : Nat} {t : TypeId} {v0 : Value} {s s' g g' f y u n : Int} {z d : Bool} {cs : List Value} {w w' X Y : World}
theorem Only.setQ (q : Nat) (X : World) (i : Nat) (v : Value) : Only q q X (X.setCell ⟨q, i, none⟩ v) :=
  ⟨rfl, rfl, rfl, by simp [World.setCell], fun k _ h1 _ => Below.heap_setCell X ⟨q, i, none⟩ v k h1⟩
theorem Lay.onlyq (hq : 1 < q) (h : Only q q X Y) (hl : Lay X) : Lay Y := hl.same3 h.size (h.block 1 hl.1 (by omega) (by omega))
theorem Bq.u4 {c0 c1 c2 c3 : Value} (k : Bq q t [c0, c1, c2, c3] w) : w.cell? ⟨q, 0, none⟩ = some c0 ∧ w.cell? ⟨q, 1, none⟩ = some c1 ∧ w.cell? ⟨q, 2, none⟩ = some c2 ∧ w.cell? ⟨q, 3, none⟩ = some c3 := ⟨k.cell 0, k.cell 1, k.cell 2, k.cell 3⟩
theorem Bq.u5 {c0 c1 c2 c3 c4 : Value} (k : Bq q t [c0, c1, c2, c3, c4] w) : w.cell? ⟨q, 0, none⟩ = some c0 ∧ w.cell? ⟨q, 1, none⟩ = some c1 ∧ w.cell? ⟨q, 2, none⟩ = some c2 ∧ w.cell? ⟨q, 3, none⟩ = some c3 ∧ w.cell? ⟨q, 4, none⟩ = some c4 := ⟨k.cell 0, k.cell 1, k.cell 2, k.cell 3, k.cell 4⟩
set_option maxRecDepth 100000 in
set_option maxHeartbeats 4000000 in
theorem pkB_parked (k : Bq q 245 [.iface 291 (.pointer (some ⟨r, 0, none⟩)), .int .i64 s, .int .u32 g, .bool z] w) (hg : Int.tdiv s 8 = f) (hw : IntKind.i64.wrap f = f) :
    Calls Tryz.prog 197 #[.pointer (some ⟨q, 0, none⟩)] w (Behind 245 229 249 q [.iface 291 (.pointer (some ⟨r, 0, none⟩)), .int .i64 s, .int .u32 g, .bool z] [.int .u8 6, .int .i64 f, .int .i64 1, .int .i64 1, .int .u64 0, .bool false] w) := by
  obtain ⟨c0, c1, c2, c3⟩ := k.u4
  have HK := Lib.hid k
  have hqw := k.lt
  clear k
  have hta0 := ta_allocs_parked_allocs_header (.pointer (some ⟨r, 0, none⟩))
  have hta1 := ta_allocs_parked_allocs_parked (.pointer (some ⟨r, 0, none⟩))
  go_enter Tryz.func197, Tryz.ntmps197
  go_wp2_with fail
  ((with_reducible refine (newAside_any s hg hw _).mono ?_); rintro e w1 ⟨r1, rfl, hr, hk, hb⟩)
  have HB := Lib.hid hb
  have HN := Lib.hid hk
  clear hb hk
  go_wp2_with fail
  go_ret
  exact ⟨r1, rfl, hr, HN.out, HK.out.below HB.out, .of_below HB.out⟩
set_option maxRecDepth 100000 in
set_option maxHeartbeats 4000000 in
theorem pkB_aside (k : Bq q 245 [.iface 229 (.pointer (some ⟨r, 0, none⟩)), .int .i64 s, .int .u32 g, .bool z] w) (hg : Int.tdiv s 8 = f) (hw : IntKind.i64.wrap f = f) :
    Calls Tryz.prog 197 #[.pointer (some ⟨q, 0, none⟩)] w (Behind 245 211 213 q [.iface 229 (.pointer (some ⟨r, 0, none⟩)), .int .i64 s, .int .u32 g, .bool z] [.int .u8 6, .int .i64 f, .int .i64 0, .int .u64 0] w) := by
  obtain ⟨c0, c1, c2, c3⟩ := k.u4
  have HK := Lib.hid k
  have hqw := k.lt
  clear k
  have hta0 := ta_allocs_aside_allocs_header (.pointer (some ⟨r, 0, none⟩))
  have hta1 := ta_allocs_aside_allocs_parked (.pointer (some ⟨r, 0, none⟩))
  have hta2 := ta_allocs_aside_allocs_aside (.pointer (some ⟨r, 0, none⟩))
  go_enter Tryz.func197, Tryz.ntmps197
  go_wp2_with fail
  ((with_reducible refine (newState_any s hg hw _).mono ?_); rintro e w1 ⟨r1, rfl, hr, hk, hb⟩)
  have HB := Lib.hid hb
  have HN := Lib.hid hk
  clear hb hk
  go_wp2_with fail
  go_ret
  exact ⟨r1, rfl, hr, HN.out, HK.out.below HB.out, .of_below HB.out⟩
set_option maxRecDepth 100000 in
set_option maxHeartbeats 4000000 in
theorem pkB_stays (k : Bq q 245 [.iface 211 (.pointer (some ⟨r, 0, none⟩)), .int .i64 s, .int .u32 g, .bool z] w) (kr : Bq r 213 [.int .u8 6, .int .i64 f, .int .i64 0, .int .u64 u] w) (hu : (u == 1) = false) :
    Calls Tryz.prog 197 #[.pointer (some ⟨q, 0, none⟩)] w fun e w' => e = .returned .nilIface ∧ Bq q 245 [.iface 211 (.pointer (some ⟨r, 0, none⟩)), .int .i64 s, .int .u32 g, .bool true] w' ∧ Only q q w w' := by
  obtain ⟨c0, c1, c2, c3⟩ := k.u4
  have HK := Lib.hid k
  have hqw := k.lt
  clear k
  have hta0 := ta_allocs_state_allocs_header (.pointer (some ⟨r, 0, none⟩))
  have hta1 := ta_allocs_state_allocs_parked (.pointer (some ⟨r, 0, none⟩))
  have hta2 := ta_allocs_state_allocs_aside (.pointer (some ⟨r, 0, none⟩))
  have hta3 := ta_allocs_state_allocs_state (.pointer (some ⟨r, 0, none⟩))
  have kr3 : w.cell? ⟨r, 3, none⟩ = some (.int .u64 u) := kr.cell 3
  clear kr
  have zz := HK.out.free 3
  go_enter Tryz.func197, Tryz.ntmps197
  go_wp2_with fail
  go_ret
  exact ⟨rfl, HK.out.set 3 (.bool true) rfl, .setQ q _ 3 _⟩
set_option maxRecDepth 100000 in
set_option maxHeartbeats 4000000 in
theorem pkB_back (k : Bq q 245 [.iface 211 (.pointer (some ⟨r, 0, none⟩)), .int .i64 s, .int .u32 g, .bool z] w) (hg : Int.tdiv s 8 = f) (hw : IntKind.i64.wrap f = f) (kr : Bq r 213 [.int .u8 6, .int .i64 f, .int .i64 0, .int .u64 u] w) (hu : (u == 1) = true) :
    Calls Tryz.prog 197 #[.pointer (some ⟨q, 0, none⟩)] w (Behind 245 293 294 q [.iface 211 (.pointer (some ⟨r, 0, none⟩)), .int .i64 s, .int .u32 g, .bool z] [.int .u8 6, .int .i64 f, .int .i64 1, .int .i64 (-1), .int .u64 0, .bool false] w) := by
  obtain ⟨c0, c1, c2, c3⟩ := k.u4
  have HK := Lib.hid k
  have hqw := k.lt
  clear k
  have hta0 := ta_allocs_state_allocs_header (.pointer (some ⟨r, 0, none⟩))
  have hta1 := ta_allocs_state_allocs_parked (.pointer (some ⟨r, 0, none⟩))
  have hta2 := ta_allocs_state_allocs_aside (.pointer (some ⟨r, 0, none⟩))
  have hta3 := ta_allocs_state_allocs_state (.pointer (some ⟨r, 0, none⟩))
  have kr3 : w.cell? ⟨r, 3, none⟩ = some (.int .u64 u) := kr.cell 3
  clear kr
  go_enter Tryz.func197, Tryz.ntmps197
  go_wp2_with fail
  ((with_reducible refine (segAt_any s 1 f hg hw _).mono ?_); rintro e w1 ⟨rfl, hb⟩)
  have HB := Lib.hid hb
  have HK1 := Lib.hid (HK.out.below hb)
  obtain ⟨x0, x1, x2, x3⟩ := HK1.out.u4
  clear hb c0 c1 c2 c3
  go_wp2_with fail
  go_ret
  exact ⟨_, rfl, HB.out.size, Bq.new _ _ _, HK1.out.below ((Below.refl _ _).alloc (Nat.le_refl _) _), .of_below (HB.out.alloc HB.out.size _)⟩
set_option maxRecDepth 100000 in
set_option maxHeartbeats 4000000 in
theorem pkB_still (k : Bq q 245 [.iface 293 (.pointer (some ⟨r, 0, none⟩)), .int .i64 s, .int .u32 g, .bool z] w) (hg : Int.tdiv s 8 = f) (hw : IntKind.i64.wrap f = f) :
    Calls Tryz.prog 197 #[.pointer (some ⟨q, 0, none⟩)] w (Behind 245 295 296 q [.iface 293 (.pointer (some ⟨r, 0, none⟩)), .int .i64 s, .int .u32 g, .bool z] [.int .u8 6, .int .i64 f, .int .i64 0, .int .u64 0] w) := by
  obtain ⟨c0, c1, c2, c3⟩ := k.u4
  have HK := Lib.hid k
  have hqw := k.lt
  clear k
  have hta0 := ta_allocs_back_allocs_header (.pointer (some ⟨r, 0, none⟩))
  have hta1 := ta_allocs_back_allocs_parked (.pointer (some ⟨r, 0, none⟩))
  have hta2 := ta_allocs_back_allocs_aside (.pointer (some ⟨r, 0, none⟩))
  have hta3 := ta_allocs_back_allocs_state (.pointer (some ⟨r, 0, none⟩))
  have hta4 := ta_allocs_back_allocs_back (.pointer (some ⟨r, 0, none⟩))
  go_enter Tryz.func197, Tryz.ntmps197
  go_wp2_with fail
  ((with_reducible refine (segAt_any s 0 f hg hw _).mono ?_); rintro e w1 ⟨rfl, hb⟩)
  have HB := Lib.hid hb
  have HK1 := Lib.hid (HK.out.below hb)
  obtain ⟨x0, x1, x2, x3⟩ := HK1.out.u4
  clear hb c0 c1 c2 c3
  go_wp2_with fail
  go_ret
  exact ⟨_, rfl, HB.out.size, Bq.new _ _ _, HK1.out.below ((Below.refl _ _).alloc (Nat.le_refl _) _), .of_below (HB.out.alloc HB.out.size _)⟩
set_option maxRecDepth 100000 in
set_option maxHeartbeats 4000000 in
theorem pkB_again (k : Bq q 245 [.iface 295 (.pointer (some ⟨r, 0, none⟩)), .int .i64 s, .int .u32 g, .bool z] w) (hg : Int.tdiv s 8 = f) (hw : IntKind.i64.wrap f = f) (kr : Bq r 296 [.int .u8 6, .int .i64 f, .int .i64 0, .int .u64 u] w) (hu : (u == 1) = false) :
    Calls Tryz.prog 197 #[.pointer (some ⟨q, 0, none⟩)] w (Behind 245 229 249 q [.iface 295 (.pointer (some ⟨r, 0, none⟩)), .int .i64 s, .int .u32 g, .bool z] [.int .u8 6, .int .i64 f, .int .i64 1, .int .i64 1, .int .u64 0, .bool false] w) := by
  obtain ⟨c0, c1, c2, c3⟩ := k.u4
  have HK := Lib.hid k
  have hqw := k.lt
  clear k
  have hta0 := ta_allocs_still_allocs_header (.pointer (some ⟨r, 0, none⟩))
  have hta1 := ta_allocs_still_allocs_parked (.pointer (some ⟨r, 0, none⟩))
  have hta2 := ta_allocs_still_allocs_aside (.pointer (some ⟨r, 0, none⟩))
  have hta3 := ta_allocs_still_allocs_state (.pointer (some ⟨r, 0, none⟩))
  have hta4 := ta_allocs_still_allocs_back (.pointer (some ⟨r, 0, none⟩))
  have hta5 := ta_allocs_still_allocs_still (.pointer (some ⟨r, 0, none⟩))
  have kr3 : w.cell? ⟨r, 3, none⟩ = some (.int .u64 u) := kr.cell 3
  clear kr
  go_enter Tryz.func197, Tryz.ntmps197
  go_wp2_with fail
  ((with_reducible refine (newAside_any s hg hw _).mono ?_); rintro e w1 ⟨r1, rfl, hr, hk, hb⟩)
  have HB := Lib.hid hb
  have HN := Lib.hid hk
  clear hb hk
  go_wp2_with fail
  go_ret
  exact ⟨r1, rfl, hr, HN.out, HK.out.below HB.out, .of_below HB.out⟩
set_option maxRecDepth 100000 in
set_option maxHeartbeats 4000000 in
theorem pkB_push (k : Bq q 245 [.iface 297 (.pointer (some ⟨r, 0, none⟩)), .int .i64 s, .int .u32 g, .bool z] w) (h0 : 0 ≤ s) (h1 : s < 256) (kr : Bq r 302 [.int .u8 9, .int .i64 s', .int .i64 0, .int .u64 u, .int .u64 n, .bool true] w) :
    Calls Tryz.prog 197 #[.pointer (some ⟨q, 0, none⟩)] w (Behind 245 152 198 q [.iface 297 (.pointer (some ⟨r, 0, none⟩)), .int .i64 s, .int .u32 g, .bool z] [.int .i64 1, .int .u64 0, .int .i64 s] w) := by
  obtain ⟨c0, c1, c2, c3⟩ := k.u4
  have HK := Lib.hid k
  have hqw := k.lt
  clear k
  have hta0 := ta_allocs_free_allocs_header (.pointer (some ⟨r, 0, none⟩))
  have hta1 := ta_allocs_free_allocs_parked (.pointer (some ⟨r, 0, none⟩))
  have hta2 := ta_allocs_free_allocs_aside (.pointer (some ⟨r, 0, none⟩))
  have hta3 := ta_allocs_free_allocs_state (.pointer (some ⟨r, 0, none⟩))
  have hta4 := ta_allocs_free_allocs_back (.pointer (some ⟨r, 0, none⟩))
  have hta5 := ta_allocs_free_allocs_still (.pointer (some ⟨r, 0, none⟩))
  have hta6 := ta_allocs_free_allocs_free (.pointer (some ⟨r, 0, none⟩))
  have kr5 : w.cell? ⟨r, 5, none⟩ = some (.bool true) := kr.cell 5
  clear kr
  go_enter Tryz.func197, Tryz.ntmps197
  go_wp2_with fail
  ((with_reducible refine (newPush_any s h0 h1 _).mono ?_); rintro e w1 ⟨rfl, hk, hb, -⟩)
  have HB := Lib.hid hb
  have HN := Lib.hid hk
  clear hb hk
  go_wp2_with fail
  go_ret
  exact ⟨_, rfl, Nat.le_refl _, HN.out, HK.out.below HB.out, .of_below HB.out⟩
set_option maxRecDepth 100000 in
set_option maxHeartbeats 4000000 in
theorem pkB_amended (k : Bq q 245 [.iface 303 (.pointer (some ⟨r, 0, none⟩)), .int .i64 s, .int .u32 g, .bool z] w) :
    Calls Tryz.prog 197 #[.pointer (some ⟨q, 0, none⟩)] w fun e w' => e = .returned .nilIface ∧ Bq q 245 [.iface 303 (.pointer (some ⟨r, 0, none⟩)), .int .i64 s, .int .u32 g, .bool z] w' ∧ Only q q w w' := by
  obtain ⟨c0, c1, c2, c3⟩ := k.u4
  have HK := Lib.hid k
  have hqw := k.lt
  clear k
  have hta0 := ta_allocs_amend_allocs_header (.pointer (some ⟨r, 0, none⟩))
  have hta1 := ta_allocs_amend_allocs_parked (.pointer (some ⟨r, 0, none⟩))
  have hta2 := ta_allocs_amend_allocs_aside (.pointer (some ⟨r, 0, none⟩))
  have hta3 := ta_allocs_amend_allocs_state (.pointer (some ⟨r, 0, none⟩))
  have hta4 := ta_allocs_amend_allocs_back (.pointer (some ⟨r, 0, none⟩))
  have hta5 := ta_allocs_amend_allocs_still (.pointer (some ⟨r, 0, none⟩))
  have hta6 := ta_allocs_amend_allocs_free (.pointer (some ⟨r, 0, none⟩))
  go_enter Tryz.func197, Tryz.ntmps197
  go_wp2_with fail
  go_ret
  exact ⟨rfl, HK.out, .of_below (Below.refl _ _)⟩
set_option maxRecDepth 100000 in
set_option maxHeartbeats 4000000 in
theorem pkB_pushed (k : Bq q 245 [.iface 152 (.pointer (some ⟨r, 0, none⟩)), .int .i64 s, .int .u32 g, .bool z] w) :
    Calls Tryz.prog 197 #[.pointer (some ⟨q, 0, none⟩)] w fun e w' => e = .returned .nilIface ∧ Bq q 245 [.iface 152 (.pointer (some ⟨r, 0, none⟩)), .int .i64 s, .int .u32 g, .bool z] w' ∧ Only q q w w' := by
  obtain ⟨c0, c1, c2, c3⟩ := k.u4
  have HK := Lib.hid k
  have hqw := k.lt
  clear k
  have hta0 := ta_frees_Push_allocs_header (.pointer (some ⟨r, 0, none⟩))
  have hta1 := ta_frees_Push_allocs_parked (.pointer (some ⟨r, 0, none⟩))
  have hta2 := ta_frees_Push_allocs_aside (.pointer (some ⟨r, 0, none⟩))
  have hta3 := ta_frees_Push_allocs_state (.pointer (some ⟨r, 0, none⟩))
  have hta4 := ta_frees_Push_allocs_back (.pointer (some ⟨r, 0, none⟩))
  have hta5 := ta_frees_Push_allocs_still (.pointer (some ⟨r, 0, none⟩))
  have hta6 := ta_frees_Push_allocs_free (.pointer (some ⟨r, 0, none⟩))
  go_enter Tryz.func197, Tryz.ntmps197
  go_wp2_with fail
  go_ret
  exact ⟨rfl, HK.out, .of_below (Below.refl _ _)⟩
set_option maxRecDepth 100000 in
set_option maxHeartbeats 4000000 in
theorem alB_live (k : Bq q 167 [.iface 223 (.pointer (some ⟨r, 0, none⟩)), .int .i64 s, .int .u32 g, .bool z, .bool d] w) :
    Calls Tryz.prog 90 #[.pointer (some ⟨q, 0, none⟩)] w fun e w' => e = .returned .nilIface ∧ Bq q 167 [.iface 223 (.pointer (some ⟨r, 0, none⟩)), .int .i64 s, .int .u32 g, .bool z, .bool true] w' ∧ Only q q w w' := by
  obtain ⟨c0, c1, c2, c3, c4⟩ := k.u5
  have HK := Lib.hid k
  have hqw := k.lt
  clear k
  have hta0 := ta_allocs_live_frees_Pop (.pointer (some ⟨r, 0, none⟩))
  have hta1 := ta_allocs_live_allocs_state (.pointer (some ⟨r, 0, none⟩))
  have hta2 := ta_allocs_live_allocs_Park (.pointer (some ⟨r, 0, none⟩))
  have hta3 := ta_allocs_live_allocs_era (.pointer (some ⟨r, 0, none⟩))
  have hta4 := ta_allocs_live_allocs_birth (.pointer (some ⟨r, 0, none⟩))
  have hta5 := ta_allocs_live_allocs_header (.pointer (some ⟨r, 0, none⟩))
  have hta6 := ta_allocs_live_allocs_live (.pointer (some ⟨r, 0, none⟩))
  have zz := HK.out.free 4
  go_enter Tryz.func90, Tryz.ntmps90
  go_wp2_with fail
  go_ret
  exact ⟨rfl, HK.out.set 4 (.bool true) rfl, .setQ q _ 4 _⟩
end
end Go.Proofs.YtmjcbjcnmgleaaaGreatDoor
namespace Go.Proofs.YtmjcbjcnmgleaaaGreatDoor
open Go.RowKit Go.Maps
section
variable {q r : Nat} {t : TypeId} {v0 : Value} {s s' g g' f y u n : Int} {z d : Bool} {cs : List Value} {w w' X Y : World}
def S2 (q : Nat) (c1 c2 : Value) (W : World) : Prop := W.cell? ⟨q, 1, none⟩ = some c1 ∧ W.cell? ⟨q, 2, none⟩ = some c2
theorem Bq.t2 {c0 c1 c2 c3 : Value} (k : Bq q t [c0, c1, c2, c3] w) : S2 q c1 c2 w := ⟨k.cell 1, k.cell 2⟩
def fill6 (e : Nat) (d0 d1 d2 d3 d4 d5 : Value) (W : World) : World := (((((W.setCell ⟨e, 0, none⟩ d0).setCell ⟨e, 1, none⟩ d1).setCell ⟨e, 2, none⟩ d2).setCell ⟨e, 3, none⟩ d3).setCell ⟨e, 4, none⟩ d4).setCell ⟨e, 5, none⟩ d5
theorem Bq.fill6 {c0 c1 c2 c3 c4 c5 d0 d1 d2 d3 d4 d5 : Value} {e : Nat} (k : Bq e t [c0, c1, c2, c3, c4, c5] w) : Bq e t [d0, d1, d2, d3, d4, d5] (fill6 e d0 d1 d2 d3 d4 d5 w) :=
  (((((k.set 0 d0 (cs' := [d0, c1, c2, c3, c4, c5]) rfl).set 1 d1 (cs' := [d0, d1, c2, c3, c4, c5]) rfl).set 2 d2 (cs' := [d0, d1, d2, c3, c4, c5]) rfl).set 3 d3 (cs' := [d0, d1, d2, d3, c4, c5]) rfl).set 4 d4 (cs' := [d0, d1, d2, d3, d4, c5]) rfl).set 5 d5 rfl
theorem below_fill6 {B e : Nat} {d0 d1 d2 d3 d4 d5 : Value} (h : Below B X Y) (he : B ≤ e) : Below B X (fill6 e d0 d1 d2 d3 d4 d5 Y) :=
  (((((h.setCell (p := ⟨e, 0, none⟩) he d0).setCell (p := ⟨e, 1, none⟩) he d1).setCell (p := ⟨e, 2, none⟩) he d2).setCell (p := ⟨e, 3, none⟩) he d3).setCell (p := ⟨e, 4, none⟩) he d4).setCell (p := ⟨e, 5, none⟩) he d5
theorem S2.set {c1 c2 : Value} {e i : Nat} (h : S2 q c1 c2 w) (hn : q ≠ e) (v : Value) : S2 q c1 c2 (w.setCell ⟨e, i, none⟩ v) :=
  ⟨(World.cell?_of_block (a := ⟨q, 1, none⟩) (Below.heap_setCell w ⟨e, i, none⟩ v q hn)).trans h.1, (World.cell?_of_block (a := ⟨q, 2, none⟩) (Below.heap_setCell w ⟨e, i, none⟩ v q hn)).trans h.2⟩
theorem S2.at {c1 c2 : Value} (h : S2 q c1 c2 w) : w.cell? ⟨q, 1, none⟩ = some c1 ∧ w.cell? ⟨q, 2, none⟩ = some c2 := h
theorem S2.at6 {c1 c2 d0 d1 d2 d3 d4 d5 : Value} {e : Nat} (h : S2 q c1 c2 (fill6 e d0 d1 d2 d3 d4 d5 w)) : ((((((w.setCell ⟨e, 0, none⟩ d0).setCell ⟨e, 1, none⟩ d1).setCell ⟨e, 2, none⟩ d2).setCell ⟨e, 3, none⟩ d3).setCell ⟨e, 4, none⟩ d4).setCell ⟨e, 5, none⟩ d5).cell? ⟨q, 1, none⟩ = some c1 ∧ ((((((w.setCell ⟨e, 0, none⟩ d0).setCell ⟨e, 1, none⟩ d1).setCell ⟨e, 2, none⟩ d2).setCell ⟨e, 3, none⟩ d3).setCell ⟨e, 4, none⟩ d4).setCell ⟨e, 5, none⟩ d5).cell? ⟨q, 2, none⟩ = some c2 := h
theorem S2.fill6 {c1 c2 d0 d1 d2 d3 d4 d5 : Value} {e : Nat} (h : S2 q c1 c2 w) (hn : q ≠ e) : S2 q c1 c2 (fill6 e d0 d1 d2 d3 d4 d5 w) := (((((h.set hn d0).set hn d1).set hn d2).set hn d3).set hn d4).set hn d5
set_option maxRecDepth 100000 in
set_option maxHeartbeats 4000000 in
theorem turn_any (k : Bq q 245 [v0, .int .i64 s, .int .u32 g, .bool z] w) (hL : Lay w) (hg : U64 g) :
    Calls Tryz.prog 198 #[.pointer (some ⟨q, 0, none⟩)] w fun e w' => e = .returned (.agg #[.int .u8 9, .int .i64 s, .int .i64 0, .int .u64 (headerW 3 g), .int .u64 (headerW 0 g), .bool false]) ∧ Below w.heap.size w w' := by
  have hb0 : Below w.heap.size w (w.alloc (.cells #[.int .u8 0, .int .i64 0, .int .i64 0, .int .u64 0, .int .u64 0, .bool false] 299)).drew := ((Below.refl _ w).alloc (Nat.le_refl _) _).drew
  have k0 : Bq w.heap.size 299 [.int .u8 0, .int .i64 0, .int .i64 0, .int .u64 0, .int .u64 0, .bool false] (w.alloc (.cells #[.int .u8 0, .int .i64 0, .int .i64 0, .int .u64 0, .int .u64 0, .bool false] 299)).drew := Bq.new _ _ _
  have HB := Lib.hid hb0
  have HK := Lib.hid (k.below hb0)
  have HL := Lib.hid (hL.below hb0)
  have HQ := Lib.hid k.lt
  have hS := Lib.hid HK.out.t2.at
  have H0 := Lib.hid k0
  clear k hL hb0 k0
  go_enter Tryz.func198, Tryz.ntmps198
  go_wp2_with fail
  go_region_held3 (fun w1 => w1.cell? ⟨q, 1, none⟩ = some (.int .i64 s) ∧ w1.cell? ⟨q, 2, none⟩ = some (.int .u32 g))
    (first | with_reducible exact hS.out | with_reducible exact hS1.out | with_reducible exact hS2.out | with_reducible exact hS3.out | with_reducible exact hS4.out | fail)
    (first
      | (go_at_call 121; with_reducible refine (slotAt_any s 0 _).mono ?_; rintro e wA ⟨rfl, hA⟩; have HA := Lib.hid hA; have hS1 := Lib.hid (HK.out.below hA).t2.at; have HCA := Lib.hid (H0.out.below hA); obtain ⟨b0, b1, b2, b3, b4, b5, zb⟩ := Bq.s6 HCA.out; have z0 := zb 0; have z1 := zb 1; have z2 := zb 2; have z3 := zb 3; have z4 := zb 4; have z5 := zb 5; clear hA zb)
      | (go_at_call 49; with_reducible refine (header_any 3 g _ (HL.out.below HA.out) (by decide) hg).mono ?_; rintro e wB ⟨rfl, n, rfl⟩; have HJ := Lib.hid (show Below (w.alloc (.cells #[.int .u8 0, .int .i64 0, .int .i64 0, .int .u64 0, .int .u64 0, .bool false] 299)).drew.heap.size (w.alloc (.cells #[.int .u8 0, .int .i64 0, .int .i64 0, .int .u64 0, .int .u64 0, .bool false] 299)).drew (wA.drewN n) from HA.out.trans ((below_drewN' (Below.refl _ _) n).mono HA.out.size)); have hS2 := Lib.hid (HK.out.below HJ.out).t2.at)
      | (go_at_call 49; with_reducible refine (header_any 0 g _ (HL.out.below HJ.out) (by decide) hg).mono ?_; rintro e wC ⟨rfl, j, rfl⟩; have HI := Lib.hid (show Below (w.alloc (.cells #[.int .u8 0, .int .i64 0, .int .i64 0, .int .u64 0, .int .u64 0, .bool false] 299)).drew.heap.size (w.alloc (.cells #[.int .u8 0, .int .i64 0, .int .i64 0, .int .u64 0, .int .u64 0, .bool false] 299)).drew (wA.drewN (n + j)) from HA.out.trans ((below_drewN' (Below.refl _ _) (n + j)).mono HA.out.size)); have hS3 := Lib.hid (HK.out.below HI.out).t2.at; have HC := Lib.hid ((H0.out.below HI.out).fill6 (d0 := .int .u8 9) (d1 := .int .i64 s) (d2 := .int .i64 0) (d3 := .int .u64 (headerW 3 g)) (d4 := .int .u64 (headerW 0 g)) (d5 := .bool false)); have hS4 := Lib.hid ((HK.out.below HI.out).t2.fill6 (d0 := .int .u8 9) (d1 := .int .i64 s) (d2 := .int .i64 0) (d3 := .int .u64 (headerW 3 g)) (d4 := .int .u64 (headerW 0 g)) (d5 := .bool false) (Nat.ne_of_lt HQ.out)).at6)
      | fail)
  go_wp2_with fail
  exact bodyPost_ret (results_cell Tryz.results198 _ _ _ _ _ _ _ rfl HC.out Tryz.underlying299 rfl (by kernel_rfl)) rfl ⟨rfl, below_fill6 (HB.out.trans (HI.out.mono HB.out.size)) (Nat.le_refl _)⟩
theorem ta_allocs_header_allocs_header (v : Value) (w : World) : (Instr.typeAssert (.iface 162 v) 159 162 true).run Tryz.prog w = .ok (.tuple #[v, .bool true]) w := by kernel_rfl
theorem ta_allocs_header_frees_Pop (v : Value) (w : World) : (Instr.typeAssert (.iface 162 v) 159 164 true).run Tryz.prog w = .ok (.tuple #[.pointer none, .bool false]) w := by kernel_rfl
theorem ta_allocs_header_allocs_state (v : Value) (w : World) : (Instr.typeAssert (.iface 162 v) 159 211 true).run Tryz.prog w = .ok (.tuple #[.pointer none, .bool false]) w := by kernel_rfl
theorem ta_allocs_header_allocs_Park (v : Value) (w : World) : (Instr.typeAssert (.iface 162 v) 159 214 true).run Tryz.prog w = .ok (.tuple #[.pointer none, .bool false]) w := by kernel_rfl
theorem ta_allocs_header_allocs_era (v : Value) (w : World) : (Instr.typeAssert (.iface 162 v) 159 216 true).run Tryz.prog w = .ok (.tuple #[.pointer none, .bool false]) w := by kernel_rfl
theorem ta_allocs_header_allocs_birth (v : Value) (w : World) : (Instr.typeAssert (.iface 162 v) 159 218 true).run Tryz.prog w = .ok (.tuple #[.pointer none, .bool false]) w := by kernel_rfl
theorem ta_allocs_state_frees_Pop (v : Value) (w : World) : (Instr.typeAssert (.iface 211 v) 159 164 true).run Tryz.prog w = .ok (.tuple #[.pointer none, .bool false]) w := by kernel_rfl
theorem ta_allocs_Park_allocs_state (v : Value) (w : World) : (Instr.typeAssert (.iface 214 v) 159 211 true).run Tryz.prog w = .ok (.tuple #[.pointer none, .bool false]) w := by kernel_rfl
theorem ta_allocs_Park_allocs_Park (v : Value) (w : World) : (Instr.typeAssert (.iface 214 v) 159 214 true).run Tryz.prog w = .ok (.tuple #[v, .bool true]) w := by kernel_rfl
theorem ta_frees_Pop_frees_Pop (v : Value) (w : World) : (Instr.typeAssert (.iface 164 v) 159 164 true).run Tryz.prog w = .ok (.tuple #[v, .bool true]) w := by kernel_rfl
theorem ta_allocs_Park_frees_Pop (v : Value) (w : World) : (Instr.typeAssert (.iface 214 v) 159 164 true).run Tryz.prog w = .ok (.tuple #[.pointer none, .bool false]) w := by kernel_rfl
theorem ta_allocs_era_frees_Pop (v : Value) (w : World) : (Instr.typeAssert (.iface 216 v) 159 164 true).run Tryz.prog w = .ok (.tuple #[.pointer none, .bool false]) w := by kernel_rfl
theorem ta_allocs_era_allocs_state (v : Value) (w : World) : (Instr.typeAssert (.iface 216 v) 159 211 true).run Tryz.prog w = .ok (.tuple #[.pointer none, .bool false]) w := by kernel_rfl
theorem ta_allocs_era_allocs_Park (v : Value) (w : World) : (Instr.typeAssert (.iface 216 v) 159 214 true).run Tryz.prog w = .ok (.tuple #[.pointer none, .bool false]) w := by kernel_rfl
theorem ta_allocs_era_allocs_era (v : Value) (w : World) : (Instr.typeAssert (.iface 216 v) 159 216 true).run Tryz.prog w = .ok (.tuple #[v, .bool true]) w := by kernel_rfl
theorem ta_allocs_birth_frees_Pop (v : Value) (w : World) : (Instr.typeAssert (.iface 218 v) 159 164 true).run Tryz.prog w = .ok (.tuple #[.pointer none, .bool false]) w := by kernel_rfl
theorem ta_allocs_birth_allocs_state (v : Value) (w : World) : (Instr.typeAssert (.iface 218 v) 159 211 true).run Tryz.prog w = .ok (.tuple #[.pointer none, .bool false]) w := by kernel_rfl
theorem ta_allocs_birth_allocs_Park (v : Value) (w : World) : (Instr.typeAssert (.iface 218 v) 159 214 true).run Tryz.prog w = .ok (.tuple #[.pointer none, .bool false]) w := by kernel_rfl
theorem ta_allocs_birth_allocs_era (v : Value) (w : World) : (Instr.typeAssert (.iface 218 v) 159 216 true).run Tryz.prog w = .ok (.tuple #[.pointer none, .bool false]) w := by kernel_rfl
theorem ta_allocs_birth_allocs_birth (v : Value) (w : World) : (Instr.typeAssert (.iface 218 v) 159 218 true).run Tryz.prog w = .ok (.tuple #[v, .bool true]) w := by kernel_rfl
theorem Bq.t2' {c0 c1 c2 c3 c4 : Value} (k : Bq q t [c0, c1, c2, c3, c4] w) : S2 q c1 c2 w := ⟨k.cell 1, k.cell 2⟩
theorem S11.of {t2 : TypeId} {c0 c1 c2 c3 c4 d0 d1 d2 d3 : Value} (k : Bq q t [c0, c1, c2, c3, c4] w) (j : Bq r t2 [d0, d1, d2, d3] w) : w.cell? ⟨q, 1, none⟩ = some c1 ∧ w.cell? ⟨r, 3, none⟩ = some d3 := ⟨k.cell 1, j.cell 3⟩
theorem Only.layq (h : Only q q X Y) (hq : 1 < q) (hl : Lay X) : Lay Y := hl.same3 h.size (h.block 1 hl.1 (by omega) (by omega))
set_option maxRecDepth 100000 in
set_option maxHeartbeats 4000000 in
theorem pkB_header (k : Bq q 245 [.iface 162 (.pointer (some ⟨r, 0, none⟩)), .int .i64 s, .int .u32 g, .bool z] w) (hq : 1 < q) (hL : Lay w) (hu : U64 u) (kr : Bq r 209 [.int .u8 9, .int .i64 s', .int .i64 0, .int .u64 u] w) :
    Calls Tryz.prog 197 #[.pointer (some ⟨q, 0, none⟩)] w (Behind 245 291 292 q [.iface 162 (.pointer (some ⟨r, 0, none⟩)), .int .i64 s, .int .u32 (fld u 3 32), .bool z] [.int .u8 9, .int .i64 s, .int .i64 0, .int .u64 (headerW 3 (fld u 3 32))] w) := by
  obtain ⟨c0, c1, c2, c3⟩ := k.u4
  have HK := Lib.hid k
  have hqw := k.lt
  clear k
  have hta0 := ta_allocs_header_allocs_header (.pointer (some ⟨r, 0, none⟩))
  have kr3 : w.cell? ⟨r, 3, none⟩ = some (.int .u64 u) := kr.cell 3
  have HLW := Lib.hid hL
  clear kr
  go_enter Tryz.func197, Tryz.ntmps197
  go_wp2_with fail
  ((with_reducible refine (asHeader_any u w HLW.out hu).mono ?_); rintro e w1 ⟨rfl, n, rfl⟩)
  have HB1 := Lib.hid (show Below w.heap.size w (w.drewN n) from below_drewN' (Below.refl _ _) n)
  clear c0 c1 c2 c3 kr3
  revert HB1
  generalize w.drewN n = wr
  intro HB1
  have HK1 := Lib.hid (HK.out.below HB1.out)
  obtain ⟨x0, x1, x2, x3⟩ := HK1.out.u4
  have zz := HK1.out.free 2
  have HK2 := Lib.hid (HK1.out.set 2 (.int .u32 (fld u 3 32)) (cs' := [.iface 162 (.pointer (some ⟨r, 0, none⟩)), .int .i64 s, .int .u32 (fld u 3 32), .bool z]) rfl)
  have HO2 := Lib.hid ((Only.of_below (p := q) (b := q) HB1.out).trans (.setQ q wr 2 (.int .u32 (fld u 3 32))))
  have HL2 := Lib.hid (HO2.out.layq hq HLW.out)
  go_wp2_with fail
  clear x0 x1 x2 x3 zz
  generalize wr.setCell ⟨q, 2, none⟩ (.int .u32 (fld u 3 32)) = wd at HK2 HO2 HL2 ⊢
  have HD := Lib.hid (show Below wd.heap.size wd wd.drew from (Below.refl _ _).drew)
  have hS := Lib.hid (HK2.out.below HD.out).t2.at
  go_region_held3 (fun w1 => w1.cell? ⟨q, 1, none⟩ = some (.int .i64 s) ∧ w1.cell? ⟨q, 2, none⟩ = some (.int .u32 (fld u 3 32)))
    (first | with_reducible exact hS.out | with_reducible exact hS1.out | with_reducible exact hS2.out | with_reducible exact hS3.out | fail)
    (first
      | (go_at_call 121; with_reducible refine (slotAt_any s 0 _).mono ?_; rintro e wA ⟨rfl, hA⟩; have HA := Lib.hid (show Below wd.heap.size wd wA from HD.out.trans (hA.mono HD.out.size)); have hS1 := Lib.hid (HK2.out.below HA.out).t2.at; clear hA)
      | (go_at_call 49; with_reducible refine (header_any 3 (fld u 3 32) _ (HL2.out.below HA.out) (by decide) (gen_u64' u)).mono ?_; rintro e wB ⟨rfl, j, rfl⟩; have HJ := Lib.hid (show Below wd.heap.size wd (wA.drewN j) from HA.out.trans ((below_drewN' (Below.refl _ _) j).mono HA.out.size)); have hS2 := Lib.hid (HK2.out.below HJ.out).t2.at; have HX := Lib.hid (HK2.out.below (HJ.out.alloc HJ.out.size (.cells #[.int .u8 9, .int .i64 s, .int .i64 0, .int .u64 (headerW 3 (fld u 3 32))] 292))); have hS3 := Lib.hid HX.out.t2.at)
      | fail)
  go_wp2_with fail
  go_ret
  exact ⟨_, rfl, Nat.le_trans HO2.out.size HJ.out.size, Bq.new _ _ _, HX.out, HO2.out.trans (.of_below (HJ.out.alloc HJ.out.size _))⟩
set_option maxRecDepth 100000 in
set_option maxHeartbeats 4000000 in
theorem alB_head (k : Bq q 167 [.iface 162 (.pointer (some ⟨r, 0, none⟩)), .int .i64 s, .int .u32 g, .bool z, .bool d] w) (hq : 1 < q) (hL : Lay w) (hu : U64 u) (kr : Bq r 209 [.int .u8 9, .int .i64 s', .int .i64 0, .int .u64 u] w) :
    Calls Tryz.prog 90 #[.pointer (some ⟨q, 0, none⟩)] w (Behind 167 223 224 q [.iface 162 (.pointer (some ⟨r, 0, none⟩)), .int .i64 s, .int .u32 (fld u 3 32), .bool z, .bool d] [.int .u8 9, .int .i64 s, .int .i64 0, .int .u64 (headerW 1 (fld u 3 32))] w) := by
  obtain ⟨c0, c1, c2, c3, c4⟩ := k.u5
  have HK := Lib.hid k
  have hqw := k.lt
  clear k
  have hta0 := ta_allocs_header_frees_Pop (.pointer (some ⟨r, 0, none⟩))
  have hta1 := ta_allocs_header_allocs_state (.pointer (some ⟨r, 0, none⟩))
  have hta2 := ta_allocs_header_allocs_Park (.pointer (some ⟨r, 0, none⟩))
  have hta3 := ta_allocs_header_allocs_era (.pointer (some ⟨r, 0, none⟩))
  have hta4 := ta_allocs_header_allocs_birth (.pointer (some ⟨r, 0, none⟩))
  have hta5 := ta_allocs_header_allocs_header (.pointer (some ⟨r, 0, none⟩))
  have kr3 : w.cell? ⟨r, 3, none⟩ = some (.int .u64 u) := kr.cell 3
  have HLW := Lib.hid hL
  clear kr
  go_enter Tryz.func90, Tryz.ntmps90
  go_wp2_with fail
  ((with_reducible refine (asHeader_any u w HLW.out hu).mono ?_); rintro e w1 ⟨rfl, n, rfl⟩)
  have HB1 := Lib.hid (show Below w.heap.size w (w.drewN n) from below_drewN' (Below.refl _ _) n)
  clear c0 c1 c2 c3 c4 kr3
  revert HB1
  generalize w.drewN n = wr
  intro HB1
  have HK1 := Lib.hid (HK.out.below HB1.out)
  obtain ⟨x0, x1, x2, x3, x4⟩ := HK1.out.u5
  have zz := HK1.out.free 2
  have HK2 := Lib.hid (HK1.out.set 2 (.int .u32 (fld u 3 32)) (cs' := [.iface 162 (.pointer (some ⟨r, 0, none⟩)), .int .i64 s, .int .u32 (fld u 3 32), .bool z, .bool d]) rfl)
  have HO2 := Lib.hid ((Only.of_below (p := q) (b := q) HB1.out).trans (.setQ q wr 2 (.int .u32 (fld u 3 32))))
  have HL2 := Lib.hid (HO2.out.layq hq HLW.out)
  go_wp2_with fail
  clear x0 x1 x2 x3 x4 zz
  generalize wr.setCell ⟨q, 2, none⟩ (.int .u32 (fld u 3 32)) = wd at HK2 HO2 HL2 ⊢
  have HD := Lib.hid (show Below wd.heap.size wd wd.drew from (Below.refl _ _).drew)
  have hS := Lib.hid (HK2.out.below HD.out).t2'.at
  go_region_held3 (fun w1 => w1.cell? ⟨q, 1, none⟩ = some (.int .i64 s) ∧ w1.cell? ⟨q, 2, none⟩ = some (.int .u32 (fld u 3 32)))
    (first | with_reducible exact hS.out | with_reducible exact hS1.out | with_reducible exact hS2.out | with_reducible exact hS3.out | fail)
    (first
      | (go_at_call 121; with_reducible refine (slotAt_any s 0 _).mono ?_; rintro e wA ⟨rfl, hA⟩; have HA := Lib.hid (show Below wd.heap.size wd wA from HD.out.trans (hA.mono HD.out.size)); have hS1 := Lib.hid (HK2.out.below HA.out).t2'.at; clear hA)
      | (go_at_call 49; with_reducible refine (header_any 1 (fld u 3 32) _ (HL2.out.below HA.out) (by decide) (gen_u64' u)).mono ?_; rintro e wB ⟨rfl, j, rfl⟩; have HJ := Lib.hid (show Below wd.heap.size wd (wA.drewN j) from HA.out.trans ((below_drewN' (Below.refl _ _) j).mono HA.out.size)); have hS2 := Lib.hid (HK2.out.below HJ.out).t2'.at; have HX := Lib.hid (HK2.out.below (HJ.out.alloc HJ.out.size (.cells #[.int .u8 9, .int .i64 s, .int .i64 0, .int .u64 (headerW 1 (fld u 3 32))] 224))); have hS3 := Lib.hid HX.out.t2'.at)
      | fail)
  go_wp2_with fail
  go_ret
  exact ⟨_, rfl, Nat.le_trans HO2.out.size HJ.out.size, Bq.new _ _ _, HX.out, HO2.out.trans (.of_below (HJ.out.alloc HJ.out.size _))⟩
set_option maxRecDepth 100000 in
set_option maxHeartbeats 4000000 in
theorem pkB_free (k : Bq q 245 [.iface 295 (.pointer (some ⟨r, 0, none⟩)), .int .i64 s, .int .u32 g, .bool z] w) (hL : Lay w) (hgu : U64 g) (kr : Bq r 296 [.int .u8 6, .int .i64 f, .int .i64 0, .int .u64 u] w) (hu : (u == 1) = true) :
    Calls Tryz.prog 197 #[.pointer (some ⟨q, 0, none⟩)] w (Behind 245 297 302 q [.iface 295 (.pointer (some ⟨r, 0, none⟩)), .int .i64 s, .int .u32 g, .bool z] [.int .u8 9, .int .i64 s, .int .i64 0, .int .u64 (headerW 3 g), .int .u64 (headerW 0 g), .bool false] w) := by
  obtain ⟨c0, c1, c2, c3⟩ := k.u4
  have HK := Lib.hid k
  have hqw := k.lt
  clear k
  have hta0 := ta_allocs_still_allocs_header (.pointer (some ⟨r, 0, none⟩))
  have hta1 := ta_allocs_still_allocs_parked (.pointer (some ⟨r, 0, none⟩))
  have hta2 := ta_allocs_still_allocs_aside (.pointer (some ⟨r, 0, none⟩))
  have hta3 := ta_allocs_still_allocs_state (.pointer (some ⟨r, 0, none⟩))
  have hta4 := ta_allocs_still_allocs_back (.pointer (some ⟨r, 0, none⟩))
  have hta5 := ta_allocs_still_allocs_still (.pointer (some ⟨r, 0, none⟩))
  have kr3 : w.cell? ⟨r, 3, none⟩ = some (.int .u64 u) := kr.cell 3
  clear kr
  have HLW := Lib.hid hL
  go_enter Tryz.func197, Tryz.ntmps197
  go_wp2_with fail
  ((with_reducible refine (turn_any HK.out HLW.out hgu).mono ?_); rintro e w1 ⟨rfl, hb⟩)
  have HB := Lib.hid hb
  clear hb
  go_wp2_with fail
  go_ret
  exact ⟨_, rfl, HB.out.size, Bq.new _ _ _, HK.out.below (HB.out.alloc HB.out.size _), .of_below (HB.out.alloc HB.out.size _)⟩
set_option maxRecDepth 100000 in
set_option maxHeartbeats 4000000 in
theorem pkB_amend (k : Bq q 245 [.iface 297 (.pointer (some ⟨r, 0, none⟩)), .int .i64 s, .int .u32 g, .bool z] w) (hg : Int.tdiv s 8 = f) (hw : IntKind.i64.wrap f = f) (kr : Bq r 302 [.int .u8 9, .int .i64 s', .int .i64 0, .int .u64 u, .int .u64 n, .bool false] w) :
    Calls Tryz.prog 197 #[.pointer (some ⟨q, 0, none⟩)] w (Behind 245 303 304 q [.iface 297 (.pointer (some ⟨r, 0, none⟩)), .int .i64 s, .int .u32 g, .bool z] [.int .u8 6, .int .i64 f, .int .i64 1, .int .i64 1, .int .u64 0, .bool false] w) := by
  obtain ⟨c0, c1, c2, c3⟩ := k.u4
  have HK := Lib.hid k
  have hqw := k.lt
  clear k
  have hta0 := ta_allocs_free_allocs_header (.pointer (some ⟨r, 0, none⟩))
  have hta1 := ta_allocs_free_allocs_parked (.pointer (some ⟨r, 0, none⟩))
  have hta2 := ta_allocs_free_allocs_aside (.pointer (some ⟨r, 0, none⟩))
  have hta3 := ta_allocs_free_allocs_state (.pointer (some ⟨r, 0, none⟩))
  have hta4 := ta_allocs_free_allocs_back (.pointer (some ⟨r, 0, none⟩))
  have hta5 := ta_allocs_free_allocs_still (.pointer (some ⟨r, 0, none⟩))
  have hta6 := ta_allocs_free_allocs_free (.pointer (some ⟨r, 0, none⟩))
  have kr5 : w.cell? ⟨r, 5, none⟩ = some (.bool false) := kr.cell 5
  clear kr
  go_enter Tryz.func197, Tryz.ntmps197
  go_wp2_with fail
  ((with_reducible refine (newAside_any s hg hw _).mono ?_); rintro e w1 ⟨r1, rfl, hr, hk, hb⟩)
  have HB := Lib.hid hb
  have HN := Lib.hid hk
  obtain ⟨a0, a1, a2, a3, a4, a5, -⟩ := Bq.s6 HN.out
  clear hb hk c0 c1 c2 c3 kr5
  go_wp2_with fail
  go_ret
  exact ⟨_, rfl, HB.out.size, Bq.new _ _ _, HK.out.below (HB.out.alloc HB.out.size _), .of_below (HB.out.alloc HB.out.size _)⟩
set_option maxRecDepth 100000 in
set_option maxHeartbeats 4000000 in
theorem alB_park (k : Bq q 167 [.iface 211 (.pointer (some ⟨r, 0, none⟩)), .int .i64 s, .int .u32 g, .bool z, .bool d] w) (h0 : 0 ≤ s) (h1 : s < 256) (kr : Bq r 213 [.int .u8 6, .int .i64 f, .int .i64 0, .int .u64 u] w) (hu : (u == 2) = true) :
    Calls Tryz.prog 90 #[.pointer (some ⟨q, 0, none⟩)] w fun e w' => ∃ q1 r1, e = .returned (.iface 214 (.pointer (some ⟨q1, 0, none⟩))) ∧ w.heap.size ≤ r1 ∧ r1 < q1 ∧ Bq q1 245 [.iface 162 (.pointer (some ⟨r1, 0, none⟩)), .int .i64 s, .int .u32 0, .bool false] w' ∧ Bq r1 209 [.int .u8 9, .int .i64 s, .int .i64 0, .int .u64 0] w' ∧ Bq q 167 [.iface 211 (.pointer (some ⟨r, 0, none⟩)), .int .i64 s, .int .u32 g, .bool z, .bool d] w' ∧ Only q q w w' := by
  obtain ⟨c0, c1, c2, c3, c4⟩ := k.u5
  have HK := Lib.hid k
  have hqw := k.lt
  clear k
  have hta0 := ta_allocs_state_frees_Pop (.pointer (some ⟨r, 0, none⟩))
  have hta1 := ta_allocs_state_allocs_state (.pointer (some ⟨r, 0, none⟩))
  have kr3 : w.cell? ⟨r, 3, none⟩ = some (.int .u64 u) := kr.cell 3
  clear kr
  go_enter Tryz.func90, Tryz.ntmps90
  go_wp2_with fail
  ((with_reducible refine (newPark_yes h0 h1 _).mono ?_); rintro e w1 ⟨q1, r1, rfl, hr, hq, hk1, hk2, hb⟩)
  have HB := Lib.hid hb
  have H1 := Lib.hid hk1
  have H2 := Lib.hid hk2
  clear hb hk1 hk2
  go_wp2_with fail
  go_ret
  exact ⟨q1, r1, rfl, hr, hq, H1.out, H2.out, HK.out.below HB.out, .of_below HB.out⟩
set_option maxRecDepth 100000 in
set_option maxHeartbeats 4000000 in
theorem alB_none (k : Bq q 167 [.iface 164 (.pointer (some ⟨r, 0, none⟩)), .int .i64 s, .int .u32 g, .bool z, .bool d] w) (hL : Lay w) (hu : U64 u) (hn : wSlot u < 0) (kr : OpAt 210 r 0 u n w) :
    Calls Tryz.prog 90 #[.pointer (some ⟨q, 0, none⟩)] w fun e w' => e = .returned .nilIface ∧ Bq q 167 [.iface 164 (.pointer (some ⟨r, 0, none⟩)), .int .i64 s, .int .u32 g, .bool z, .bool d] w' ∧ Only q q w w' := by
  obtain ⟨c0, c1, c2, c3, c4⟩ := k.u5
  have HK := Lib.hid k
  have hqw := k.lt
  clear k
  have hta0 := ta_frees_Pop_frees_Pop (.pointer (some ⟨r, 0, none⟩))
  have HR := Lib.hid kr
  have HLW := Lib.hid hL
  clear kr
  go_enter Tryz.func90, Tryz.ntmps90
  go_wp2_with fail
  ((with_reducible refine (got_none HLW.out hu hn HR.out).mono ?_); rintro e w1 ⟨rfl, j, rfl⟩)
  have HB := Lib.hid (show Below w.heap.size w (w.drewN j) from below_drewN' (Below.refl _ _) j)
  clear c0 c1 c2 c3 c4
  revert HB
  generalize w.drewN j = wr
  intro HB
  go_wp2_with fail
  go_ret
  exact ⟨rfl, HK.out.below HB.out, .of_below HB.out⟩
set_option maxRecDepth 100000 in
set_option maxHeartbeats 4000000 in
theorem alB_slot (k : Bq q 167 [.iface 164 (.pointer (some ⟨r, 0, none⟩)), .int .i64 s, .int .u32 g, .bool z, .bool d] w) (hL : Lay w) (hu : U64 u) (hn : 0 ≤ wSlot u) (hg : Int.tdiv (wSlot u) 8 = f) (hw : IntKind.i64.wrap f = f) (kr : OpAt 210 r 0 u n w) :
    Calls Tryz.prog 90 #[.pointer (some ⟨q, 0, none⟩)] w (Behind 167 211 213 q [.iface 164 (.pointer (some ⟨r, 0, none⟩)), .int .i64 (wSlot u), .int .u32 g, .bool z, .bool d] [.int .u8 6, .int .i64 f, .int .i64 0, .int .u64 0] w) := by
  obtain ⟨c0, c1, c2, c3, c4⟩ := k.u5
  have HK := Lib.hid k
  have hqw := k.lt
  clear k
  have hta0 := ta_frees_Pop_frees_Pop (.pointer (some ⟨r, 0, none⟩))
  have HR := Lib.hid kr
  have HLW := Lib.hid hL
  clear kr
  go_enter Tryz.func90, Tryz.ntmps90
  go_wp2_with fail
  ((with_reducible refine (got_slot HLW.out hu hn HR.out).mono ?_); rintro e w1 ⟨rfl, j, rfl⟩)
  have HB := Lib.hid (show Below w.heap.size w (w.drewN j) from below_drewN' (Below.refl _ _) j)
  clear c0 c1 c2 c3 c4
  revert HB
  generalize w.drewN j = wr
  intro HB
  have HK1 := Lib.hid (HK.out.below HB.out)
  obtain ⟨x0, x1, x2, x3, x4⟩ := HK1.out.u5
  have zz := HK1.out.free 1
  have HK2 := Lib.hid (HK1.out.set 1 (.int .i64 (wSlot u)) (cs' := [.iface 164 (.pointer (some ⟨r, 0, none⟩)), .int .i64 (wSlot u), .int .u32 g, .bool z, .bool d]) rfl)
  have HO2 := Lib.hid ((Only.of_below (p := q) (b := q) HB.out).trans (.setQ q wr 1 (.int .i64 (wSlot u))))
  go_wp2_with fail
  clear x0 x1 x2 x3 x4 zz
  generalize wr.setCell ⟨q, 1, none⟩ (.int .i64 (wSlot u)) = wd at HK2 HO2 ⊢
  ((with_reducible refine (newState_any (wSlot u) hg hw _).mono ?_); rintro e w2 ⟨r1, rfl, hr, hk, hb⟩)
  have HB2 := Lib.hid hb
  have HN := Lib.hid hk
  clear hb hk
  go_wp2_with fail
  go_ret
  exact ⟨r1, rfl, Nat.le_trans HO2.out.size hr, HN.out, HK2.out.below HB2.out, HO2.out.trans (.of_below HB2.out)⟩
set_option maxRecDepth 100000 in
set_option maxHeartbeats 4000000 in
theorem alB_era (k : Bq q 167 [.iface 211 (.pointer (some ⟨r, 0, none⟩)), .int .i64 s, .int .u32 g, .bool z, .bool d] w) (kr : Bq r 213 [.int .u8 6, .int .i64 f, .int .i64 0, .int .u64 u] w) (hu : (u == 2) = false) :
    Calls Tryz.prog 90 #[.pointer (some ⟨q, 0, none⟩)] w (Behind 167 216 217 q [.iface 211 (.pointer (some ⟨r, 0, none⟩)), .int .i64 s, .int .u32 g, .bool z, .bool d] [.int .u8 2, .int .i64 0, .int .i64 0, .int .u64 0] w) := by
  obtain ⟨c0, c1, c2, c3, c4⟩ := k.u5
  have HK := Lib.hid k
  have hqw := k.lt
  clear k
  have hta0 := ta_allocs_state_frees_Pop (.pointer (some ⟨r, 0, none⟩))
  have hta1 := ta_allocs_state_allocs_state (.pointer (some ⟨r, 0, none⟩))
  have kr3 : w.cell? ⟨r, 3, none⟩ = some (.int .u64 u) := kr.cell 3
  clear kr
  go_enter Tryz.func90, Tryz.ntmps90
  go_wp2_with fail
  go_ret
  exact ⟨_, rfl, Nat.le_refl _, Bq.new _ _ _, HK.out.below ((Below.refl _ _).alloc (Nat.le_refl _) _), .of_below ((Below.refl _ _).alloc (Nat.le_refl _) _)⟩
set_option maxRecDepth 100000 in
set_option maxHeartbeats 4000000 in
theorem alB_pop (k : Bq q 167 [.iface 214 (.pointer (some ⟨r, 0, none⟩)), .int .i64 s, .int .u32 g, .bool z, .bool d] w) :
    Calls Tryz.prog 90 #[.pointer (some ⟨q, 0, none⟩)] w (Behind 167 164 210 q [.iface 214 (.pointer (some ⟨r, 0, none⟩)), .int .i64 s, .int .u32 g, .bool z, .bool d] [.int .i64 1, .int .u64 0, .int .i64 0] w) := by
  obtain ⟨c0, c1, c2, c3, c4⟩ := k.u5
  have HK := Lib.hid k
  have hqw := k.lt
  clear k
  have hta0 := ta_allocs_Park_frees_Pop (.pointer (some ⟨r, 0, none⟩))
  have hta1 := ta_allocs_Park_allocs_state (.pointer (some ⟨r, 0, none⟩))
  have hta2 := ta_allocs_Park_allocs_Park (.pointer (some ⟨r, 0, none⟩))
  go_enter Tryz.func90, Tryz.ntmps90
  go_wp2_with fail
  ((with_reducible refine (newPop_any _).mono ?_); rintro e w1 ⟨rfl, hk, hb, -⟩)
  have HB := Lib.hid hb
  have HN := Lib.hid hk
  clear hb hk
  go_wp2_with fail
  go_ret
  exact ⟨_, rfl, Nat.le_refl _, HN.out, HK.out.below HB.out, .of_below HB.out⟩
set_option maxRecDepth 100000 in
set_option maxHeartbeats 4000000 in
theorem alB_birth (k : Bq q 167 [.iface 216 (.pointer (some ⟨r, 0, none⟩)), .int .i64 s, .int .u32 g, .bool z, .bool d] w) (kr : Bq r 217 [.int .u8 2, .int .i64 0, .int .i64 0, .int .u64 u] w) :
    Calls Tryz.prog 90 #[.pointer (some ⟨q, 0, none⟩)] w (Behind 167 218 222 q [.iface 216 (.pointer (some ⟨r, 0, none⟩)), .int .i64 s, .int .u32 g, .bool z, .bool d] [.int .u8 9, .int .i64 s, .int .i64 1, .int .u64 u] w) := by
  obtain ⟨c0, c1, c2, c3, c4⟩ := k.u5
  have HK := Lib.hid k
  have hqw := k.lt
  clear k
  have hta0 := ta_allocs_era_frees_Pop (.pointer (some ⟨r, 0, none⟩))
  have hta1 := ta_allocs_era_allocs_state (.pointer (some ⟨r, 0, none⟩))
  have hta2 := ta_allocs_era_allocs_Park (.pointer (some ⟨r, 0, none⟩))
  have hta3 := ta_allocs_era_allocs_era (.pointer (some ⟨r, 0, none⟩))
  have HR := Lib.hid kr
  have kr3 : w.cell? ⟨r, 3, none⟩ = some (.int .u64 u) := kr.cell 3
  clear kr
  have HD := Lib.hid (show Below w.heap.size w w.drew from (Below.refl _ _).drew)
  have hS := Lib.hid (S11.of (HK.out.below HD.out) (HR.out.below HD.out))
  go_enter Tryz.func90, Tryz.ntmps90
  go_wp2_with fail
  clear c0 c1 c2 c3 c4 kr3
  go_region_held3 (fun w1 => w1.cell? ⟨q, 1, none⟩ = some (.int .i64 s) ∧ w1.cell? ⟨r, 3, none⟩ = some (.int .u64 u))
    (first | with_reducible exact hS.out | with_reducible exact hS1.out | with_reducible exact hS2.out | fail)
    (first
      | (go_at_call 121; with_reducible refine (slotAt_any s 1 _).mono ?_; rintro e wA ⟨rfl, hA⟩; have HA := Lib.hid (show Below w.heap.size w wA from HD.out.trans (hA.mono HD.out.size)); have hS1 := Lib.hid (S11.of (HK.out.below HA.out) (HR.out.below HA.out)); have HX := Lib.hid (HA.out.alloc HA.out.size (.cells #[.int .u8 9, .int .i64 s, .int .i64 1, .int .u64 u] 222)); have hS2 := Lib.hid (S11.of (HK.out.below HX.out) (HR.out.below HX.out)); clear hA)
      | fail)
  go_wp2_with fail
  go_ret
  exact ⟨_, rfl, HA.out.size, Bq.new _ _ _, HK.out.below HX.out, .of_below HX.out⟩
set_option maxRecDepth 100000 in
set_option maxHeartbeats 4000000 in
theorem alB_header (k : Bq q 167 [.iface 218 (.pointer (some ⟨r, 0, none⟩)), .int .i64 s, .int .u32 g, .bool z, .bool d] w) :
    Calls Tryz.prog 90 #[.pointer (some ⟨q, 0, none⟩)] w (Behind 167 162 209 q [.iface 218 (.pointer (some ⟨r, 0, none⟩)), .int .i64 s, .int .u32 g, .bool z, .bool d] [.int .u8 9, .int .i64 s, .int .i64 0, .int .u64 0] w) := by
  obtain ⟨c0, c1, c2, c3, c4⟩ := k.u5
  have HK := Lib.hid k
  have hqw := k.lt
  clear k
  have hta0 := ta_allocs_birth_frees_Pop (.pointer (some ⟨r, 0, none⟩))
  have hta1 := ta_allocs_birth_allocs_state (.pointer (some ⟨r, 0, none⟩))
  have hta2 := ta_allocs_birth_allocs_Park (.pointer (some ⟨r, 0, none⟩))
  have hta3 := ta_allocs_birth_allocs_era (.pointer (some ⟨r, 0, none⟩))
  have hta4 := ta_allocs_birth_allocs_birth (.pointer (some ⟨r, 0, none⟩))
  go_enter Tryz.func90, Tryz.ntmps90
  go_wp2_with fail
  ((with_reducible refine (newHeader_any s _).mono ?_); rintro e w1 ⟨r1, rfl, hr, hk, hb⟩)
  have HB := Lib.hid hb
  have HN := Lib.hid hk
  clear hb hk
  go_wp2_with fail
  go_ret
  exact ⟨r1, rfl, hr, HN.out, HK.out.below HB.out, .of_below HB.out⟩
end
end Go.Proofs.YtmjcbjcnmgleaaaGreatDoor
