/-
  The law MemsVoid: walked whole: it returns true and only makes memory of its own; condition: the table of rooms reads as the program lays it, numbers of their kinds.
-/
import Derived.Test.YtfnlkapiflkceaaDoorE1
namespace Go.Proofs.YtfnlkapiflkceaaDoor
open Go.RowKit Go.Maps

/-- What the law lays: the address in A, the memory that no call made in V, the list of both in S. -/
structure VoidAt (A V S : Nat) (x : Ad) (w : World) : Prop where
  lay : Lay w
  a0 : w.cell? ⟨A, 0, none⟩ = some (.int .u8 x.k)
  a1 : w.cell? ⟨A, 1, none⟩ = some (.int .i64 x.a)
  a2 : w.cell? ⟨A, 2, none⟩ = some (.int .i64 x.f)
  v0 : w.cell? ⟨V, 0, none⟩ = some (.map none)
  s0 : w.cell? ⟨S, 0, none⟩ = some (.pointer none)
  s1 : w.cell? ⟨S, 1, none⟩ = some (.pointer (some ⟨V, 0, none⟩))
theorem VoidAt.below {A V S : Nat} {x : Ad} {w w' : World} (h : VoidAt A V S x w) (hb : Below w.heap.size w w') : VoidAt A V S x w' :=
  ⟨h.lay.below hb, (hb.cell (World.block_lt_of_cell? w _ h.a0)).trans h.a0, (hb.cell (World.block_lt_of_cell? w _ h.a1)).trans h.a1, (hb.cell (World.block_lt_of_cell? w _ h.a2)).trans h.a2,
    (hb.cell (World.block_lt_of_cell? w _ h.v0)).trans h.v0, (hb.cell (World.block_lt_of_cell? w _ h.s0)).trans h.s0, (hb.cell (World.block_lt_of_cell? w _ h.s1)).trans h.s1⟩
theorem neqAcc : ∀ w : World, (binOp .neq 48 (.agg #[.int .u8 0, .int .u8 0, .int .i64 0, .int .i64 0, .int .u64 0, .int .u64 0, .bool false]) (.agg #[.int .u8 0, .int .u8 0, .int .i64 0, .int .i64 0, .int .u64 0, .int .u64 0, .bool false])).run Tryd.prog w = .ok (.bool false) w := fun _ => by kernel_rfl

theorem store_nil' (x : Ad) (v : Int) (w : World) : Calls Tryd.prog 19 #[.pointer none, .agg #[.int .u8 x.k, .int .i64 x.a, .int .i64 x.f], .int .u64 v] w fun e w' => e = .returned (.tuple #[]) ∧ Below w.heap.size w w' := store_nil x v w
theorem store_void' (p : Nat) (x : Ad) (v : Int) (w : World) (hp : w.cell? ⟨p, 0, none⟩ = some (.map none)) : Calls Tryd.prog 19 #[.pointer (some ⟨p, 0, none⟩), .agg #[.int .u8 x.k, .int .i64 x.a, .int .i64 x.f], .int .u64 v] w fun e w' => e = .returned (.tuple #[]) ∧ Below w.heap.size w w' := store_void p x v w hp
theorem load_nil' (x : Ad) (w : World) : Calls Tryd.prog 11 #[.pointer none, .agg #[.int .u8 x.k, .int .i64 x.a, .int .i64 x.f]] w fun e w' => e = .returned (.int .u64 0) ∧ Below w.heap.size w w' := load_nil x w
theorem load_void' (p : Nat) (x : Ad) (w : World) (hp : w.cell? ⟨p, 0, none⟩ = some (.map none)) : Calls Tryd.prog 11 #[.pointer (some ⟨p, 0, none⟩), .agg #[.int .u8 x.k, .int .i64 x.a, .int .i64 x.f]] w fun e w' => e = .returned (.int .u64 0) ∧ Below w.heap.size w w' := load_void p x w hp
theorem cas_nil' (x : Ad) (u v : Int) (w : World) : Calls Tryd.prog 14 #[.pointer none, .agg #[.int .u8 x.k, .int .i64 x.a, .int .i64 x.f], .int .u64 u, .int .u64 v] w fun e w' => e = .returned (.bool false) ∧ Below w.heap.size w w' := cas_nil x u v w
theorem cas_void' (p : Nat) (x : Ad) (u v : Int) (w : World) (hp : w.cell? ⟨p, 0, none⟩ = some (.map none)) : Calls Tryd.prog 14 #[.pointer (some ⟨p, 0, none⟩), .agg #[.int .u8 x.k, .int .i64 x.a, .int .i64 x.f], .int .u64 u, .int .u64 v] w fun e w' => e = .returned (.bool false) ∧ Below w.heap.size w w' := cas_void p x u v w hp
theorem last_nil' (w : World) : Calls Tryd.prog 21 #[.pointer none] w fun e w' => e = .returned (.agg #[.int .u8 0, .int .u8 0, .int .i64 0, .int .i64 0, .int .u64 0, .int .u64 0, .bool false]) ∧ Below w.heap.size w w' := last_nil w
theorem last_void' (p : Nat) (w : World) (hp : w.cell? ⟨p, 0, none⟩ = some (.map none)) : Calls Tryd.prog 21 #[.pointer (some ⟨p, 0, none⟩)] w fun e w' => e = .returned (.agg #[.int .u8 0, .int .u8 0, .int .i64 0, .int .i64 0, .int .u64 0, .int .u64 0, .bool false]) ∧ Below w.heap.size w w' := last_void p w hp

set_option maxRecDepth 100000 in
set_option maxHeartbeats 8000000 in
theorem lawVoid (x : Ad) (u v : Int) (w : World) (hl : Lay w) : Calls Tryd.prog 4 #[x.v, .int .u64 u, .int .u64 v] w fun e w' => e = .returned (.bool true) ∧ Below w.heap.size w w' := by
  have HL := Lib.hid hl
  clear hl
  have qa := neqAcc
  simp only [Ad.v, addrV]
  go_enter Tryd.func4, Tryd.ntmps4
  go_wp2_with fail
  have HB0 := Lib.hid (show Below w.heap.size w (((w.alloc (.cells #[.int .u8 x.k, .int .i64 x.a, .int .i64 x.f] 31)).alloc (.cells #[.map none, .int .i64 0, .int .u8 0, .int .u8 0, .int .i64 0, .int .i64 0, .int .u64 0, .int .u64 0, .bool false] 50)).alloc (.cells #[.pointer none, .pointer (some ⟨w.heap.size + 1, 0, none⟩)] 24)) from (((Below.refl _ _).alloc (Nat.le_refl _) _).alloc (by simp) _).alloc (by simp; omega) _)
  have HV0 := Lib.hid (show VoidAt w.heap.size (w.heap.size + 1) (w.heap.size + 1 + 1) x (((w.alloc (.cells #[.int .u8 x.k, .int .i64 x.a, .int .i64 x.f] 31)).alloc (.cells #[.map none, .int .i64 0, .int .u8 0, .int .u8 0, .int .i64 0, .int .i64 0, .int .u64 0, .int .u64 0, .bool false] 50)).alloc (.cells #[.pointer none, .pointer (some ⟨w.heap.size + 1, 0, none⟩)] 24)) from
    ⟨HL.out.below HB0.out, by simp [go_sem], by simp [go_sem], by simp [go_sem], by simp [go_sem], by simp [go_sem], by simp [go_sem]⟩)
  revert HB0 HV0
  generalize (((w.alloc (.cells #[.int .u8 x.k, .int .i64 x.a, .int .i64 x.f] 31)).alloc (.cells #[.map none, .int .i64 0, .int .u8 0, .int .u8 0, .int .i64 0, .int .i64 0, .int .u64 0, .int .u64 0, .bool false] 50)).alloc (.cells #[.pointer none, .pointer (some ⟨w.heap.size + 1, 0, none⟩)] 24)) = W0
  intro HB0 HV0
  clear HL
  refine wp_loop_rounds 3 ?_
  rw [rounds_succ]
  have a0 := HV0.out.a0
  have a1 := HV0.out.a1
  have a2 := HV0.out.a2
  have s0 := HV0.out.s0
  have s1 := HV0.out.s1
  go_wp2_with fail
  ((with_reducible refine (store_nil' x v W0).mono ?_); rintro e W1 ⟨rfl, hb⟩)
  have HV1 := Lib.hid (HV0.out.below hb)
  have HB1 := Lib.hid (HB0.out.trans (hb.mono HB0.out.size))
  clear a0 a1 a2 s0 s1 hb HV0 HB0
  have a0 := HV1.out.a0
  have a1 := HV1.out.a1
  have a2 := HV1.out.a2
  have s0 := HV1.out.s0
  have s1 := HV1.out.s1
  go_wp2_with fail
  ((with_reducible refine (load_nil' x W1).mono ?_); rintro e W2 ⟨rfl, hb⟩)
  have HV2 := Lib.hid (HV1.out.below hb)
  have HB2 := Lib.hid (HB1.out.trans (hb.mono HB1.out.size))
  clear a0 a1 a2 s0 s1 hb HV1 HB1
  have a0 := HV2.out.a0
  have a1 := HV2.out.a1
  have a2 := HV2.out.a2
  have s0 := HV2.out.s0
  have s1 := HV2.out.s1
  go_wp2_with fail
  ((with_reducible refine (cas_nil' x u v W2).mono ?_); rintro e W3 ⟨rfl, hb⟩)
  have HV3 := Lib.hid (HV2.out.below hb)
  have HB3 := Lib.hid (HB2.out.trans (hb.mono HB2.out.size))
  clear a0 a1 a2 s0 s1 hb HV2 HB2
  have a0 := HV3.out.a0
  have a1 := HV3.out.a1
  have a2 := HV3.out.a2
  have s0 := HV3.out.s0
  have s1 := HV3.out.s1
  go_wp2_with fail
  ((with_reducible refine (cas_nil' x 0 v W3).mono ?_); rintro e W4 ⟨rfl, hb⟩)
  have HV4 := Lib.hid (HV3.out.below hb)
  have HB4 := Lib.hid (HB3.out.trans (hb.mono HB3.out.size))
  clear a0 a1 a2 s0 s1 hb HV3 HB3
  have a0 := HV4.out.a0
  have a1 := HV4.out.a1
  have a2 := HV4.out.a2
  have s0 := HV4.out.s0
  have s1 := HV4.out.s1
  go_wp2_with fail
  ((with_reducible refine (steps_nil W4).mono ?_); rintro e w' ⟨rfl, rfl⟩)
  clear a0 a1 a2 s0 s1
  have a0 := HV4.out.a0
  have a1 := HV4.out.a1
  have a2 := HV4.out.a2
  have s0 := HV4.out.s0
  have s1 := HV4.out.s1
  go_wp2_with fail
  ((with_reducible refine (last_nil' W4).mono ?_); rintro e W5 ⟨rfl, hb⟩)
  have HV5 := Lib.hid (HV4.out.below hb)
  have HB5 := Lib.hid (HB4.out.trans (hb.mono HB4.out.size))
  clear a0 a1 a2 s0 s1 hb HV4 HB4
  have a0 := HV5.out.a0
  have a1 := HV5.out.a1
  have a2 := HV5.out.a2
  have s0 := HV5.out.s0
  have s1 := HV5.out.s1
  go_wp2_with fail
  ((with_reducible refine (words_nil W5).mono ?_); rintro e w' ⟨rfl, rfl⟩)
  clear a0 a1 a2 s0 s1
  go_wp2_with fail
  rw [rounds_succ]
  have a0 := HV5.out.a0
  have a1 := HV5.out.a1
  have a2 := HV5.out.a2
  have s0 := HV5.out.s0
  have s1 := HV5.out.s1
  go_wp2_with fail
  ((with_reducible refine (store_void' (w.heap.size + 1) x v W5 HV5.out.v0).mono ?_); rintro e W6 ⟨rfl, hb⟩)
  have HV6 := Lib.hid (HV5.out.below hb)
  have HB6 := Lib.hid (HB5.out.trans (hb.mono HB5.out.size))
  clear a0 a1 a2 s0 s1 hb HV5 HB5
  have a0 := HV6.out.a0
  have a1 := HV6.out.a1
  have a2 := HV6.out.a2
  have s0 := HV6.out.s0
  have s1 := HV6.out.s1
  go_wp2_with fail
  ((with_reducible refine (load_void' (w.heap.size + 1) x W6 HV6.out.v0).mono ?_); rintro e W7 ⟨rfl, hb⟩)
  have HV7 := Lib.hid (HV6.out.below hb)
  have HB7 := Lib.hid (HB6.out.trans (hb.mono HB6.out.size))
  clear a0 a1 a2 s0 s1 hb HV6 HB6
  have a0 := HV7.out.a0
  have a1 := HV7.out.a1
  have a2 := HV7.out.a2
  have s0 := HV7.out.s0
  have s1 := HV7.out.s1
  go_wp2_with fail
  ((with_reducible refine (cas_void' (w.heap.size + 1) x u v W7 HV7.out.v0).mono ?_); rintro e W8 ⟨rfl, hb⟩)
  have HV8 := Lib.hid (HV7.out.below hb)
  have HB8 := Lib.hid (HB7.out.trans (hb.mono HB7.out.size))
  clear a0 a1 a2 s0 s1 hb HV7 HB7
  have a0 := HV8.out.a0
  have a1 := HV8.out.a1
  have a2 := HV8.out.a2
  have s0 := HV8.out.s0
  have s1 := HV8.out.s1
  go_wp2_with fail
  ((with_reducible refine (cas_void' (w.heap.size + 1) x 0 v W8 HV8.out.v0).mono ?_); rintro e W9 ⟨rfl, hb⟩)
  have HV9 := Lib.hid (HV8.out.below hb)
  have HB9 := Lib.hid (HB8.out.trans (hb.mono HB8.out.size))
  clear a0 a1 a2 s0 s1 hb HV8 HB8
  have a0 := HV9.out.a0
  have a1 := HV9.out.a1
  have a2 := HV9.out.a2
  have s0 := HV9.out.s0
  have s1 := HV9.out.s1
  go_wp2_with fail
  ((with_reducible refine (steps_void (w.heap.size + 1) W9 HV9.out.v0).mono ?_); rintro e w' ⟨rfl, rfl⟩)
  clear a0 a1 a2 s0 s1
  have a0 := HV9.out.a0
  have a1 := HV9.out.a1
  have a2 := HV9.out.a2
  have s0 := HV9.out.s0
  have s1 := HV9.out.s1
  go_wp2_with fail
  ((with_reducible refine (last_void' (w.heap.size + 1) W9 HV9.out.v0).mono ?_); rintro e W10 ⟨rfl, hb⟩)
  have HV10 := Lib.hid (HV9.out.below hb)
  have HB10 := Lib.hid (HB9.out.trans (hb.mono HB9.out.size))
  clear a0 a1 a2 s0 s1 hb HV9 HB9
  have a0 := HV10.out.a0
  have a1 := HV10.out.a1
  have a2 := HV10.out.a2
  have s0 := HV10.out.s0
  have s1 := HV10.out.s1
  go_wp2_with fail
  ((with_reducible refine (words_void (w.heap.size + 1) W10 HV10.out.v0).mono ?_); rintro e w' ⟨rfl, rfl⟩)
  clear a0 a1 a2 s0 s1
  go_wp2_with fail
  rw [rounds_succ]
  go_wp2_with fail
  ((with_reducible refine (lives_any W10 HV10.out.lay).mono ?_); rintro e w' ⟨rfl, hb⟩)
  go_wp2_with fail
  go_ret
  exact ⟨rfl, HB10.out.trans (hb.mono HB10.out.size)⟩
end Go.Proofs.YtfnlkapiflkceaaDoor
