/-
  What the walk of the law WordsAgain leans on: words that were put together, taken apart, and what boxes hold; condition: the table of fields reads as the program lays it.
-/
import Derived.Test.YtommlceihogelaaDoorLRef
import Derived.Test.YtommlceihogelaaDoorBack
namespace Go.Proofs.YtommlceihogelaaDoor
open Go.RowKit

-- WHAT IS PUT TOGETHER, TAKEN APART: the contracts at such words
theorem asRef_of (s g : Int) (m : Bool) (w : World) (hL : Lay w) (h0 : -1 ≤ s) (h1 : s < 256) (hg : U32 g) (hn : s = -1 → g = 0) :
    Calls Tryd.prog 13 #[.int .u64 (refW s g m)] w fun e w' => e = .returned (.agg #[.int .i64 s, .int .u32 g, .bool m]) ∧ Below w.heap.size w w' := by
  have h := asRef_any (refW s g m) w hL (refW_u64 s g m)
  obtain ⟨e1, e2, e3⟩ := ref_back_all s g m h0 h1 hg hn
  rwa [e1, e2, e3] at h
theorem asHead_of (s t : Int) (w : World) (hL : Lay w) (h0 : -1 ≤ s) (h1 : s < 256) (ht0 : 0 ≤ t) (ht : t < 281474976710656) :
    Calls Tryd.prog 9 #[.int .u64 (headW s t)] w fun e w' => e = .returned (.tuple #[.int .i64 s, .int .u64 t]) ∧ Below w.heap.size w w' := by
  have h := quiet_b (asHead_any (headW s t) w hL (headW_u64 s t))
  rwa [head_slot s t h0 h1, head_tag, Int.emod_eq_of_lt ht0 ht] at h
theorem asHeader_of (s g : Int) (w : World) (hL : Lay w) (h0 : 0 ≤ s) (h1 : s ≤ 4) (hg : U32 g) :
    Calls Tryd.prog 23 #[.int .u64 (headerW s g)] w fun e w' => e = .returned (.tuple #[.int .u8 s, .int .u32 g]) ∧ Below w.heap.size w w' := by
  have h := quiet_b (asHeader_any (headerW s g) w hL (headerW_u64 s g h0 hg))
  obtain ⟨e1, e2⟩ := header_back s g h0 hg
  rwa [e1, e2, stS_stS, stS_small h1] at h
theorem asBlock_of (j : Int) (c : Bool) (w : World) (hL : Lay w) (hj : U32 j) :
    Calls Tryd.prog 25 #[.int .u64 (blockW j c)] w fun e w' => e = .returned (.tuple #[.int .u32 j, .bool c]) ∧ Below w.heap.size w w' := by
  have h := quiet_b (asBlock_any (blockW j c) w hL (blockW_u64 j c))
  obtain ⟨e1, e2⟩ := block_back j c hj
  rwa [e1, e2] at h
theorem asPhase_of (p o m k : Int) (w : World) (hL : Lay w) (hp0 : 0 ≤ p) (hp : p ≤ 3) (ho0 : 0 ≤ o) (ho : o < 8) (hm0 : 0 ≤ m) (hm : m < 8) (hk0 : 0 ≤ k) (hk : k < 281474976710656) :
    Calls Tryd.prog 33 #[.int .u64 (phaseW p o m k)] w fun e w' => e = .returned (.agg #[.int .u8 p, .int .u8 o, .int .u8 m, .int .u64 k]) ∧ Below w.heap.size w w' := by
  have h := asPhase_any (phaseW p o m k) w hL (phaseW_u64 p o m k)
  obtain ⟨e1, e2, e3, e4⟩ := phase_back p o m k hp0 hp ho0 ho hm0 hm hk0 hk
  rwa [e1, e2, e3, e4] at h
theorem asRef_mark (x : Int) (w : World) (hL : Lay w) (hx : U64 x) :
    Calls Tryd.prog 13 #[.int .u64 (markW x)] w fun e w' => e = .returned (.agg #[.int .i64 (wSlot x), .int .u32 (wGen x), .bool true]) ∧ Below w.heap.size w w' := by
  have h := asRef_any (markW x) w hL (markW_u64 x)
  obtain ⟨e1, e2, e3⟩ := mark_parts x hx
  rwa [e1, e2, e3] at h
theorem asRef_unmark (x : Int) (w : World) (hL : Lay w) (hx : U64 x) :
    Calls Tryd.prog 13 #[.int .u64 (unmarkW x)] w fun e w' => e = .returned (.agg #[.int .i64 (wSlot x), .int .u32 (wGen x), .bool false]) ∧ Below w.heap.size w w' := by
  have h := asRef_any (unmarkW x) w hL (unmarkW_u64 x)
  obtain ⟨e1, e2, e3⟩ := unmark_parts x hx
  rwa [e1, e2, e3] at h
theorem mark_of_unmark (x : Int) (w : World) (hL : Lay w) :
    Calls Tryd.prog 20 #[.int .u64 (unmarkW x)] w fun e w' => e = .returned (.int .u64 (markW x)) ∧ Below w.heap.size w w' := by
  have h := quiet_b (mark_any (unmarkW x) w hL (unmarkW_u64 x))
  rwa [mark_unmark] at h
theorem unmark_of_mark (x : Int) (w : World) (hL : Lay w) :
    Calls Tryd.prog 19 #[.int .u64 (markW x)] w fun e w' => e = .returned (.int .u64 (unmarkW x)) ∧ Below w.heap.size w w' := by
  have h := quiet_b (unmark_any (markW x) w hL (markW_u64 x))
  rwa [unmark_mark] at h

/-- What a ref's box and a phase's hold, while the world goes on. -/
def Box34 (w0 : World) (q r : Nat) (s g : Int) (b : Bool) (p o m k : Int) (w : World) : Prop :=
  (w.cell? ⟨q, 0, none⟩ = some (.int .i64 s) ∧ w.cell? ⟨q, 1, none⟩ = some (.int .u32 g) ∧ w.cell? ⟨q, 2, none⟩ = some (.bool b) ∧
   w.cell? ⟨r, 0, none⟩ = some (.int .u8 p) ∧ w.cell? ⟨r, 1, none⟩ = some (.int .u8 o) ∧ w.cell? ⟨r, 2, none⟩ = some (.int .u8 m) ∧ w.cell? ⟨r, 3, none⟩ = some (.int .u64 k)) ∧ Hid (Below w0.heap.size w0 w)
theorem Box34.step {w0 w1 w2 : World} {q r : Nat} {s g : Int} {b : Bool} {p o m k : Int} (hq : q < w0.heap.size) (hr : r < w0.heap.size) (h : Box34 w0 q r s g b p o m k w1) (hb : Below w1.heap.size w1 w2) : Box34 w0 q r s g b p o m k w2 := by
  obtain ⟨⟨h0, h1, h2, h3, h4, h5, h6⟩, hB⟩ := h
  exact ⟨⟨cell_keep hB.out hb hq h0, cell_keep hB.out hb hq h1, cell_keep hB.out hb hq h2, cell_keep hB.out hb hr h3, cell_keep hB.out hb hr h4, cell_keep hB.out hb hr h5, cell_keep hB.out hb hr h6⟩, Lib.hid (Below.next hB.out hb)⟩
theorem Box34.lay {w0 w1 : World} {q r : Nat} {s g : Int} {b : Bool} {p o m k : Int} (h : Box34 w0 q r s g b p o m k w1) (hL : Lay w0) : Lay w1 := hL.below h.2.out
theorem Box34.drew {w0 w1 : World} {q r : Nat} {s g : Int} {b : Bool} {p o m k : Int} (h : Box34 w0 q r s g b p o m k w1) : Box34 w0 q r s g b p o m k w1.drew := ⟨h.1, Lib.hid h.2.out.drew⟩
theorem Box34.join {w0 w1 : World} {q r : Nat} {s g : Int} {b : Bool} {p o m k : Int} {w00 : World} (h : Box3 w00 q s g b w1) (k' : Box4 w0 r p o m k w1) : Box34 w0 q r s g b p o m k w1 :=
  ⟨⟨h.1.1, h.1.2.1, h.1.2.2, k'.1.1, k'.1.2.1, k'.1.2.2.1, k'.1.2.2.2⟩, k'.2⟩
theorem Box34.ref {w0 w1 : World} {q r : Nat} {s g : Int} {b : Bool} {p o m k : Int} (h : Box34 w0 q r s g b p o m k w1) : Box3 w0 q s g b w1 := ⟨⟨h.1.1, h.1.2.1, h.1.2.2.1⟩, h.2⟩
theorem box3_new (w : World) (s g : Int) (b : Bool) : Box3 (w.alloc (.cells #[.int .i64 s, .int .u32 g, .bool b] 24)) w.heap.size s g b (w.alloc (.cells #[.int .i64 s, .int .u32 g, .bool b] 24)) :=
  ⟨⟨by simp [go_sem], by simp [go_sem], by simp [go_sem]⟩, Lib.hid (Below.refl _ _)⟩
theorem box4_new (w : World) (p o m k : Int) : Box4 (w.alloc (.cells #[.int .u8 p, .int .u8 o, .int .u8 m, .int .u64 k] 48)) w.heap.size p o m k (w.alloc (.cells #[.int .u8 p, .int .u8 o, .int .u8 m, .int .u64 k] 48)) :=
  ⟨⟨by simp [go_sem], by simp [go_sem], by simp [go_sem], by simp [go_sem]⟩, Lib.hid (Below.refl _ _)⟩
theorem below_new (w : World) (o : Obj) : Below w.heap.size w (w.alloc o) := (Below.refl _ _).alloc (Nat.le_refl _) _
theorem size_new (w : World) (o : Obj) : w.heap.size < (w.alloc o).heap.size := by simp

/-- What three refs' boxes hold, while the world goes on. -/
def Box333 (w0 : World) (q r z : Nat) (s g : Int) (b b1 b2 : Bool) (w : World) : Prop :=
  (w.cell? ⟨q, 0, none⟩ = some (.int .i64 s) ∧ w.cell? ⟨q, 1, none⟩ = some (.int .u32 g) ∧ w.cell? ⟨q, 2, none⟩ = some (.bool b) ∧
   w.cell? ⟨r, 0, none⟩ = some (.int .i64 s) ∧ w.cell? ⟨r, 1, none⟩ = some (.int .u32 g) ∧ w.cell? ⟨r, 2, none⟩ = some (.bool b1) ∧
   w.cell? ⟨z, 0, none⟩ = some (.int .i64 s) ∧ w.cell? ⟨z, 1, none⟩ = some (.int .u32 g) ∧ w.cell? ⟨z, 2, none⟩ = some (.bool b2)) ∧ Hid (Below w0.heap.size w0 w)
theorem Box333.step {w0 w1 w2 : World} {q r z : Nat} {s g : Int} {b b1 b2 : Bool} (hq : q < w0.heap.size) (hr : r < w0.heap.size) (hz : z < w0.heap.size) (h : Box333 w0 q r z s g b b1 b2 w1) (hb : Below w1.heap.size w1 w2) : Box333 w0 q r z s g b b1 b2 w2 := by
  obtain ⟨⟨h0, h1, h2, h3, h4, h5, h6, h7, h8⟩, hB⟩ := h
  exact ⟨⟨cell_keep hB.out hb hq h0, cell_keep hB.out hb hq h1, cell_keep hB.out hb hq h2, cell_keep hB.out hb hr h3, cell_keep hB.out hb hr h4, cell_keep hB.out hb hr h5, cell_keep hB.out hb hz h6, cell_keep hB.out hb hz h7, cell_keep hB.out hb hz h8⟩, Lib.hid (Below.next hB.out hb)⟩
theorem Box333.lay {w0 w1 : World} {q r z : Nat} {s g : Int} {b b1 b2 : Bool} (h : Box333 w0 q r z s g b b1 b2 w1) (hL : Lay w0) : Lay w1 := hL.below h.2.out
theorem Box333.drew {w0 w1 : World} {q r z : Nat} {s g : Int} {b b1 b2 : Bool} (h : Box333 w0 q r z s g b b1 b2 w1) : Box333 w0 q r z s g b b1 b2 w1.drew := ⟨h.1, Lib.hid h.2.out.drew⟩
theorem Box333.done {B : Nat} {w w0 w1 : World} {q r z : Nat} {s g : Int} {b b1 b2 : Bool} (hB : Below B w w0) (hlt : B ≤ w0.heap.size) (h : Box333 w0 q r z s g b b1 b2 w1) : Below B w w1 := hB.trans (h.2.out.mono hlt)
theorem Box333.join {w0 w01 w02 : World} {q r z : Nat} {s g : Int} {b b1 b2 : Bool} (h : Box3 w01 q s g b w0) (k : Box3 w02 r s g b1 w0) (l : Box3 w0 z s g b2 w0) : Box333 w0 q r z s g b b1 b2 w0 :=
  ⟨⟨h.1.1, h.1.2.1, h.1.2.2, k.1.1, k.1.2.1, k.1.2.2, l.1.1, l.1.2.1, l.1.2.2⟩, l.2⟩

theorem small_fld (x : Int) (a m : Nat) (M : Int) (h : (2 : Int) ^ m = M) : 0 ≤ fld x a m ∧ fld x a m < M := ⟨fld_nonneg x a m, by have := fld_lt x a m; rwa [h] at this⟩
theorem stS_fld (x : Int) : 0 ≤ stS (fld x 0 3) ∧ stS (fld x 0 3) ≤ 4 := stS_in _ (fld_nonneg x 0 3)
theorem phS_fld (x : Int) : 0 ≤ phS (fld x 0 3) ∧ phS (fld x 0 3) ≤ 3 := phS_in _ (fld_nonneg x 0 3)
theorem u32_fld (x : Int) (a : Nat) : U32 (fld x a 32) := ⟨(small_fld x a 32 _ p32).1, (small_fld x a 32 _ p32).2⟩
theorem phS_u64 (p : Int) (h0 : 0 ≤ p) (_h1 : p ≤ 3) : U64 (phS p) := by have := phS_in p h0; exact u64_small (by omega) (by omega)

end Go.Proofs.YtommlceihogelaaDoor
