/-
  The program's memory: may an address be, was a memory made, how many steps, the last one; condition: the table of rooms reads as the program lays it; the memory lies as it says.
-/
import Derived.Test.YtffkjdmpeeagoaaDoorK1
import Derived.Maps.OwnOps
import Derived.Deep.RegionHeld3
import Derived.StillTailTactics
import Derived.RegionTactic
namespace Go.Proofs.YtffkjdmpeeagoaaDoor
open Go.RowKit Go.Maps

/-- The table of rooms lies in its block. -/
def LayM (w : World) : Prop := 1 < w.heap.size ∧ ∀ k : Nat, k < 12 → w.cell? ⟨1, k * 2, none⟩ = some (.int .i64 (atRoom k)) ∧ w.cell? ⟨1, k * 2 + 1, none⟩ = some (.int .i64 (fieldRoom k))
theorem LayM.below {w w' : World} (h : LayM w) (hb : Below w.heap.size w w') : LayM w' :=
  ⟨Nat.lt_of_lt_of_le h.1 hb.size, fun k hk => ⟨(hb.cell (p := ⟨1, k * 2, none⟩) h.1).trans (h.2 k hk).1, (hb.cell (p := ⟨1, k * 2 + 1, none⟩) h.1).trans (h.2 k hk).2⟩⟩
theorem LayM.same {w w' : World} (h : LayM w) (hs : w.heap.size ≤ w'.heap.size) (hb : w'.heap[1]? = w.heap[1]?) : LayM w' :=
  ⟨Nat.lt_of_lt_of_le h.1 hs, fun k hk => ⟨(World.cell?_of_block (a := ⟨1, k * 2, none⟩) hb).trans (h.2 k hk).1, (World.cell?_of_block (a := ⟨1, k * 2 + 1, none⟩) hb).trans (h.2 k hk).2⟩⟩
theorem LayM.alloc {w : World} (h : LayM w) (o : Obj) : LayM (w.alloc o) := h.below ((Below.refl _ _).alloc (Nat.le_refl _) o)

set_option maxHeartbeats 1000000 in
theorem may_low (k a f r s : Int) (w : World) (h0 : 0 ≤ k) (h1 : k < 12) (c0 : (w.alloc (.cells #[.int .u8 k, .int .i64 a, .int .i64 f] 34)).cell? ⟨1, k.toNat * 2, none⟩ = some (.int .i64 r)) (c1 : (w.alloc (.cells #[.int .u8 k, .int .i64 a, .int .i64 f] 34)).cell? ⟨1, k.toNat * 2 + 1, none⟩ = some (.int .i64 s)) :
    Calls Tryd.prog 57 #[.agg #[.int .u8 k, .int .i64 a, .int .i64 f]] w fun e w' => e = .returned (.bool (decide (0 ≤ a) && decide (a < r) && decide (0 ≤ f) && decide (f < s))) ∧ Below w.heap.size w w' := by
  go_enter Tryd.func57, Tryd.ntmps57
  go_wp2
  all_goals
    go_ret
    refine ⟨ret_bool ?_, ((Below.refl _ _).alloc (Nat.le_refl _) _).alloc (by simp) _⟩
    simp
    try omega
theorem may_high (k a f : Int) (w : World) (h1 : 12 ≤ k) (h2 : k ≤ 255) :
    Calls Tryd.prog 57 #[.agg #[.int .u8 k, .int .i64 a, .int .i64 f]] w fun e w' => e = .returned (.bool false) ∧ Below w.heap.size w w' := by
  go_enter Tryd.func57, Tryd.ntmps57
  go_wp2
  go_ret
  exact ⟨rfl, (Below.refl _ _).alloc (Nat.le_refl _) _⟩
theorem may_prog (x : Ad) (w : World) (hl : LayM w) :
    Calls Tryd.prog 57 #[x.v] w fun e w' => e = .returned (.bool (mayB x.k x.a x.f)) ∧ Below w.heap.size w w' := by
  have hk := x.wk
  have h0 : 0 ≤ x.k ∧ x.k ≤ 255 := by simpa [Lit.wf, IntKind.min, IntKind.max, IntKind.signed, IntKind.bits] using hk
  by_cases h : x.k < 12
  · obtain ⟨n, hn⟩ := Int.eq_ofNat_of_zero_le h0.1
    have hc := (hl.alloc (.cells #[.int .u8 x.k, .int .i64 x.a, .int .i64 x.f] 34)).2 n (by omega)
    rw [← hn] at hc
    have hkn : x.k.toNat = n := by omega
    refine (may_low x.k x.a x.f (atRoom x.k) (fieldRoom x.k) w h0.1 h (by rw [hkn]; exact hc.1) (by rw [hkn]; exact hc.2)).mono ?_
    rintro e w' ⟨rfl, hb⟩
    exact ⟨ret_bool (by have e : decide (x.k ≤ 11) = true := by simpa using (show x.k ≤ 11 by omega)
                        unfold mayB; rw [e]; rfl), hb⟩
  · refine (may_high x.k x.a x.f w (by omega) h0.2).mono ?_
    rintro e w' ⟨rfl, hb⟩
    exact ⟨ret_bool (by have e : decide (x.k ≤ 11) = false := by simpa using (show 11 < x.k by omega)
                        unfold mayB; rw [e]; rfl), hb⟩

/-- The program's memory: its struct in block p, its map in block b, of at most n words that read as D. -/
structure PM (p b n : Nat) (D : DataW Unit) (st ak k a f was is : Int) (done : Bool) (w : World) : Prop where
  blk : w.heap[p]? = some (.cells #[.map (some b), .int .i64 st, .int .u8 ak, .int .u8 k, .int .i64 a, .int .i64 f, .int .u64 was, .int .u64 is, .bool done] 109 (0, 0))
  own : w.ownsMap Tryd.prog 34 (plainElem Tryd.prog 35) b n D
theorem PM.cell {p b n : Nat} {D : DataW Unit} {st ak k a f was is : Int} {done : Bool} {w : World} (h : PM p b n D st ak k a f was is done w) (i : Nat) :
    w.cell? ⟨p, i, none⟩ = [.map (some b), .int .i64 st, .int .u8 ak, .int .u8 k, .int .i64 a, .int .i64 f, .int .u64 was, .int .u64 is, .bool done][i]? := by
  simp [World.cell?, h.blk]
theorem PM.free {p b n : Nat} {D : DataW Unit} {st ak k a f was is : Int} {done : Bool} {w : World} (h : PM p b n D st ak k a f was is done w) (i : Nat) : w.frozen? ⟨p, i, none⟩ = false := by
  simp [World.frozen?, h.blk]
theorem PM.lt {p b n : Nat} {D : DataW Unit} {st ak k a f was is : Int} {done : Bool} {w : World} (h : PM p b n D st ak k a f was is done w) : p < w.heap.size := (Array.getElem?_eq_some_iff.1 h.blk).1
theorem PM.ne {p b n : Nat} {D : DataW Unit} {st ak k a f was is : Int} {done : Bool} {w : World} (h : PM p b n D st ak k a f was is done w) : p ≠ b := by
  rintro rfl
  obtain ⟨es, clock, hb, _⟩ := h.own
  have := h.blk.symm.trans hb
  simp at this
theorem PM.below {p b n : Nat} {D : DataW Unit} {st ak k a f was is : Int} {done : Bool} {w w' : World} (h : PM p b n D st ak k a f was is done w) (hb : Below w.heap.size w w') : PM p b n D st ak k a f was is done w' := by
  refine ⟨(hb.block p h.lt).trans h.blk, ?_⟩
  have hlt := h.own.lt
  obtain ⟨es, clock, hbk, rest⟩ := h.own
  exact ⟨es, clock, (hb.block b hlt).trans hbk, rest⟩

theorem made_nil (w : World) : Calls Tryd.prog 46 #[.pointer none] w fun e w' => e = .returned (.bool false) ∧ w = w' := by
  go_enter Tryd.func46, Tryd.ntmps46
  go_wp2
  go_ret
  exact ⟨rfl, rfl⟩
theorem made_void (p : Nat) (w : World) (hp : w.cell? ⟨p, 0, none⟩ = some (.map none)) : Calls Tryd.prog 46 #[.pointer (some ⟨p, 0, none⟩)] w fun e w' => e = .returned (.bool false) ∧ w = w' := by
  have q := run_neq_map_nil (P := Tryd.prog) w 107 34 35 none Tryd.underlying107
  go_enter Tryd.func46, Tryd.ntmps46
  go_wp2
  go_ret
  exact ⟨rfl, rfl⟩
theorem made_yes (p b : Nat) (w : World) (hp : w.cell? ⟨p, 0, none⟩ = some (.map (some b))) : Calls Tryd.prog 46 #[.pointer (some ⟨p, 0, none⟩)] w fun e w' => e = .returned (.bool true) ∧ w = w' := by
  have q := run_neq_map_nil (P := Tryd.prog) w 107 34 35 (some b) Tryd.underlying107
  go_enter Tryd.func46, Tryd.ntmps46
  go_wp2
  go_ret
  exact ⟨rfl, rfl⟩
end Go.Proofs.YtffkjdmpeeagoaaDoor
