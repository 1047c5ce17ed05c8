/-
  The law's pair of memories: a store into both, and whether the last step of both was the same; condition: both lie as they say.
-/
import Derived.Test.YtodfjnpnfalioaaDoorD5
import Derived.Deep.RegionHeld3
namespace Go.Proofs.YtodfjnpnfalioaaDoor
open Go.RowKit Go.Maps

theorem Fr.lay {p m b : Nat} {X Y : World} (h : Fr p m b X Y) (hm : 0 < m) (hl : LayM X) : LayM Y := hl.same h.low.size (h.low.block 0 hm)
theorem Fr.cell {p m b : Nat} {X Y : World} (h : Fr p m b X Y) {q : Nat} {cs : Array Value} {t : TypeId} (hq : X.heap[q]? = some (.cells cs t (0, 0))) (ht : t ≠ 116) (h1 : q ≠ p) (h2 : q ≠ b) : Y.heap[q]? = some (.cells cs t (0, 0)) := h.far q cs t (0, 0) hq ht h1 h2
set_option maxRecDepth 100000 in
theorem eq_acc (s : Acc8) (w : World) : (binOp .eql 74 (.agg #[.int .u8 s.ak, .int .u8 s.k, .int .i64 s.a, .int .i64 s.f, .int .u64 s.was, .int .u64 s.is, .bool s.done]) (.agg #[.int .u8 s.ak, .int .u8 s.k, .int .i64 s.a, .int .i64 s.f, .int .u64 s.was, .int .u64 s.is, .bool s.done])).run Tryd.prog w = .ok (.bool true) w := by
  have hS : Tryd.prog.underlying 74 = some (.struct (Tryd.prog.fieldsOf 74)) := by kernel_rfl
  have hp : Tryd.prog.stoodInHeld 74 = false := by kernel_rfl
  have hS1 : Tryd.prog.underlying 55 = some (.struct (Tryd.prog.fieldsOf 55)) := by kernel_rfl
  have hp1 : Tryd.prog.stoodInHeld 55 = false := by kernel_rfl
  have e31 : ∀ w, (Op.equalIn 9999 55 (.agg #[.int .u8 s.k, .int .i64 s.a, .int .i64 s.f]) (.agg #[.int .u8 s.k, .int .i64 s.a, .int .i64 s.f])).run Tryd.prog w = .ok true w := fun w => by
    rw [show (9999 : Nat) = 9998 + 1 from rfl, run_equalIn_agg w 9998 55 _ _ hS1 hp1]
    simp only [Program.fieldsOf, Tryd.underlying55]
    go_simp
  rw [run_eql_struct, show (10000 : Nat) = 9999 + 1 from rfl, run_equalIn_agg w 9999 74 _ _ hS hp]
  clear hS1 hp1
  simp only [Program.fieldsOf, Tryd.underlying74]
  go_simp

section
variable {p m b n : Nat} {D : DataW Unit} {s r : Acc8} {L : List (Ad × Int)} {W : World}
set_option maxRecDepth 100000 in
set_option maxHeartbeats 2000000 in
theorem pair_store (x : Ad) (v : Int) (hv : (Lit.int .u64 v).wf = true) (h : Pr p m b n D s L r W) (hl : LayM W) (h0 : 0 ≤ s.st) (h1 : s.st < 1000000) (hn : n < 1000000) (hL : L.length ≤ 999) (h2 : 0 ≤ r.st) (h3 : r.st < 1000000) :
    Calls Tryd.prog 26 #[.agg #[.pointer (some ⟨p, 0, none⟩), .pointer (some ⟨b, 0, none⟩)], .agg #[.int .u8 x.k, .int .i64 x.a, .int .i64 x.f, .int .u64 v]] W fun e W' =>
      e = .returned (.tuple #[]) ∧ Pr p m b (n + 1) (storeD D x v) (s.touch 2 x (valD D x) (valD (storeD D x v) x) false) (storeA L x v) (r.touch 2 x (vals L x) (vals (storeA L x v) x) false) W' ∧ Fr p m b W W' := by
  have hB : Below W.heap.size W ((W.alloc (.cells #[.pointer (some ⟨p, 0, none⟩), .pointer (some ⟨b, 0, none⟩)] 27)).alloc (.cells #[.int .u8 x.k, .int .i64 x.a, .int .i64 x.f, .int .u64 v] 79)) := ((Below.refl _ _).alloc (Nat.le_refl _) _).alloc (by simp) _
  have HP := Lib.hid (h.below hB)
  have HL := Lib.hid (hl.below hB)
  have HF := Lib.hid (Fr.of_below (p := p) (b := b) hB h.m_le)
  have HV := Lib.hid hv
  have hlt := h.lt
  have hpb := h.pb
  have k0 : ((W.alloc (.cells #[.pointer (some ⟨p, 0, none⟩), .pointer (some ⟨b, 0, none⟩)] 27)).alloc (.cells #[.int .u8 x.k, .int .i64 x.a, .int .i64 x.f, .int .u64 v] 79)).heap[W.heap.size]? = some (.cells #[.pointer (some ⟨p, 0, none⟩), .pointer (some ⟨b, 0, none⟩)] 27 (0, 0)) :=
    (Below.heap_alloc _ _ _ (by simp)).trans (World.alloc_heap_new _ _)
  have k1 : ((W.alloc (.cells #[.pointer (some ⟨p, 0, none⟩), .pointer (some ⟨b, 0, none⟩)] 27)).alloc (.cells #[.int .u8 x.k, .int .i64 x.a, .int .i64 x.f, .int .u64 v] 79)).heap[W.heap.size + 1]? = some (.cells #[.int .u8 x.k, .int .i64 x.a, .int .i64 x.f, .int .u64 v] 79 (0, 0)) := by
    have := World.alloc_heap_new (W.alloc (.cells #[.pointer (some ⟨p, 0, none⟩), .pointer (some ⟨b, 0, none⟩)] 27)) (.cells #[.int .u8 x.k, .int .i64 x.a, .int .i64 x.f, .int .u64 v] 79)
    simpa using this
  have HK0 := Lib.hid k0
  have HK1 := Lib.hid k1
  have c0 := Joins.cell_of_block k0 0
  have c1 := Joins.cell_of_block k0 1
  have d0 := Joins.cell_of_block k1 0
  have d1 := Joins.cell_of_block k1 1
  have d2 := Joins.cell_of_block k1 2
  have d3 := Joins.cell_of_block k1 3
  simp only [List.getElem?_toArray, List.getElem?_cons_zero, List.getElem?_cons_succ] at c0 c1 d0 d1 d2 d3
  clear h hl hv hB k0 k1
  go_enter Tryd.func26, Tryd.ntmps26
  go_wp2_with fail
  revert HP HL HF HK0 HK1 c0 c1 d0 d1 d2 d3
  generalize (W.alloc (.cells #[.pointer (some ⟨p, 0, none⟩), .pointer (some ⟨b, 0, none⟩)] 27)).alloc (.cells #[.int .u8 x.k, .int .i64 x.a, .int .i64 x.f, .int .u64 v] 79) = W1
  intro HP HL HF HK0 HK1 c0 c1 d0 d1 d2 d3
  ((with_reducible refine (store_p x v HV.out HP.out HL.out h0 h1 hn).mono ?_); rintro e W2 ⟨rfl, hp, hf⟩)
  have HP2 := Lib.hid hp
  have HF2 := Lib.hid (HF.out.trans hf)
  have g1 := hf.cell HK0.out (by decide) (by omega) (by omega)
  have g2 := hf.cell HK1.out (by decide) (by omega) (by omega)
  have e1 := Joins.cell_of_block g1 1
  have f0 := Joins.cell_of_block g2 0
  have f1 := Joins.cell_of_block g2 1
  have f2 := Joins.cell_of_block g2 2
  have f3 := Joins.cell_of_block g2 3
  simp only [List.getElem?_toArray, List.getElem?_cons_zero, List.getElem?_cons_succ] at e1 f0 f1 f2 f3
  clear hp hf g1 g2 HP HL HF HK0 HK1 c0 c1 d0 d1 d2 d3
  go_wp2_with fail
  ((with_reducible refine (store_r x v HP2.out hL h2 h3).mono ?_); rintro e W3 ⟨rfl, hp, hf⟩)
  have HP3 := Lib.hid hp
  have HF3 := Lib.hid (HF2.out.trans hf)
  clear hp hf
  go_wp2_with fail
  go_end0
  exact ⟨rfl, HP3.out, HF3.out⟩
theorem steps_p (h : Pr p m b n D s L r W) : Calls Tryd.prog 8 #[.pointer (some ⟨p, 0, none⟩)] W fun e W' => e = .returned (.int .i64 s.st) ∧ W = W' :=
  steps_prog p m n D s.st s.ak s.k s.a s.f s.was s.is s.done W h.prog
/-- What Same reads, while the world goes on. -/
def SameS (q p b : Nat) (r : Acc8) (w0 W : World) : Prop :=
  (W.cell? ⟨q, 0, none⟩ = some (.pointer (some ⟨p, 0, none⟩)) ∧ W.cell? ⟨q, 1, none⟩ = some (.pointer (some ⟨b, 0, none⟩)) ∧ W.cell? ⟨b, 1, none⟩ = some (.int .i64 r.st) ∧ W.cell? ⟨b, 2, none⟩ = some (.int .u8 r.ak) ∧ W.cell? ⟨b, 3, none⟩ = some (.int .u8 r.k) ∧ W.cell? ⟨b, 4, none⟩ = some (.int .i64 r.a) ∧
    W.cell? ⟨b, 5, none⟩ = some (.int .i64 r.f) ∧ W.cell? ⟨b, 6, none⟩ = some (.int .u64 r.was) ∧ W.cell? ⟨b, 7, none⟩ = some (.int .u64 r.is) ∧ W.cell? ⟨b, 8, none⟩ = some (.bool r.done)) ∧ Hid (Below w0.heap.size w0 W)
theorem SameS.step {q p b : Nat} {r : Acc8} {w0 w W : World} (h : SameS q p b r w0 w) (hb : Below w.heap.size w W) : SameS q p b r w0 W := by
  obtain ⟨⟨h0, h1, h2, h3, h4, h5, h6, h7, h8, h9⟩, hB⟩ := h
  have k : ∀ {q j : Nat} {v : Value}, w.cell? ⟨q, j, none⟩ = some v → W.cell? ⟨q, j, none⟩ = some v := fun {q j v} hc => (hb.cell (p := ⟨q, j, none⟩) (World.block_lt_of_cell? w _ hc)).trans hc
  exact ⟨⟨k h0, k h1, k h2, k h3, k h4, k h5, k h6, k h7, k h8, k h9⟩, Lib.hid (hB.out.trans (hb.mono hB.out.size))⟩
end
end Go.Proofs.YtodfjnpnfalioaaDoor
