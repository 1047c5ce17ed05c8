/-
  The law's pair of memories: a store into both, and whether the last step of both was the same; condition: both lie as they say.
  The law's Begin, with no words: two new memories that say the same; no condition.
  The law's Begin, with any words: two memories that say the same; condition: the table of rooms reads as the program lays it, the words lie as they say, at most 300.
-/
import Derived.Test.YtapcgikamldchaaDoorD4
import Derived.Deep.RegionHeld3
import Derived.Outline
namespace Go.Proofs.YtapcgikamldchaaDoor
open Go.RowKit Go.Maps

theorem Fr.lay {p m b : Nat} {X Y : World} (h : Fr p m b X Y) (hm : 0 < m) (hl : LayM X) : LayM Y := hl.same h.low.size (h.low.block 0 hm)
theorem Fr.cell {p m b : Nat} {X Y : World} (h : Fr p m b X Y) {q : Nat} {cs : Array Value} {t : TypeId} (hq : X.heap[q]? = some (.cells cs t (0, 0))) (ht : t ≠ 106) (h1 : q ≠ p) (h2 : q ≠ b) : Y.heap[q]? = some (.cells cs t (0, 0)) := h.far q cs t (0, 0) hq ht h1 h2
set_option maxRecDepth 100000 in
theorem eq_acc (s : Acc8) (w : World) : (binOp .eql 78 (.agg #[.int .u8 s.ak, .int .u8 s.k, .int .i64 s.a, .int .i64 s.f, .int .u64 s.was, .int .u64 s.is, .bool s.done]) (.agg #[.int .u8 s.ak, .int .u8 s.k, .int .i64 s.a, .int .i64 s.f, .int .u64 s.was, .int .u64 s.is, .bool s.done])).run Tryd.prog w = .ok (.bool true) w := by
  have hS : Tryd.prog.underlying 78 = some (.struct (Tryd.prog.fieldsOf 78)) := by kernel_rfl
  have hp : Tryd.prog.stoodInHeld 78 = false := by kernel_rfl
  have hS1 : Tryd.prog.underlying 42 = some (.struct (Tryd.prog.fieldsOf 42)) := by kernel_rfl
  have hp1 : Tryd.prog.stoodInHeld 42 = false := by kernel_rfl
  have e31 : ∀ w, (Op.equalIn 9999 42 (.agg #[.int .u8 s.k, .int .i64 s.a, .int .i64 s.f]) (.agg #[.int .u8 s.k, .int .i64 s.a, .int .i64 s.f])).run Tryd.prog w = .ok true w := fun w => by
    rw [show (9999 : Nat) = 9998 + 1 from rfl, run_equalIn_agg w 9998 42 _ _ hS1 hp1]
    simp only [Program.fieldsOf, Tryd.underlying42]
    go_simp
  rw [run_eql_struct, show (10000 : Nat) = 9999 + 1 from rfl, run_equalIn_agg w 9999 78 _ _ hS hp]
  clear hS1 hp1
  simp only [Program.fieldsOf, Tryd.underlying78]
  go_simp

section
variable {p m b n : Nat} {D : DataW Unit} {s r : Acc8} {L : List (Ad × Int)} {W : World}
set_option maxRecDepth 100000 in
set_option maxHeartbeats 2000000 in
theorem pair_store (x : Ad) (v : Int) (hv : (Lit.int .u64 v).wf = true) (h : Pr p m b n D s L r W) (hl : LayM W) (h0 : 0 ≤ s.st) (h1 : s.st < 1000000) (hn : n < 1000000) (hL : L.length ≤ 999) (h2 : 0 ≤ r.st) (h3 : r.st < 1000000) :
    Calls Tryd.prog 11 #[.agg #[.pointer (some ⟨p, 0, none⟩), .pointer (some ⟨b, 0, none⟩)], .agg #[.int .u8 x.k, .int .i64 x.a, .int .i64 x.f, .int .u64 v]] W fun e W' =>
      e = .returned (.tuple #[]) ∧ Pr p m b (n + 1) (storeD D x v) (s.touch 2 x (valD D x) (valD (storeD D x v) x) false) (storeA L x v) (r.touch 2 x (vals L x) (vals (storeA L x v) x) false) W' ∧ Fr p m b W W' := by
  have hB : Below W.heap.size W ((W.alloc (.cells #[.pointer (some ⟨p, 0, none⟩), .pointer (some ⟨b, 0, none⟩)] 27)).alloc (.cells #[.int .u8 x.k, .int .i64 x.a, .int .i64 x.f, .int .u64 v] 44)) := ((Below.refl _ _).alloc (Nat.le_refl _) _).alloc (by simp) _
  have HP := Lib.hid (h.below hB)
  have HL := Lib.hid (hl.below hB)
  have HF := Lib.hid (Fr.of_below (p := p) (b := b) hB h.m_le)
  have HV := Lib.hid hv
  have hlt := h.lt
  have hpb := h.pb
  have k0 : ((W.alloc (.cells #[.pointer (some ⟨p, 0, none⟩), .pointer (some ⟨b, 0, none⟩)] 27)).alloc (.cells #[.int .u8 x.k, .int .i64 x.a, .int .i64 x.f, .int .u64 v] 44)).heap[W.heap.size]? = some (.cells #[.pointer (some ⟨p, 0, none⟩), .pointer (some ⟨b, 0, none⟩)] 27 (0, 0)) :=
    (Below.heap_alloc _ _ _ (by simp)).trans (World.alloc_heap_new _ _)
  have k1 : ((W.alloc (.cells #[.pointer (some ⟨p, 0, none⟩), .pointer (some ⟨b, 0, none⟩)] 27)).alloc (.cells #[.int .u8 x.k, .int .i64 x.a, .int .i64 x.f, .int .u64 v] 44)).heap[W.heap.size + 1]? = some (.cells #[.int .u8 x.k, .int .i64 x.a, .int .i64 x.f, .int .u64 v] 44 (0, 0)) := by
    have := World.alloc_heap_new (W.alloc (.cells #[.pointer (some ⟨p, 0, none⟩), .pointer (some ⟨b, 0, none⟩)] 27)) (.cells #[.int .u8 x.k, .int .i64 x.a, .int .i64 x.f, .int .u64 v] 44)
    simpa using this
  have HK0 := Lib.hid k0
  have HK1 := Lib.hid k1
  have c0 := Joins.cell_of_block k0 0
  have c1 := Joins.cell_of_block k0 1
  have d0 := Joins.cell_of_block k1 0
  have d1 := Joins.cell_of_block k1 1
  have d2 := Joins.cell_of_block k1 2
  have d3 := Joins.cell_of_block k1 3
  simp only [List.getElem?_toArray, List.getElem?_cons_zero, List.getElem?_cons_succ] at c0 c1 d0 d1 d2 d3
  clear h hl hv hB k0 k1
  go_enter Tryd.func11, Tryd.ntmps11
  go_wp2_with fail
  revert HP HL HF HK0 HK1 c0 c1 d0 d1 d2 d3
  generalize (W.alloc (.cells #[.pointer (some ⟨p, 0, none⟩), .pointer (some ⟨b, 0, none⟩)] 27)).alloc (.cells #[.int .u8 x.k, .int .i64 x.a, .int .i64 x.f, .int .u64 v] 44) = W1
  intro HP HL HF HK0 HK1 c0 c1 d0 d1 d2 d3
  ((with_reducible refine (store_p x v HV.out HP.out HL.out h0 h1 hn).mono ?_); rintro e W2 ⟨rfl, hp, hf⟩)
  have HP2 := Lib.hid hp
  have HF2 := Lib.hid (HF.out.trans hf)
  have g1 := hf.cell HK0.out (by decide) (by omega) (by omega)
  have g2 := hf.cell HK1.out (by decide) (by omega) (by omega)
  have e1 := Joins.cell_of_block g1 1
  have f0 := Joins.cell_of_block g2 0
  have f1 := Joins.cell_of_block g2 1
  have f2 := Joins.cell_of_block g2 2
  have f3 := Joins.cell_of_block g2 3
  simp only [List.getElem?_toArray, List.getElem?_cons_zero, List.getElem?_cons_succ] at e1 f0 f1 f2 f3
  clear hp hf g1 g2 HP HL HF HK0 HK1 c0 c1 d0 d1 d2 d3
  go_wp2_with fail
  ((with_reducible refine (store_r x v HP2.out hL h2 h3).mono ?_); rintro e W3 ⟨rfl, hp, hf⟩)
  have HP3 := Lib.hid hp
  have HF3 := Lib.hid (HF2.out.trans hf)
  clear hp hf
  go_wp2_with fail
  go_end0
  exact ⟨rfl, HP3.out, HF3.out⟩
theorem last_p (h : Pr p m b n D s L r W) : Calls Tryd.prog 31 #[.pointer (some ⟨p, 0, none⟩)] W fun e W' => e = .returned (.agg #[.int .u8 s.ak, .int .u8 s.k, .int .i64 s.a, .int .i64 s.f, .int .u64 s.was, .int .u64 s.is, .bool s.done]) ∧ Below W.heap.size W W' :=
  last_prog p m n D s.st s.ak s.k s.a s.f s.was s.is s.done W h.prog
theorem steps_p (h : Pr p m b n D s L r W) : Calls Tryd.prog 19 #[.pointer (some ⟨p, 0, none⟩)] W fun e W' => e = .returned (.int .i64 s.st) ∧ W = W' :=
  steps_prog p m n D s.st s.ak s.k s.a s.f s.was s.is s.done W h.prog
/-- What Same reads, while the world goes on. -/
def SameS (q p b : Nat) (r : Acc8) (w0 W : World) : Prop :=
  (W.cell? ⟨q, 0, none⟩ = some (.pointer (some ⟨p, 0, none⟩)) ∧ W.cell? ⟨q, 1, none⟩ = some (.pointer (some ⟨b, 0, none⟩)) ∧ W.cell? ⟨b, 1, none⟩ = some (.int .i64 r.st) ∧ W.cell? ⟨b, 2, none⟩ = some (.int .u8 r.ak) ∧ W.cell? ⟨b, 3, none⟩ = some (.int .u8 r.k) ∧ W.cell? ⟨b, 4, none⟩ = some (.int .i64 r.a) ∧
    W.cell? ⟨b, 5, none⟩ = some (.int .i64 r.f) ∧ W.cell? ⟨b, 6, none⟩ = some (.int .u64 r.was) ∧ W.cell? ⟨b, 7, none⟩ = some (.int .u64 r.is) ∧ W.cell? ⟨b, 8, none⟩ = some (.bool r.done)) ∧ Hid (Below w0.heap.size w0 W)
theorem SameS.step {q p b : Nat} {r : Acc8} {w0 w W : World} (h : SameS q p b r w0 w) (hb : Below w.heap.size w W) : SameS q p b r w0 W := by
  obtain ⟨⟨h0, h1, h2, h3, h4, h5, h6, h7, h8, h9⟩, hB⟩ := h
  have k : ∀ {q j : Nat} {v : Value}, w.cell? ⟨q, j, none⟩ = some v → W.cell? ⟨q, j, none⟩ = some v := fun {q j v} hc => (hb.cell (p := ⟨q, j, none⟩) (World.block_lt_of_cell? w _ hc)).trans hc
  exact ⟨⟨k h0, k h1, k h2, k h3, k h4, k h5, k h6, k h7, k h8, k h9⟩, Lib.hid (hB.out.trans (hb.mono hB.out.size))⟩
set_option maxRecDepth 100000 in
set_option maxHeartbeats 2000000 in
theorem pair_same (h : Pr p m b n D s L s W) :
    Calls Tryd.prog 17 #[.agg #[.pointer (some ⟨p, 0, none⟩), .pointer (some ⟨b, 0, none⟩)]] W fun e W' => e = .returned (.bool true) ∧ Below W.heap.size W W' := by
  have hB : Below W.heap.size W (W.alloc (.cells #[.pointer (some ⟨p, 0, none⟩), .pointer (some ⟨b, 0, none⟩)] 27)) := (Below.refl _ _).alloc (Nat.le_refl _) _
  have HP := Lib.hid (h.below hB)
  have HB := Lib.hid hB
  have k0 : (W.alloc (.cells #[.pointer (some ⟨p, 0, none⟩), .pointer (some ⟨b, 0, none⟩)] 27)).heap[W.heap.size]? = some (.cells #[.pointer (some ⟨p, 0, none⟩), .pointer (some ⟨b, 0, none⟩)] 27 (0, 0)) := World.alloc_heap_new _ _
  have c0 := Joins.cell_of_block k0 0
  have c1 := Joins.cell_of_block k0 1
  simp only [List.getElem?_toArray, List.getElem?_cons_zero, List.getElem?_cons_succ] at c0 c1
  have hq := eq_acc s
  have hS : SameS W.heap.size p b s (W.alloc (.cells #[.pointer (some ⟨p, 0, none⟩), .pointer (some ⟨b, 0, none⟩)] 27)) (W.alloc (.cells #[.pointer (some ⟨p, 0, none⟩), .pointer (some ⟨b, 0, none⟩)] 27)) := by
    obtain ⟨v, hr⟩ := HP.out.ref
    exact ⟨⟨c0, c1, hr.cell8 1, hr.cell8 2, hr.cell8 3, hr.cell8 4, hr.cell8 5, hr.cell8 6, hr.cell8 7, hr.cell8 8⟩, Lib.hid (Below.refl _ _)⟩
  have HSd := Lib.hid (hS.step (Below.refl _ _).drew)
  have HPd := Lib.hid (HP.out.below (Below.refl _ _).drew)
  clear h hB k0 HP hS c0 c1
  go_enter Tryd.func17, Tryd.ntmps17
  go_wp2_with fail
  revert HB HSd HPd
  generalize W.alloc (.cells #[.pointer (some ⟨p, 0, none⟩), .pointer (some ⟨b, 0, none⟩)] 27) = w0
  intro HB HSd HPd
  go_region_held3 (fun w1 => (w1.cell? ⟨W.heap.size, 0, none⟩ = some (.pointer (some ⟨p, 0, none⟩)) ∧ w1.cell? ⟨W.heap.size, 1, none⟩ = some (.pointer (some ⟨b, 0, none⟩)) ∧ w1.cell? ⟨b, 1, none⟩ = some (.int .i64 s.st) ∧ w1.cell? ⟨b, 2, none⟩ = some (.int .u8 s.ak) ∧ w1.cell? ⟨b, 3, none⟩ = some (.int .u8 s.k) ∧ w1.cell? ⟨b, 4, none⟩ = some (.int .i64 s.a) ∧
    w1.cell? ⟨b, 5, none⟩ = some (.int .i64 s.f) ∧ w1.cell? ⟨b, 6, none⟩ = some (.int .u64 s.was) ∧ w1.cell? ⟨b, 7, none⟩ = some (.int .u64 s.is) ∧ w1.cell? ⟨b, 8, none⟩ = some (.bool s.done)) ∧ Hid (Below w0.heap.size w0 w1))
    (first | exact HSd.out | (refine SameS.step (r := s) (p := p) ?_ hA; assumption) | assumption)
    (first
      | (go_at_call 31; with_reducible refine (last_p HPd.out).mono ?_; rintro e wA ⟨rfl, hA⟩)
      | (go_at_call 19; with_reducible refine (steps_p (HPd.out.below hA)).mono ?_; rintro e wB ⟨rfl, rfl⟩))
  have HS2 : SameS W.heap.size p b s w0 wA := by assumption
  go_wp2_with fail
  go_ret
  exact ⟨rfl, HB.out.trans (HS2.2.out.mono HB.out.size)⟩
end
end Go.Proofs.YtapcgikamldchaaDoor
namespace Go.Proofs.YtapcgikamldchaaDoor
open Go.RowKit Go.Maps

def z8 : Acc8 := ⟨0, 0, 0, 0, 0, 0, 0, false⟩
set_option maxRecDepth 100000 in
set_option maxHeartbeats 2000000 in
theorem begin_nil (W : World) (hW : 0 < W.heap.size) : Calls Tryd.prog 8 #[.slice none 0 0] W fun e W' => ∃ p m b, e = .returned (.agg #[.pointer (some ⟨p, 0, none⟩), .pointer (some ⟨b, 0, none⟩)]) ∧ Pr p m b 0 (.map []) z8 [] z8 W' ∧ W.heap.size ≤ m ∧ Below W.heap.size W W' := by
  have hB : Below W.heap.size W (W.alloc (.cells #[.pointer none, .pointer none] 27)) := (Below.refl _ _).alloc (Nat.le_refl _) _
  have HB := Lib.hid hB
  have k0 : (W.alloc (.cells #[.pointer none, .pointer none] 27)).heap[W.heap.size]? = some (.cells #[.pointer none, .pointer none] 27 (0, 0)) := World.alloc_heap_new _ _
  have hs : (W.alloc (.cells #[.pointer none, .pointer none] 27)).heap.size = W.heap.size + 1 := by simp
  clear hB
  go_enter Tryd.func8, Tryd.ntmps8
  go_wp2_with fail
  revert HB k0 hs
  generalize W.alloc (.cells #[.pointer none, .pointer none] 27) = w0
  intro HB k0 hs
  ((with_reducible refine (new_some w0).mono ?_); rintro e w1 ⟨p, m, rfl, hp, hb, hwm, hmp⟩)
  have HP := Lib.hid hp
  have HB1 := Lib.hid (HB.out.trans (hb.mono HB.out.size))
  have k1 := Lib.hid ((hb.block W.heap.size (by omega)).trans k0)
  have hpl := hp.lt
  clear hp hb k0
  go_wp2_with fail
  have hX : Below w1.heap.size w1 ((w1.alloc (.cells #[.slice none 0 0, .int .i64 0, .int .u8 0, .int .u8 0, .int .i64 0, .int .i64 0, .int .u64 0, .int .u64 0, .bool false] 80)).alloc (.cells #[.pointer (some ⟨p, 0, none⟩), .pointer (some ⟨w1.heap.size, 0, none⟩)] 27)) := ((Below.refl _ _).alloc (Nat.le_refl _) _).alloc (by simp) _
  have HPX := Lib.hid (HP.out.below hX)
  have HBX := Lib.hid (HB1.out.trans (hX.mono HB1.out.size))
  have kt := (hX.block W.heap.size (Array.getElem?_eq_some_iff.1 k1.out).1).trans k1.out
  have HKT := Lib.hid kt
  have ka : ((w1.alloc (.cells #[.slice none 0 0, .int .i64 0, .int .u8 0, .int .u8 0, .int .i64 0, .int .i64 0, .int .u64 0, .int .u64 0, .bool false] 80)).alloc (.cells #[.pointer (some ⟨p, 0, none⟩), .pointer (some ⟨w1.heap.size, 0, none⟩)] 27)).heap[w1.heap.size]? = some (.cells #[.slice none 0 0, .int .i64 0, .int .u8 0, .int .u8 0, .int .i64 0, .int .i64 0, .int .u64 0, .int .u64 0, .bool false] 80 (0, 0)) := (Below.heap_alloc _ _ _ (by simp)).trans (World.alloc_heap_new _ _)
  have KA := Lib.hid ka
  have kb : ((w1.alloc (.cells #[.slice none 0 0, .int .i64 0, .int .u8 0, .int .u8 0, .int .i64 0, .int .i64 0, .int .u64 0, .int .u64 0, .bool false] 80)).alloc (.cells #[.pointer (some ⟨p, 0, none⟩), .pointer (some ⟨w1.heap.size, 0, none⟩)] 27)).heap[w1.heap.size + 1]? = some (.cells #[.pointer (some ⟨p, 0, none⟩), .pointer (some ⟨w1.heap.size, 0, none⟩)] 27 (0, 0)) := by
    have := World.alloc_heap_new (w1.alloc (.cells #[.slice none 0 0, .int .i64 0, .int .u8 0, .int .u8 0, .int .i64 0, .int .i64 0, .int .u64 0, .int .u64 0, .bool false] 80)) (.cells #[.pointer (some ⟨p, 0, none⟩), .pointer (some ⟨w1.heap.size, 0, none⟩)] 27)
    simpa using this
  have b0 := Joins.cell_of_block kb 0
  have b1 := Joins.cell_of_block kb 1
  have t0 := Joins.cell_of_block kt 0
  have t1 := Joins.cell_of_block kt 1
  have z0 := Joins.unfrozen_of_block kt 0
  have z1 := Joins.unfrozen_of_block kt 1
  simp only [List.getElem?_toArray, List.getElem?_cons_zero, List.getElem?_cons_succ] at b0 b1 t0 t1
  clear hX kt ka kb HP HB1 k1
  revert HPX HBX HKT KA b0 b1 t0 t1 z0 z1
  generalize ((w1.alloc (.cells #[.slice none 0 0, .int .i64 0, .int .u8 0, .int .u8 0, .int .i64 0, .int .i64 0, .int .u64 0, .int .u64 0, .bool false] 80)).alloc (.cells #[.pointer (some ⟨p, 0, none⟩), .pointer (some ⟨w1.heap.size, 0, none⟩)] 27)) = X
  intro HPX HBX HKT KA z0 z1 b0 b1 t0 t1
  have hWl : W.heap.size < w1.heap.size := by omega
  generalize w1.heap.size = b at *
  refine wp_loop_rounds 1 ?_
  rw [rounds_succ]
  go_wp2_with fail
  have far : ∀ q, q ≠ W.heap.size → ((X.setCell ⟨W.heap.size, 0, none⟩ (.pointer (some ⟨p, 0, none⟩))).setCell ⟨W.heap.size, 1, none⟩ (.pointer (some ⟨b, 0, none⟩))).heap[q]? = X.heap[q]? := fun q hq => (Below.heap_setCell _ _ _ q (by simpa using hq)).trans (Below.heap_setCell _ _ _ q (by simpa using hq))
  refine bodyPost_ret (v := .agg #[.pointer (some ⟨p, 0, none⟩), .pointer (some ⟨b, 0, none⟩)]) (by simp [results, Tryd.results8, go_sem, t0, t1]) rfl ⟨p, m, b, rfl, ⟨HPX.out.keep (far p (by omega)) (far m (by omega)), ⟨.slice none 0 0, (far b (by omega)).trans KA.out, World.ownsRow_nil _ _ _ _, by omega⟩, hmp, hpl⟩, by omega, ?_⟩
  exact (HBX.out.setCell (p := ⟨W.heap.size, 0, none⟩) (Nat.le_refl _) _).setCell (p := ⟨W.heap.size, 1, none⟩) (Nat.le_refl _) _
end Go.Proofs.YtapcgikamldchaaDoor
namespace Go.Proofs.YtapcgikamldchaaDoor
open Go.RowKit Go.Maps

/-- A store of the law's. -/
structure Sto where
  x : Ad
  v : Int
  hv : (Lit.int .u64 v).wf = true
instance : Inhabited Sto := ⟨⟨default, 0, by decide⟩⟩
def StoCells (W : World) (g off : Nat) (c : Nat → Sto) (n : Nat) : Prop := ∀ i, i < n →
  W.cell? ⟨g, off + i * 4, none⟩ = some (.int .u8 (c i).x.k) ∧ W.cell? ⟨g, off + i * 4 + 1, none⟩ = some (.int .i64 (c i).x.a) ∧ W.cell? ⟨g, off + i * 4 + 2, none⟩ = some (.int .i64 (c i).x.f) ∧ W.cell? ⟨g, off + i * 4 + 3, none⟩ = some (.int .u64 (c i).v)
theorem StoCells.below {W W' : World} {g off : Nat} {c : Nat → Sto} {n : Nat} (h : StoCells W g off c n) (hb : Below W.heap.size W W') : StoCells W' g off c n := fun i hi => by
  have k : ∀ {q j : Nat} {v : Value}, W.cell? ⟨q, j, none⟩ = some v → W'.cell? ⟨q, j, none⟩ = some v := fun {q j v} hc => (hb.cell (p := ⟨q, j, none⟩) (World.block_lt_of_cell? W _ hc)).trans hc
  obtain ⟨h0, h1, h2, h3⟩ := h i hi
  exact ⟨k h0, k h1, k h2, k h3⟩
theorem pair_store2 {p m b n : Nat} {D : DataW Unit} {s : Acc8} {L : List (Ad × Int)} {W : World} (x : Ad) (v : Int) (hv : (Lit.int .u64 v).wf = true) (h : Pr p m b n D s L s W) (hr : Rel D L) (hl : LayM W) (h0 : 0 ≤ s.st) (h1 : s.st < 1000000) (hn : n < 1000000) (hL : L.length ≤ 999) :
    Calls Tryd.prog 11 #[.agg #[.pointer (some ⟨p, 0, none⟩), .pointer (some ⟨b, 0, none⟩)], .agg #[.int .u8 x.k, .int .i64 x.a, .int .i64 x.f, .int .u64 v]] W fun e W' =>
      e = .returned (.tuple #[]) ∧ Pr p m b (n + 1) (storeD D x v) (s.touch 2 x (vals L x) (vals (storeA L x v) x) false) (storeA L x v) (s.touch 2 x (vals L x) (vals (storeA L x v) x) false) W' ∧ Fr p m b W W' := by
  have := pair_store x v hv h hl h0 h1 hn hL h0 h1
  rw [hr.val, (hr.store x v).val] at this
  exact this
/-- Both memories, that say the same, after at most i steps. -/
def Both (p m b i : Nat) (w : World) : Prop := ∃ (n : Nat) (D : DataW Unit) (s : Acc8) (L : List (Ad × Int)), Pr p m b n D s L s w ∧ Rel D L ∧ L.length ≤ i ∧ (n : Int) ≤ s.st ∧ 0 ≤ s.st ∧ s.st ≤ i
/-- Between two rounds. -/
structure BegS (W : World) (p m b : Nat) (i : Nat) (wr : World) : Prop where
  mem : Both p m b i wr
  lay : LayM wr
  low : Below W.heap.size W wr
  size : W.heap.size < m
  box : wr.heap[b + 1]? = some (.cells #[.pointer (some ⟨p, 0, none⟩), .pointer (some ⟨b, 0, none⟩)] 27 (0, 0))
  res : wr.heap[W.heap.size]? = some (.cells #[.pointer none, .pointer none] 27 (0, 0))

set_option maxRecDepth 100000 in
set_option maxHeartbeats 4000000 in
theorem begin_any (g off cap nn : Nat) (c : Nat → Sto) (W : World) (hl : LayM W) (hc : StoCells W g off c nn) (hn : nn ≤ 300) : Calls Tryd.prog 8 #[.slice (some ⟨g, off, none⟩) nn cap] W fun e W' => ∃ p m b, e = .returned (.agg #[.pointer (some ⟨p, 0, none⟩), .pointer (some ⟨b, 0, none⟩)]) ∧ Both p m b nn W' ∧ W.heap.size < m ∧ m < p ∧ p < b ∧ Below W.heap.size W W' := by
  have h1W := hl.1
  have HL := Lib.hid hl
  have HC := Lib.hid hc
  clear hl hc
  have hB : Below W.heap.size W (W.alloc (.cells #[.pointer none, .pointer none] 27)) := (Below.refl _ _).alloc (Nat.le_refl _) _
  have HB := Lib.hid hB
  have k0 : (W.alloc (.cells #[.pointer none, .pointer none] 27)).heap[W.heap.size]? = some (.cells #[.pointer none, .pointer none] 27 (0, 0)) := World.alloc_heap_new _ _
  have hs : (W.alloc (.cells #[.pointer none, .pointer none] 27)).heap.size = W.heap.size + 1 := by simp
  clear hB
  go_enter Tryd.func8, Tryd.ntmps8
  go_wp2_with fail
  revert HB k0 hs
  generalize W.alloc (.cells #[.pointer none, .pointer none] 27) = w0
  intro HB k0 hs
  ((with_reducible refine (new_some w0).mono ?_); rintro e w1 ⟨p, m, rfl, hp, hb, hwm, hmp⟩)
  have HP := Lib.hid hp
  have HB1 := Lib.hid (HB.out.trans (hb.mono HB.out.size))
  have k1 := Lib.hid ((hb.block W.heap.size (by omega)).trans k0)
  have hpl := hp.lt
  clear hp hb k0
  go_wp2_with fail
  have hX : Below w1.heap.size w1 ((w1.alloc (.cells #[.slice none 0 0, .int .i64 0, .int .u8 0, .int .u8 0, .int .i64 0, .int .i64 0, .int .u64 0, .int .u64 0, .bool false] 80)).alloc (.cells #[.pointer (some ⟨p, 0, none⟩), .pointer (some ⟨w1.heap.size, 0, none⟩)] 27)) := ((Below.refl _ _).alloc (Nat.le_refl _) _).alloc (by simp) _
  have HPX := Lib.hid (HP.out.below hX)
  have HBX := Lib.hid (HB1.out.trans (hX.mono HB1.out.size))
  have kt := (hX.block W.heap.size (Array.getElem?_eq_some_iff.1 k1.out).1).trans k1.out
  have HKT := Lib.hid kt
  have ka : ((w1.alloc (.cells #[.slice none 0 0, .int .i64 0, .int .u8 0, .int .u8 0, .int .i64 0, .int .i64 0, .int .u64 0, .int .u64 0, .bool false] 80)).alloc (.cells #[.pointer (some ⟨p, 0, none⟩), .pointer (some ⟨w1.heap.size, 0, none⟩)] 27)).heap[w1.heap.size]? = some (.cells #[.slice none 0 0, .int .i64 0, .int .u8 0, .int .u8 0, .int .i64 0, .int .i64 0, .int .u64 0, .int .u64 0, .bool false] 80 (0, 0)) := (Below.heap_alloc _ _ _ (by simp)).trans (World.alloc_heap_new _ _)
  have KA := Lib.hid ka
  have kb : ((w1.alloc (.cells #[.slice none 0 0, .int .i64 0, .int .u8 0, .int .u8 0, .int .i64 0, .int .i64 0, .int .u64 0, .int .u64 0, .bool false] 80)).alloc (.cells #[.pointer (some ⟨p, 0, none⟩), .pointer (some ⟨w1.heap.size, 0, none⟩)] 27)).heap[w1.heap.size + 1]? = some (.cells #[.pointer (some ⟨p, 0, none⟩), .pointer (some ⟨w1.heap.size, 0, none⟩)] 27 (0, 0)) := by
    have := World.alloc_heap_new (w1.alloc (.cells #[.slice none 0 0, .int .i64 0, .int .u8 0, .int .u8 0, .int .i64 0, .int .i64 0, .int .u64 0, .int .u64 0, .bool false] 80)) (.cells #[.pointer (some ⟨p, 0, none⟩), .pointer (some ⟨w1.heap.size, 0, none⟩)] 27)
    simpa using this
  have KB := Lib.hid kb
  have b0 := Joins.cell_of_block kb 0
  have b1 := Joins.cell_of_block kb 1
  have t0 := Joins.cell_of_block kt 0
  have t1 := Joins.cell_of_block kt 1
  have z0 := Joins.unfrozen_of_block kt 0
  have z1 := Joins.unfrozen_of_block kt 1
  simp only [List.getElem?_toArray, List.getElem?_cons_zero, List.getElem?_cons_succ] at b0 b1 t0 t1
  clear hX kt ka kb HP HB1 k1
  revert HPX HBX HKT KA KB b0 b1 t0 t1 z0 z1
  generalize ((w1.alloc (.cells #[.slice none 0 0, .int .i64 0, .int .u8 0, .int .u8 0, .int .i64 0, .int .i64 0, .int .u64 0, .int .u64 0, .bool false] 80)).alloc (.cells #[.pointer (some ⟨p, 0, none⟩), .pointer (some ⟨w1.heap.size, 0, none⟩)] 27)) = X
  intro HPX HBX HKT KA KB z0 z1 b0 b1 t0 t1
  have hWl : W.heap.size < w1.heap.size := by omega
  generalize w1.heap.size = b at *
  have HS := Lib.hid (show BegS W p m b 0 X from ⟨⟨0, .map [], z8, [], ⟨HPX.out, ⟨.slice none 0 0, KA.out, World.ownsRow_nil _ _ _ _, by omega⟩, hmp, hpl⟩, rel_nil, Nat.le_refl _, by decide, by decide, by decide⟩, HL.out.below HBX.out, HBX.out, by omega, KB.out, HKT.out⟩)
  clear HPX HKT KA KB HBX z0 z1 b0 b1 t0 t1
  have hWm : W.heap.size < m := by omega
  clear hs hwm
  go_loopw [4] (fun j wr => ∃ i : Nat, i ≤ nn ∧ j = .int .i64 (i : Int) ∧ Hid (BegS W p m b i wr)) (fun j _ => nn - (intOf j).toNat)
  case atStart => exact ⟨0, Nat.zero_le _, rfl, HS⟩
  case round =>
    obtain ⟨i, hi, rfl, hst⟩ := hrel
    have b0 := Joins.cell_of_block hst.out.box 0
    have b1 := Joins.cell_of_block hst.out.box 1
    simp only [List.getElem?_toArray, List.getElem?_cons_zero, List.getElem?_cons_succ] at b0 b1
    by_cases hlt : i < nn
    · have hlt' : (i : Int) < (nn : Int) := by omega
      have h300 : (i : Int) < 300 := by omega
      have hge : (0 : Int) ≤ (i : Int) := by omega
      obtain ⟨d0, d1, d2, d3⟩ := (HC.out.below hst.out.low) i hlt
      generalize c i = s at d0 d1 d2 d3
      obtain ⟨x, v, hv⟩ := s
      dsimp only at d0 d1 d2 d3
      have HV := Lib.hid hv
      clear hv
      go_wp2_with fail
      refine wp_region_still_tail 5 (by kernel_rfl) (by kernel_rfl) ?_
      change wpStill _ _ wr.drew (fun a' => wpList _ _ _ _ a' wr.drew) _ _
      have HD := Lib.hid (Below.refl wr.heap.size wr).drew
      have b0' : wr.drew.cell? ⟨b + 1, 0, none⟩ = some (.pointer (some ⟨p, 0, none⟩)) := b0
      have b1' : wr.drew.cell? ⟨b + 1, 1, none⟩ = some (.pointer (some ⟨b, 0, none⟩)) := b1
      have d0' : wr.drew.cell? ⟨g, off + i * 4, none⟩ = some (.int .u8 x.k) := d0
      have d1' : wr.drew.cell? ⟨g, off + i * 4 + 1, none⟩ = some (.int .i64 x.a) := d1
      have d2' : wr.drew.cell? ⟨g, off + i * 4 + 2, none⟩ = some (.int .i64 x.f) := d2
      have d3' : wr.drew.cell? ⟨g, off + i * 4 + 3, none⟩ = some (.int .u64 v) := d3
      clear b0 b1 d0 d1 d2 d3
      simp only [List.take_succ_cons, List.take_zero, List.drop_succ_cons, List.drop_zero]
      iterate 5 still_step
      refine wpStill_nil ?_
      obtain ⟨n, D, s, L, hp, hr, hL, hn3, hs0, hs1⟩ := hst.out.mem
      have HP := Lib.hid (hp.below HD.out)
      have HR := Lib.hid hr
      have HLY := Lib.hid (hst.out.lay.below HD.out)
      clear hp hr
      have HS1 := Lib.hid (show s.st < 1000000 by omega)
      have HN9 := Lib.hid (show n < 1000000 by omega)
      have HL9 := Lib.hid (show L.length ≤ 999 by omega)
      go_wp2_with fail
      ((with_reducible refine (pair_store2 x v HV.out HP.out HR.out HLY.out hs0 HS1.out HN9.out HL9.out).mono ?_); rintro e wD ⟨rfl, hp, hf⟩)
      clear b0' b1' d0' d1' d2' d3'
      have hpl := hp.lt
      have HB := Lib.hid (show BegS W p m b (i + 1) wD from ⟨⟨n + 1, _, _, _, hp, HR.out.store x v, by have := storeA_len L x v; omega, by show ((n + 1 : Nat) : Int) ≤ s.st + 1; omega, by show 0 ≤ s.st + 1; omega, by show s.st + 1 ≤ _; omega⟩, hf.lay (by omega) HLY.out, (hst.out.low.trans (HD.out.mono hst.out.low.size)).trans (hf.low.mono (by omega)), hWm, hf.cell ((HD.out.block _ (Array.getElem?_eq_some_iff.1 hst.out.box).1).trans hst.out.box) (by decide) (by omega) (by omega), (hf.low.block _ (by omega)).trans ((HD.out.block _ (by have := hst.out.low.size; have := (Array.getElem?_eq_some_iff.1 hst.out.res).1; omega)).trans hst.out.res)⟩)
      clear hp hf
      go_wp2_with fail
      go_roundw
      case rel => exact ⟨i + 1, by omega, by go_num, HB⟩
      case measure => simp [intOf]; omega
    · have hlt' : (nn : Int) ≤ (i : Int) := by omega
      have hin : i = nn := by omega
      have kt := hst.out.res
      have t0 := Joins.cell_of_block kt 0
      have t1 := Joins.cell_of_block kt 1
      have z0 := Joins.unfrozen_of_block kt 0
      have z1 := Joins.unfrozen_of_block kt 1
      simp only [List.getElem?_toArray, List.getElem?_cons_zero, List.getElem?_cons_succ] at t0 t1
      clear kt
      have HIN := Lib.hid hin
      clear hin
      go_wp2_with fail
      have far : ∀ q, q ≠ W.heap.size → ((wr.setCell ⟨W.heap.size, 0, none⟩ (.pointer (some ⟨p, 0, none⟩))).setCell ⟨W.heap.size, 1, none⟩ (.pointer (some ⟨b, 0, none⟩))).heap[q]? = wr.heap[q]? := fun q hq => (Below.heap_setCell _ _ _ q (by simpa using hq)).trans (Below.heap_setCell _ _ _ q (by simpa using hq))
      obtain ⟨n, D, s, L, hp, hr, hL, hn3, hs0, hs1⟩ := hst.out.mem
      refine bodyPost_ret (v := .agg #[.pointer (some ⟨p, 0, none⟩), .pointer (some ⟨b, 0, none⟩)]) (by simp [results, Tryd.results8, go_sem, t0, t1]) rfl ⟨p, m, b, rfl, ⟨n, D, s, L, ⟨hp.prog.keep (far p (by omega)) (far m (by omega)), ?_, hmp, hpl⟩, hr, by have := HIN.out; omega, hn3, hs0, by have := HIN.out; omega⟩, hWm, hmp, hpl, (hst.out.low.setCell (p := ⟨W.heap.size, 0, none⟩) (Nat.le_refl _) _).setCell (p := ⟨W.heap.size, 1, none⟩) (Nat.le_refl _) _⟩
      obtain ⟨v, hv⟩ := hp.ref
      exact ⟨v, hv.keep (Nat.le_refl _) fun q hq _ => far q (by omega)⟩
theorem begin_none (W : World) (hl : LayM W) : Calls Tryd.prog 8 #[.slice none 0 0] W fun e W' => ∃ p m b, e = .returned (.agg #[.pointer (some ⟨p, 0, none⟩), .pointer (some ⟨b, 0, none⟩)]) ∧ Both p m b 0 W' ∧ W.heap.size ≤ m ∧ m < p ∧ p < b ∧ Below W.heap.size W W' := by
  refine (begin_nil W (by have := hl.1; omega)).mono ?_
  rintro e W' ⟨p, m, b, rfl, hp, h1, h2⟩
  exact ⟨p, m, b, rfl, ⟨0, _, _, _, hp, rel_nil, Nat.le_refl _, by decide, by decide, by decide⟩, h1, hp.mp, hp.pb, h2⟩
end Go.Proofs.YtapcgikamldchaaDoor
