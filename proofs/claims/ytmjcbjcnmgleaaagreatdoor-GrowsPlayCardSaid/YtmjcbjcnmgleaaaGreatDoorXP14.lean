/-
  The document's Grow and Shrink of layer 9; The document's Grow and Shrink of layer 9; The list of free slots in plain words; A block that is known whole, stored into by the row or by th; conditions as each theorem says.
-/
import Derived.Test.YtmjcbjcnmgleaaaGreatDoorXP13
import Derived.Maps.AppendAt
import Derived.Sort.QuietIn
import Derived.StillTailTactics
import Derived.Deep.RegionHeld3
import Derived.Test.YtmjcbjcnmgleaaaGreatDoorXP09
import Derived.Test.YtmjcbjcnmgleaaaGreatDoorXP02
import Derived.Laws.Rows
import Derived.Laws.Tables
import Derived.Deep.WholeRow
import Derived.RangeFuncBox
namespace Go.Proofs.YtmjcbjcnmgleaaaGreatDoor
open Go.RowKit Go.Maps
def OpC (sh : Bool) (ln er sg lk sl w bh : Int) (pp pa pu : Option Addr) (kv : Value) : List Value := [.bool sh, .int .i64 ln, .int .i64 er, .int .i64 sg, .int .i64 lk, .int .i64 sl, .int .u64 w, .int .i64 bh, .pointer pp, .pointer pa, .pointer pu, kv]
section
variable {B p m b n K e : Nat} {sh : Bool} {ln er sg lk sl pw bh : Int} {pp pa pu : Option Addr} {kv : Value} {kp : List Int} {D : DataW Unit} {s r : Acc8} {L : List (Ad × Int)} {E : List Nat} {w w' X Y : World}
theorem Bk.c12 {t : TypeId} {c0 c1 c2 c3 c4 c5 c6 c7 c8 c9 ca cb : Value} (k : Bk K t [c0, c1, c2, c3, c4, c5, c6, c7, c8, c9, ca, cb] w) : w.cell? ⟨K, 0, none⟩ = some c0 ∧ w.cell? ⟨K, 1, none⟩ = some c1 ∧ w.cell? ⟨K, 2, none⟩ = some c2 ∧ w.cell? ⟨K, 3, none⟩ = some c3 ∧ w.cell? ⟨K, 4, none⟩ = some c4 ∧ w.cell? ⟨K, 5, none⟩ = some c5 ∧ w.cell? ⟨K, 6, none⟩ = some c6 ∧ w.cell? ⟨K, 7, none⟩ = some c7 ∧ w.cell? ⟨K, 8, none⟩ = some c8 ∧ w.cell? ⟨K, 9, none⟩ = some c9 ∧ w.cell? ⟨K, 10, none⟩ = some ca ∧ w.cell? ⟨K, 11, none⟩ = some cb ∧ ∀ i, w.frozen? ⟨K, i, none⟩ = false :=
  ⟨k.cell 0, k.cell 1, k.cell 2, k.cell 3, k.cell 4, k.cell 5, k.cell 6, k.cell 7, k.cell 8, k.cell 9, k.cell 10, k.cell 11, k.free⟩
theorem Only.set1 (K : Nat) (X : World) (i : Nat) (v : Value) : Only K K X (X.setCell ⟨K, i, none⟩ v) := Only.setCell K K X i v
theorem Only.fxl (h : Only K K X Y) (hB : B ≤ K) (hX : B ≤ X.heap.size) (hK : K ∈ E) : FxL B p b E X Y :=
  ⟨h.below hB hB hX, fun x _ _ _ hx _ _ _ h3 => (h.block x (Array.getElem?_eq_some_iff.1 hx).1 (fun e => h3 (e ▸ hK)) (fun e => h3 (e ▸ hK))).trans hx⟩
theorem Pr.onlyK {cs : List Value} {t : TypeId} (h : Pr p m b n D s L r X) (hX : Bk K t cs X) (ht : t ≠ 118) (hp : K ≠ p) (hb : K ≠ b) (ho : Only K K X Y) : Pr p m b n D s L r Y := by
  have far : ∀ z, z < X.heap.size → z ≠ K → Y.heap[z]? = X.heap[z]? := fun z hz hk => ho.block z hz hk hk
  obtain ⟨es, c, hm⟩ := h.prog.map_at
  obtain ⟨v, hr⟩ := h.ref
  have lt : ∀ {z : Nat} {o : Obj}, X.heap[z]? = some o → z < X.heap.size := fun h => (Array.getElem?_eq_some_iff.1 h).1
  refine ⟨h.prog.keep (far p (lt h.prog.blk) (Ne.symm hp)) (far m (lt hm) fun e => ?_), ⟨v, (far b (lt hr.blk) (Ne.symm hb)).trans hr.blk, ⟨hr.own.1, ?_⟩, hr.pos⟩, h.mp, h.pb⟩
  · subst e; unfold Bk at hX; rw [hX] at hm; cases hm
  · rcases hr.own.2 with hn | ⟨g, cap, cur, hv, hB, hg, rest⟩
    · exact .inl hn
    · refine .inr ⟨g, cap, cur, hv, hB, (far g (lt hg) fun e => ?_).trans hg, rest⟩
      subst e
      unfold Bk at hX
      rw [hX] at hg
      injection hg with hg
      injection hg with _ h3
      exact ht h3
theorem i64_seg (h : 0 ≤ sg ∧ sg < 32) : I64w sg := i64w_in (by omega) (by omega)
theorem op_word (k : Bk K 108 (OpC sh ln er sg lk sl pw bh pp pa pu kv) w) (f : Int) : Calls Tryz.prog 68 #[.pointer (some ⟨K, 0, none⟩), .int .i64 f] w fun ee w' => ee = .returned (.agg #[.int .u8 6, .int .i64 sg, .int .i64 f]) ∧ Below w.heap.size w w' := by
  have HK0 := Lib.hid k
  clear k
  have d3 := (HK0.out.below ((Below.refl _ w).alloc (Nat.le_refl _) (.cells #[.int .u8 0, .int .i64 0, .int .i64 0] 33))).c12.2.2.2.1
  go_enter Tryz.func68, Tryz.ntmps68
  go_wp2
  exact bodyPost_ret (v := .agg #[.int .u8 6, .int .i64 sg, .int .i64 f]) (by simp [results, Tryz.results68, go_sem]) rfl ⟨rfl, (Below.refl _ _).alloc (Nat.le_refl _) _⟩
theorem op_end (k : Bk K 108 (OpC sh ln er sg lk sl pw bh pp pa pu kv) w) (x : Int) : Calls Tryz.prog 69 #[.pointer (some ⟨K, 0, none⟩), .int .i64 x] w fun ee w' => ee = .returned (.tuple #[]) ∧ Bk K 108 (OpC sh 0 x sg lk sl pw bh pp pa pu kv) w' ∧ Only K K w w' := by
  have HK0 := Lib.hid k
  obtain ⟨c0, c1, c2, c3, c4, c5, c6, c7, c8, c9, ca, cb, _⟩ := k.c12
  clear k
  have z1 := HK0.out.free 1
  have HK1 := Lib.hid (HK0.out.set 1 (.int .i64 0) (cs' := OpC sh 0 er sg lk sl pw bh pp pa pu kv) rfl)
  obtain ⟨e10, e11, e12, e13, e14, e15, e16, e17, e18, e19, e1a, e1b, _⟩ := HK1.out.c12
  have z2 := HK1.out.free 2
  have HK2 := Lib.hid (HK1.out.set 2 (.int .i64 x) (cs' := OpC sh 0 x sg lk sl pw bh pp pa pu kv) rfl)
  obtain ⟨e20, e21, e22, e23, e24, e25, e26, e27, e28, e29, e2a, e2b, _⟩ := HK2.out.c12
  have HO := Lib.hid (((Only.refl K K w).trans (Only.set1 K _ 1 (.int .i64 0))).trans (Only.set1 K _ 2 (.int .i64 x)))
  go_enter Tryz.func69, Tryz.ntmps69
  go_wp2_with fail
  go_end0
  exact ⟨rfl, HK2.out, HO.out⟩
theorem seg8 (h : 0 ≤ sg ∧ sg < 32) : IntKind.i64.wrap (8 * sg) = 8 * sg := by
  simp [IntKind.wrap, IntKind.bits, IntKind.signed]
  omega
theorem seg88 (h : 0 ≤ sg ∧ sg < 32) : IntKind.i64.wrap (8 * sg + 8) = 8 * sg + 8 := by
  simp [IntKind.wrap, IntKind.bits, IntKind.signed]
  omega
theorem slot1 (h : 0 ≤ sl ∧ sl < 256) : IntKind.i64.wrap (sl + 1) = sl + 1 := by
  simp [IntKind.wrap, IntKind.bits, IntKind.signed]
  omega
theorem op_turn (k : Bk K 108 (OpC sh ln er sg lk sl pw bh pp pa pu kv) w) (hg : 0 ≤ sg ∧ sg < 32) (x : Int) : Calls Tryz.prog 71 #[.pointer (some ⟨K, 0, none⟩), .int .i64 x] w fun ee w' => ee = .returned (.tuple #[]) ∧ Bk K 108 (OpC sh 11 er sg lk (8 * sg) pw x pp pa pu kv) w' ∧ Only K K w w' := by
  have h8 := seg8 hg
  have HK0 := Lib.hid k
  obtain ⟨c0, c1, c2, c3, c4, c5, c6, c7, c8, c9, ca, cb, _⟩ := k.c12
  clear k
  have z1 := HK0.out.free 5
  have HK1 := Lib.hid (HK0.out.set 5 (.int .i64 (8 * sg)) (cs' := OpC sh ln er sg lk (8 * sg) pw bh pp pa pu kv) rfl)
  obtain ⟨e10, e11, e12, e13, e14, e15, e16, e17, e18, e19, e1a, e1b, _⟩ := HK1.out.c12
  have z2 := HK1.out.free 7
  have HK2 := Lib.hid (HK1.out.set 7 (.int .i64 x) (cs' := OpC sh ln er sg lk (8 * sg) pw x pp pa pu kv) rfl)
  obtain ⟨e20, e21, e22, e23, e24, e25, e26, e27, e28, e29, e2a, e2b, _⟩ := HK2.out.c12
  have z3 := HK2.out.free 1
  have HK3 := Lib.hid (HK2.out.set 1 (.int .i64 11) (cs' := OpC sh 11 er sg lk (8 * sg) pw x pp pa pu kv) rfl)
  obtain ⟨e30, e31, e32, e33, e34, e35, e36, e37, e38, e39, e3a, e3b, _⟩ := HK3.out.c12
  have HO := Lib.hid ((((Only.refl K K w).trans (Only.set1 K _ 5 (.int .i64 (8 * sg)))).trans (Only.set1 K _ 7 (.int .i64 x))).trans (Only.set1 K _ 1 (.int .i64 11)))
  go_enter Tryz.func71, Tryz.ntmps71
  go_wp2_with fail
  go_end0
  exact ⟨rfl, HK3.out, HO.out⟩
theorem op_next_last (k : Bk K 108 (OpC sh ln er sg lk sl pw bh pp pa pu kv) w) (hg : 0 ≤ sg ∧ sg < 32) (hs : 0 ≤ sl ∧ sl < 256) (he : sl + 1 = 8 * sg + 8) : Calls Tryz.prog 99 #[.pointer (some ⟨K, 0, none⟩)] w fun ee w' => ee = .returned (.tuple #[]) ∧ Bk K 108 (OpC sh 0 bh sg lk (sl + 1) pw bh pp pa pu kv) w' ∧ Only K K w w' := by
  have h8 := seg8 hg
  have h88 := seg88 hg
  have hs1 := slot1 hs
  have HK0 := Lib.hid k
  obtain ⟨c0, c1, c2, c3, c4, c5, c6, c7, c8, c9, ca, cb, _⟩ := k.c12
  clear k
  have z1 := HK0.out.free 5
  have HK1 := Lib.hid (HK0.out.set 5 (.int .i64 (sl + 1)) (cs' := OpC sh ln er sg lk (sl + 1) pw bh pp pa pu kv) rfl)
  obtain ⟨e10, e11, e12, e13, e14, e15, e16, e17, e18, e19, e1a, e1b, _⟩ := HK1.out.c12
  have z2 := HK1.out.free 1
  have HK2 := Lib.hid (HK1.out.set 1 (.int .i64 11) (cs' := OpC sh 11 er sg lk (sl + 1) pw bh pp pa pu kv) rfl)
  obtain ⟨e20, e21, e22, e23, e24, e25, e26, e27, e28, e29, e2a, e2b, _⟩ := HK2.out.c12
  have HO := Lib.hid (((Only.refl K K w).trans (Only.set1 K _ 5 (.int .i64 (sl + 1)))).trans (Only.set1 K _ 1 (.int .i64 11)))
  have hb : (sl + 1 == 8 * sg + 8) = true := by simpa using he
  clear he
  go_enter Tryz.func99, Tryz.ntmps99
  go_wp2_with fail
  go_quiet (fail)
  go_wp2_with fail
  ((with_reducible refine (op_end (HK2.out.below (below_drewN (Below.refl _ _) _)) bh).mono ?_); rintro ee w1 ⟨rfl, k', o'⟩)
  go_wp2_with fail
  go_end0
  exact ⟨rfl, k', (HO.out.trans (Only.of_below (below_drewN (Below.refl _ _) _))).trans o'⟩
theorem op_next_on (k : Bk K 108 (OpC sh ln er sg lk sl pw bh pp pa pu kv) w) (hg : 0 ≤ sg ∧ sg < 32) (hs : 0 ≤ sl ∧ sl < 256) (he : sl + 1 ≠ 8 * sg + 8) : Calls Tryz.prog 99 #[.pointer (some ⟨K, 0, none⟩)] w fun ee w' => ee = .returned (.tuple #[]) ∧ Bk K 108 (OpC sh 11 er sg lk (sl + 1) pw bh pp pa pu kv) w' ∧ Only K K w w' := by
  have h8 := seg8 hg
  have h88 := seg88 hg
  have hs1 := slot1 hs
  have HK0 := Lib.hid k
  obtain ⟨c0, c1, c2, c3, c4, c5, c6, c7, c8, c9, ca, cb, _⟩ := k.c12
  clear k
  have z1 := HK0.out.free 5
  have HK1 := Lib.hid (HK0.out.set 5 (.int .i64 (sl + 1)) (cs' := OpC sh ln er sg lk (sl + 1) pw bh pp pa pu kv) rfl)
  obtain ⟨e10, e11, e12, e13, e14, e15, e16, e17, e18, e19, e1a, e1b, _⟩ := HK1.out.c12
  have z2 := HK1.out.free 1
  have HK2 := Lib.hid (HK1.out.set 1 (.int .i64 11) (cs' := OpC sh 11 er sg lk (sl + 1) pw bh pp pa pu kv) rfl)
  obtain ⟨e20, e21, e22, e23, e24, e25, e26, e27, e28, e29, e2a, e2b, _⟩ := HK2.out.c12
  have HO := Lib.hid (((Only.refl K K w).trans (Only.set1 K _ 5 (.int .i64 (sl + 1)))).trans (Only.set1 K _ 1 (.int .i64 11)))
  have hb : (sl + 1 == 8 * sg + 8) = false := by simpa using he
  clear he
  go_enter Tryz.func99, Tryz.ntmps99
  go_wp2_with fail
  go_quiet (fail)
  go_wp2_with fail
  go_end0
  exact ⟨rfl, HK2.out.below (below_drewN (Below.refl _ _) _), HO.out.trans (Only.of_below (below_drewN (Below.refl _ _) _))⟩
end
end Go.Proofs.YtmjcbjcnmgleaaaGreatDoor
namespace Go.Proofs.YtmjcbjcnmgleaaaGreatDoor
open Go.RowKit Go.Maps
section
variable {B p m b n K e g cap : Nat} {sh : Bool} {ln er sg lk sl pw bh : Int} {pp pa pu : Option Addr} {kv : Value} {kp : List Int} {D : DataW Unit} {s r : Acc8} {L : List (Ad × Int)} {w w' X Y : World}
theorem op_seven_none {ad : Option Addr} (k : Bk K 108 (OpC sh ln er sg lk sl pw bh pp pa pu (.slice ad 0 cap)) w) : Calls Tryz.prog 106 #[.pointer (some ⟨K, 0, none⟩)] w fun ee w' => ee = .returned (.tuple #[]) ∧ Bk K 108 (OpC sh 3 er sg lk sl pw bh pp pa pu (.slice ad 0 cap)) w' ∧ Only K K w w' := by
  have HK0 := Lib.hid k
  obtain ⟨c0, c1, c2, c3, c4, c5, c6, c7, c8, c9, ca, cb, _⟩ := k.c12
  clear k
  have z1 := HK0.out.free 1
  have HK1 := Lib.hid (HK0.out.set 1 (.int .i64 3) (cs' := OpC sh 3 er sg lk sl pw bh pp pa pu (.slice ad 0 cap)) rfl)
  obtain ⟨e10, e11, e12, e13, e14, e15, e16, e17, e18, e19, e1a, e1b, _⟩ := HK1.out.c12
  have HO := Lib.hid (Only.set1 K w 1 (.int .i64 3))
  go_enter Tryz.func106, Tryz.ntmps106
  go_wp2_with fail
  go_end0
  exact ⟨rfl, HK1.out, HO.out⟩
theorem arm7 {nn : Nat} {z : Int} {t : TypeId} {cs : List Value} {x y : Value} (i : Nat) (hi : i ≠ 11) (k : Bk K t cs X) (hx : cs[11]? = some x) (hy : cs[i]? = some y) (hg : g ≠ K) (ho : Only K K w X) (hz : X.cell? ⟨g, nn, none⟩ = some (.int .i64 z)) (hb : Below X.heap.size X Y) (u : Value) :
    (Y.cell? ⟨K, 11, none⟩ = some x ∧ Y.cell? ⟨g, nn, none⟩ = some (.int .i64 z)) ∧ Y.cell? ⟨K, i, none⟩ = some y ∧ Y.frozen? ⟨K, i, none⟩ = false ∧ Bk K t (cs.set i u) (Y.setCell ⟨K, i, none⟩ u) ∧ Only K K w (Y.setCell ⟨K, i, none⟩ u) ∧ ((Y.setCell ⟨K, i, none⟩ u).cell? ⟨K, 11, none⟩ = some x ∧ (Y.setCell ⟨K, i, none⟩ u).cell? ⟨g, nn, none⟩ = some (.int .i64 z)) := by
  have hz' : Y.cell? ⟨g, nn, none⟩ = some (.int .i64 z) := (World.cell?_of_block (hb.block g (World.block_lt_of_cell? _ _ hz))).trans hz
  refine ⟨⟨((k.below hb).cell 11).trans hx, hz'⟩, ((k.below hb).cell i).trans hy, (k.below hb).free i, (k.below hb).set i u rfl, (ho.trans (Only.of_below hb)).trans (Only.set1 K Y i u), ?_, (World.cell?_of_block (Below.heap_setCell Y ⟨K, i, none⟩ u g hg)).trans hz'⟩
  refine (((k.below hb).set i u rfl).cell 11).trans ?_
  rw [List.getElem?_set_ne hi]
  exact hx
theorem op_seven_some {nn : Nat} {z : Int} (k : Bk K 108 (OpC sh ln er sg lk sl pw bh pp pa pu (.slice (some ⟨g, 0, none⟩) (nn + 1) cap)) w) (hgK : g ≠ K) (hn : nn < 5000) (hz : w.cell? ⟨g, nn, none⟩ = some (.int .i64 z)) (z0 : 0 ≤ z) (z1 : z < 256) : Calls Tryz.prog 106 #[.pointer (some ⟨K, 0, none⟩)] w fun ee w' => ee = .returned (.tuple #[]) ∧ ∃ e, Bk K 108 (OpC sh 7 er sg lk sl pw bh pp pa (some ⟨e, 0, none⟩) (.slice (some ⟨g, 0, none⟩) (nn + 1) cap)) w' ∧ RefAt e true z 1 false 0 0 w' ∧ w.heap.size ≤ e ∧ Only K K w w' := by
  have HK0 := Lib.hid k
  obtain ⟨c0, c1, c2, c3, c4, c5, c6, c7, c8, c9, ca, cb, _⟩ := k.c12
  clear k
  have y1 := HK0.out.free 1
  have HK1 := Lib.hid (HK0.out.set 1 (.int .i64 3) (cs' := OpC sh 3 er sg lk sl pw bh pp pa pu (.slice (some ⟨g, 0, none⟩) (nn + 1) cap)) rfl)
  obtain ⟨e10, e11, e12, e13, e14, e15, e16, e17, e18, e19, e1a, e1b, _⟩ := HK1.out.c12
  have y2 := HK1.out.free 1
  have HK2 := Lib.hid (HK1.out.set 1 (.int .i64 7) (cs' := OpC sh 7 er sg lk sl pw bh pp pa pu (.slice (some ⟨g, 0, none⟩) (nn + 1) cap)) rfl)
  obtain ⟨e20, e21, e22, e23, e24, e25, e26, e27, e28, e29, e2a, e2b, _⟩ := HK2.out.c12
  have HO := Lib.hid ((Only.set1 K w 1 (.int .i64 3)).trans (Only.set1 K _ 1 (.int .i64 7)))
  have HZ := Lib.hid ((World.cell?_of_block ((Below.heap_setCell _ ⟨K, 1, none⟩ (.int .i64 7) g hgK).trans (Below.heap_setCell w ⟨K, 1, none⟩ (.int .i64 3) g hgK))).trans hz)
  clear hz
  go_enter Tryz.func106, Tryz.ntmps106
  have hq0 : (0 : Int) ≤ (nn : Int) := by omega
  have hq1 : (nn : Int) < (nn : Int) + 1 := by omega
  have hq2 : IntKind.i64.wrap (nn : Int) = (nn : Int) := by
    simp [IntKind.wrap, IntKind.bits, IntKind.signed]
    omega
  clear hn
  go_wp2_with fail
  revert HK2 e20 e21 e22 e23 e24 e25 e26 e27 e28 e29 e2a e2b HO HZ
  generalize (w.setCell ⟨K, 1, none⟩ (.int .i64 3)).setCell ⟨K, 1, none⟩ (.int .i64 7) = y1
  intro HK2 e20 e21 e22 e23 e24 e25 e26 e27 e28 e29 e2a e2b HO HZ
  have HKd := Lib.hid (HK2.out.below (Below.refl _ y1).drew)
  have HOd := Lib.hid (HO.out.trans (Only.of_below (Below.refl _ y1).drew))
  have HZd := Lib.hid (show y1.drew.cell? ⟨g, nn, none⟩ = some (.int .i64 z) from HZ.out)
  have hs0 := Lib.hid (And.intro (HKd.out.cell 11) HZd.out)
  simp only [OpC, List.getElem?_cons_zero, List.getElem?_cons_succ] at hs0
  have hwK : K < y1.drew.heap.size := HKd.out.lt
  have hwX : w.heap.size ≤ y1.drew.heap.size := HOd.out.size
  have hwg : g < y1.drew.heap.size := World.block_lt_of_cell? _ _ HZd.out
  clear HK0 HK1 HK2 HO HZ e20 e21 e22 e23 e24 e25 e26 e27 e28 e29 e2a e2b c0 c1 c2 c3 c4 c5 c6 c7 c8 c9 ca cb e10 e11 e12 e13 e14 e15 e16 e17 e18 e19 e1a e1b
  go_region_held3 (fun w9 => w9.cell? ⟨K, 11, none⟩ = some (.slice (some ⟨g, 0, none⟩) (nn + 1) cap) ∧ w9.cell? ⟨g, nn, none⟩ = some (.int .i64 z))
    (first | exact hs0.out | exact hs8.out | exact hs9.out | fail)
    (first
      | (go_at_call 101; with_reducible refine (ref_newPush z z0 z1 _).mono ?_; rintro ee x8 ⟨rfl, R8, hb8, _⟩; have hA8 := arm7 10 (by decide) HKd.out rfl rfl hgK HOd.out HZd.out hb8 (.pointer (some ⟨y1.drew.heap.size, 0, none⟩)); have hs8 := Lib.hid hA8.1; have e8 := hA8.2.1; have z8 := hA8.2.2.1; have HK9 := Lib.hid hA8.2.2.2.1; have HO9 := Lib.hid hA8.2.2.2.2.1; have hs9 := Lib.hid hA8.2.2.2.2.2; have HR8 := Lib.hid R8; clear R8 hA8 hb8)
      | fail)
  go_wp2_with fail
  go_end0
  exact ⟨rfl, y1.drew.heap.size, HK9.out, HR8.out.same (Below.heap_setCell x8 ⟨K, 10, none⟩ _ _ (by show y1.drew.heap.size ≠ K; omega)), hwX, HO9.out⟩
theorem op_popped_none {P : World → Prop} {psh : Bool} {y ln' h nn : Int} (k : Bk K 108 (OpC sh ln er sg lk sl pw bh (some ⟨e, 0, none⟩) pa pu kv) w) (R : RefAt e psh y ln' false h nn w) (H : Calls Tryz.prog 106 #[.pointer (some ⟨K, 0, none⟩)] w fun ee w' => ee = .returned (.tuple #[]) ∧ P w') : Calls Tryz.prog 104 #[.pointer (some ⟨K, 0, none⟩)] w fun ee w' => ee = .returned (.tuple #[]) ∧ P w' := by
  obtain ⟨c0, c1, c2, c3, c4, c5, c6, c7, c8, c9, ca, cb, _⟩ := k.c12
  have HH := Lib.hid H
  have r3 := R.cells.2.2.2.1
  clear k R H
  go_enter Tryz.func104, Tryz.ntmps104
  go_wp2_with fail
  (refine (HH.out).mono ?_; rintro ee w1 ⟨rfl, hp⟩)
  go_wp2_with fail
  refine bodyPost_ret (results_none rfl _ _ _) rfl ?_
  exact ⟨rfl, hp⟩
theorem seg_quo9 {y : Int} (h : 0 ≤ y ∧ y < 256) : Int.tdiv y 8 = y / 8 ∧ IntKind.i64.wrap (y / 8) = y / 8 := ⟨(seg_of h).1, (seg_of h).2.1⟩
theorem op_popped_own {psh : Bool} {y ln' h nn : Int} (k : Bk K 108 (OpC sh ln er sg lk sl pw bh (some ⟨e, 0, none⟩) pa pu kv) w) (R : RefAt e psh y ln' true h nn w) (hy : 0 ≤ y ∧ y < 256) (hg : y / 8 = sg) : Calls Tryz.prog 104 #[.pointer (some ⟨K, 0, none⟩)] w fun ee w' => ee = .returned (.tuple #[]) ∧ ∃ kn, Bk K 108 (OpC sh 6 er sg lk sl pw bh (some ⟨e, 0, none⟩) (some ⟨kn, 0, none⟩) pu kv) w' ∧ Bk kn 180 (PkC y 1 false 0 0 none) w' ∧ w.heap.size ≤ kn ∧ Only K K w w' := by
  have HK0 := Lib.hid k
  obtain ⟨c0, c1, c2, c3, c4, c5, c6, c7, c8, c9, ca, cb, _⟩ := k.c12
  have r3 := R.cells.2.2.2.1
  have r1 := R.cells.2.1
  obtain ⟨hq1, hq2⟩ := seg_quo9 hy
  have HB := Lib.hid hy
  subst hg
  clear k R hy
  have z1 := HK0.out.free 1
  have HK1 := Lib.hid (HK0.out.set 1 (.int .i64 6) (cs' := OpC sh 6 er (y / 8) lk sl pw bh (some ⟨e, 0, none⟩) pa pu kv) rfl)
  obtain ⟨e10, e11, e12, e13, e14, e15, e16, e17, e18, e19, e1a, e1b, _⟩ := HK1.out.c12
  have HO1 := Lib.hid (Only.set1 K w 1 (.int .i64 6))
  go_enter Tryz.func104, Tryz.ntmps104
  go_wp2_with fail
  ((with_reducible refine (newPark_good y HB.out.1 (by have := HB.out.2; omega) _).mono ?_); rintro ee w2 ⟨rfl, kN, hb2, hs2⟩)
  have HK2 := Lib.hid (HK1.out.below hb2)
  have HO2 := Lib.hid (HO1.out.trans (Only.of_below hb2))
  have hwK : K < (w.setCell ⟨K, 1, none⟩ (.int .i64 6)).heap.size := HK1.out.lt
  have hwX : w.heap.size ≤ (w.setCell ⟨K, 1, none⟩ (.int .i64 6)).heap.size := HO1.out.size
  generalize (w.setCell ⟨K, 1, none⟩ (.int .i64 6)).heap.size = X at *
  have HN := Lib.hid kN
  clear kN hb2 HK1 HO1 e10 e11 e12 e13 e14 e15 e16 e17 e18 e19 e1a e1b z1
  obtain ⟨e20, e21, e22, e23, e24, e25, e26, e27, e28, e29, e2a, e2b, _⟩ := HK2.out.c12
  have z2 := HK2.out.free 9
  have HK3 := Lib.hid (HK2.out.set 9 (.pointer (some ⟨X, 0, none⟩)) (cs' := OpC sh 6 er (y / 8) lk sl pw bh (some ⟨e, 0, none⟩) (some ⟨X, 0, none⟩) pu kv) rfl)
  have HO3 := Lib.hid (HO2.out.trans (Only.set1 K w2 9 (.pointer (some ⟨X, 0, none⟩))))
  have HN3 := Lib.hid (HN.out.same (Below.heap_setCell w2 ⟨K, 9, none⟩ (.pointer (some ⟨X, 0, none⟩)) X (by show X ≠ K; omega)))
  go_wp2_with fail
  refine bodyPost_ret (results_none rfl _ _ _) rfl ?_
  exact ⟨rfl, X, HK3.out, HN3.out, hwX, HO3.out⟩
end
end Go.Proofs.YtmjcbjcnmgleaaaGreatDoor
namespace Go.Proofs.YtmjcbjcnmgleaaaGreatDoor
open Go.RowKit Go.Maps
theorem p0 : (2 : Int) ^ 0 = 1 := by decide
theorem head_form (s t : Int) : headW s t = numS s + t % 281474976710656 * 65536 := by
  have h0 := numS_in s
  unfold headW pw
  rw [p48, p16, p0, Int.emod_eq_of_lt h0.1 (by omega)]
  omega
theorem slot_form (x : Int) : wSlot x = slotS (x % 65536) := by
  unfold wSlot fld
  rw [p16, p0, Int.ediv_one]
theorem tag_form (x : Int) : fld x 16 48 = x / 65536 % 281474976710656 := by
  unfold fld
  rw [p16, p48]
theorem slot_head (s t : Int) (h0 : -1 ≤ s) (h1 : s < 256) : wSlot (headW s t) = s := by
  rw [slot_form, head_form]
  have hs := numS_in s
  have : (numS s + t % 281474976710656 * 65536) % 65536 = numS s := by omega
  rw [this]
  unfold numS slotS
  split <;> split <;> omega
theorem tag_head (s t : Int) : fld (headW s t) 16 48 = t % 281474976710656 := by
  rw [tag_form, head_form]
  have hs := numS_in s
  omega
structure OS where
  nx : Int
  h : Int
  to : Int
structure MS where
  hd : Int
  lk : Int → Int
def MS.link (m : MS) (s v : Int) : MS := ⟨m.hd, fun k => if k = s then v else m.lk k⟩
def swapF (o : OS) (m : MS) : OS × MS := if m.hd = o.h then (⟨0, o.h, o.to⟩, ⟨nextW o.h o.to, m.lk⟩) else (⟨1, o.h, o.to⟩, m)
def popF (o : OS) (m : MS) : OS × MS :=
  if o.nx = 1 then (⟨if wSlot m.hd < 0 then 0 else 2, m.hd, o.to⟩, m)
  else if o.nx = 2 then (⟨3, o.h, wSlot (m.lk (wSlot o.h))⟩, m)
  else if o.nx = 3 then swapF o m
  else (o, m)
def pushF (o : OS) (m : MS) : OS × MS :=
  if o.nx = 1 then (⟨2, m.hd, o.to⟩, m)
  else if o.nx = 2 then (⟨3, o.h, o.to⟩, m.link o.to (headW (wSlot o.h) 0))
  else if o.nx = 3 then swapF o m
  else (o, m)
end Go.Proofs.YtmjcbjcnmgleaaaGreatDoor
namespace Go.Proofs.YtmjcbjcnmgleaaaGreatDoor
open Go.RowKit Go.Maps
def topOf : List Int → Int
  | [] => -1
  | s :: _ => s
def Ch (lk : Int → Int) : List Int → Prop
  | [] => True
  | s :: r => (0 ≤ s ∧ s < 256 ∧ wSlot (lk s) = topOf r) ∧ Ch lk r
structure Stk (M : MS) (s : List Int) (T : Int) : Prop where
  hd : M.hd = headW (topOf s) T
  ch : Ch M.lk s
  nd : s.Nodup
  t0 : 0 ≤ T
  t1 : T < 1000000
theorem topOf_in {lk : Int → Int} {s : List Int} (h : Ch lk s) : -1 ≤ topOf s ∧ topOf s < 256 := by
  cases s with
  | nil => simp [topOf]
  | cons x r => have := h.1; simp only [topOf]; omega
theorem Ch.upd {lk : Int → Int} {s : List Int} (h : Ch lk s) {x : Int} (hx : x ∉ s) (v : Int) : Ch (fun k => if k = x then v else lk k) s := by
  induction s with
  | nil => trivial
  | cons y r ih =>
    have hy : y ≠ x := fun e => hx (by rw [e]; simp)
    refine ⟨?_, ih h.2 (fun hm => hx (List.mem_cons_of_mem _ hm))⟩
    simp only [if_neg hy]
    exact h.1
theorem Stk.slot {M : MS} {s : List Int} {T : Int} (h : Stk M s T) : wSlot (headW (topOf s) T) = topOf s := by
  have := topOf_in h.ch
  exact slot_head _ _ this.1 this.2
theorem tag_small (s T : Int) (h0 : 0 ≤ T) (h1 : T < 1000000) : fld (headW s T) 16 48 = T := by
  rw [tag_head]
  omega
theorem Stk.start : Stk ⟨0, fun _ => 0⟩ [] 0 := ⟨by decide, trivial, List.nodup_nil, by decide, by decide⟩
section
variable {M : MS} {s r : List Int} {x T : Int}
theorem stk_pop_a (h : Stk M (x :: r) T) (to : Int) : popF ⟨1, 0, to⟩ M = (⟨2, headW x T, to⟩, M) := by
  have hs := h.slot
  have hc := h.ch.1.1
  simp only [topOf] at hs
  have e : ¬ wSlot M.hd < 0 := by rw [h.hd]; simp only [topOf]; rw [hs]; omega
  have e2 := h.hd
  simp only [topOf] at e2
  simp [popF, e2, hs, hc]
theorem stk_pop_b (h : Stk M (x :: r) T) (to : Int) : popF ⟨2, headW x T, to⟩ M = (⟨3, headW x T, topOf r⟩, M) := by
  have hs := h.slot
  simp only [topOf] at hs
  have hc := h.ch.1.2.2
  simp [popF, hs, hc]
theorem stk_pop_c (h : Stk M (x :: r) T) : popF ⟨3, headW x T, topOf r⟩ M = (⟨0, headW x T, topOf r⟩, ⟨headW (topOf r) (T + 1), M.lk⟩) := by
  have e2 := h.hd
  simp only [topOf] at e2
  simp [popF, swapF, e2, nextW, tag_small x T h.t0 h.t1]
theorem Stk.popped (h : Stk M (x :: r) T) (ht : T + 1 < 1000000) : Stk ⟨headW (topOf r) (T + 1), M.lk⟩ r (T + 1) :=
  ⟨rfl, h.ch.2, (List.nodup_cons.1 h.nd).2, by have := h.t0; omega, ht⟩
theorem stk_push_a (h : Stk M s T) : pushF ⟨1, 0, x⟩ M = (⟨2, headW (topOf s) T, x⟩, M) := by
  simp [pushF, h.hd]
theorem stk_push_b (h : Stk M s T) : pushF ⟨2, headW (topOf s) T, x⟩ M = (⟨3, headW (topOf s) T, x⟩, M.link x (headW (topOf s) 0)) := by
  simp [pushF, h.slot]
theorem Stk.linked (h : Stk M s T) (hx : x ∉ s) : Stk (M.link x (headW (topOf s) 0)) s T ∧ wSlot ((M.link x (headW (topOf s) 0)).lk x) = topOf s := by
  have := topOf_in h.ch
  exact ⟨⟨h.hd, h.ch.upd hx _, h.nd, h.t0, h.t1⟩, by simp only [MS.link, if_true]; exact slot_head _ _ this.1 this.2⟩
theorem stk_push_c (h : Stk M s T) : pushF ⟨3, headW (topOf s) T, x⟩ M = (⟨0, headW (topOf s) T, x⟩, ⟨headW x (T + 1), M.lk⟩) := by
  simp [pushF, swapF, h.hd, nextW, tag_small _ T h.t0 h.t1]
theorem Stk.pushed (h : Stk M s T) (hl : wSlot (M.lk x) = topOf s) (hx : x ∉ s) (h0 : 0 ≤ x) (h1 : x < 256) (ht : T + 1 < 1000000) : Stk ⟨headW x (T + 1), M.lk⟩ (x :: s) (T + 1) :=
  ⟨rfl, ⟨⟨h0, h1, hl⟩, h.ch⟩, List.nodup_cons.2 ⟨hx, h.nd⟩, by have := h.t0; omega, ht⟩
end
end Go.Proofs.YtmjcbjcnmgleaaaGreatDoor
namespace Go.Proofs.YtmjcbjcnmgleaaaGreatDoor
open Go.RowKit
structure Put (w w' : World) (g : Nat) (t : TypeId) (c : Array Value) : Prop where
  os : w'.os = w.os
  tape : w'.tape = w.tape
  output : w'.output = w.output
  size : w'.heap.size = w.heap.size
  at_ : w'.heap[g]? = some (.cells c t (0, 0))
  far : ∀ k, k ≠ g → w'.heap[k]? = w.heap[k]?
theorem Put.below {B g : Nat} {a w w' : World} {t : TypeId} {c : Array Value} (hp : Put w w' g t c) (h : Below B a w) (hg : B ≤ g) : Below B a w' :=
  ⟨hp.os.trans h.os, hp.tape.trans h.tape, hp.output.trans h.output, by rw [hp.size]; exact h.size, fun k hk => (hp.far k (by omega)).trans (h.block k hk)⟩
theorem put_setRow {w : World} {g : Nat} {t : TypeId} {c : Array Value} (hg : w.heap[g]? = some (.cells c t (0, 0))) (c' : Array Value) : Put w (w.setRow g c') g t c' :=
  ⟨rfl, rfl, rfl, by simp, setRow_heap w g c c' t (0, 0) hg, fun k hk => setRow_other w g k c' hk⟩
theorem wpList_store_put {P : Program} {ops : Array Oper} {rest : List Oper} {o : Oper} {a : Act} {w : World} {Q : Exit → Act → World → Prop} (hgd : o.guard = none) (ty : TypeId) (x y : Operand) (ho : o.op = .store ty x y)
    (g : Nat) (hx : a.eval x = .pointer (some ⟨g, 0, none⟩)) (c' : Array Value) (hy : a.eval y = .agg c') (t : TypeId) (c : Array Value) (hg : w.heap[g]? = some (.cells c t (0, 0))) (hi : (P.info? ty).map (·.size) = some c'.size) (hs : c.size = c'.size) (h1 : c'.toList.all (·.oneCell') = true)
    (h : ∀ w', Put w w' g t c' → wpList P ops Q rest (a.put o.dst undef) w') : wpList P ops Q (o :: rest) a w := by
  refine wpList_plain hgd fun K hK => ?_
  unfold Oper.wp execOp
  simp only [ho, hx, hy, Instr.storeAt, Instr.sureAddr, Sem.run_bind, Sem.run_pure, Result.andThen_ok, run_storeVar_row w g t ty c c' hg hi hs (by rw [← Array.all_toList]; exact h1)]
  exact hK _ _ (h _ (put_setRow hg c'))
end Go.Proofs.YtmjcbjcnmgleaaaGreatDoor
