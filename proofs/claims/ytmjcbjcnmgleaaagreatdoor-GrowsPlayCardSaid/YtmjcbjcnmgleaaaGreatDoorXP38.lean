/-
  Package grows; conditions as each theorem says.
-/
import Derived.Test.YtmjcbjcnmgleaaaGreatDoorXP37
import Derived.Maps.AppendAt
import Derived.StillTailTactics
import Derived.Deep.RegionHeld3
namespace Go.Proofs.YtmjcbjcnmgleaaaGreatDoor
open Go.RowKit Go.Maps
def SC (nx : Int) (pt : Value) (sg sl ws en lk : Int) (kv : Value) : List Value := [.int .i64 nx, pt, .int .i64 sg, .int .i64 sl, .int .u64 ws, .int .i64 en, .int .i64 lk, kv]
def KeptAt (B : Nat) (kv : Value) (xs : List Int) (w : World) : Prop := w.ownsRow B 3 1 kv xs.length (xs.map (Value.int .i64))
theorem info_intG : (Tryz.prog.info? 3).map (fun i => (i.zero, i.size, i.bytes)) = some (some (.int .i64 0), 1, 8) := by kernel_rfl
theorem cells_newG (w : World) (xs : List Value) (t : TypeId) : ∀ j u, xs[j]? = some u → (w.alloc (.cells xs.toArray t)).cell? ((⟨w.heap.size, 0, none⟩ : Addr).add j) = some u := by
  intro j u hj
  by_cases h : j = 0
  · subst h
    simp [Addr.add, hj]
  · simp [Addr.add, h, hj]
section
variable {B p b q r : Nat} {T : TypeId} {nx n sg sl ws en lk y : Int} {pt kv : Value} {cs : List Value} {xs : List Int} {M : MV} {w w' X Y : World}
theorem Bq.sc (k : Bq q T (SC nx pt sg sl ws en lk kv) w) : w.cell? ⟨q, 0, none⟩ = some (.int .i64 nx) ∧ w.cell? ⟨q, 1, none⟩ = some pt ∧ w.cell? ⟨q, 2, none⟩ = some (.int .i64 sg) ∧ w.cell? ⟨q, 3, none⟩ = some (.int .i64 sl) ∧ w.cell? ⟨q, 4, none⟩ = some (.int .u64 ws) ∧ w.cell? ⟨q, 5, none⟩ = some (.int .i64 en) ∧ w.cell? ⟨q, 6, none⟩ = some (.int .i64 lk) ∧ w.cell? ⟨q, 7, none⟩ = some kv ∧ ∀ i, w.frozen? ⟨q, i, none⟩ = false :=
  ⟨k.cell 0, k.cell 1, k.cell 2, k.cell 3, k.cell 4, k.cell 5, k.cell 6, k.cell 7, k.free⟩
theorem seek_any (k : Bq q T (SC nx pt sg sl ws en lk kv) w) : Calls Tryz.prog 109 #[.pointer (some ⟨q, 0, none⟩)] w fun e w' => e = .returned (.int .i64 5) ∧ ∃ r, w.heap.size ≤ r ∧ Bq r 210 [.int .i64 1, .int .u64 0, .int .i64 0] w' ∧ Bq q T (SC nx (.iface 164 (.pointer (some ⟨r, 0, none⟩))) sg sl ws en lk kv) w' ∧ Only q q w w' := by
  obtain ⟨c0, c1, c2, c3, c4, c5, c6, c7, z⟩ := k.sc
  have HK := Lib.hid k
  clear k z
  go_enter Tryz.func109, Tryz.ntmps109
  go_wp2_with fail
  ((with_reducible refine (newPop_any _).mono ?_); rintro ee w1 ⟨rfl, ho, hb, _⟩)
  have HR := Lib.hid ho.bq
  have HK1 := Lib.hid (HK.out.below hb)
  have HO := Lib.hid (Only.of_below (p := q) (b := q) hb)
  have hlt := HK.out.lt
  clear ho hb c0 c1 c2 c3 c4 c5 c6 c7
  obtain ⟨c0, c1, c2, c3, c4, c5, c6, c7, z⟩ := HK1.out.sc
  have z1 := z 1
  clear z
  have HS := Lib.hid (HK1.out.set 1 (.iface 164 (.pointer (some ⟨w.heap.size, 0, none⟩))) (cs' := SC nx (.iface 164 (.pointer (some ⟨w.heap.size, 0, none⟩))) sg sl ws en lk kv) rfl)
  go_wp2_with fail
  go_ret
  exact ⟨rfl, w.heap.size, Nat.le_refl _, HR.out.setO (by omega) 1 _, HS.out, HO.out.trans (Only.setCell q q w1 1 _)⟩
theorem giveBack_none {ad : Option Addr} {cap : Nat} (k : Bq q T (SC nx pt sg sl ws en lk (.slice ad 0 cap)) w) : Calls Tryz.prog 112 #[.pointer (some ⟨q, 0, none⟩)] w fun e w' => e = .returned (.int .i64 3) ∧ w' = w := by
  obtain ⟨c0, c1, c2, c3, c4, c5, c6, c7, z⟩ := k.sc
  clear k z
  go_enter Tryz.func112, Tryz.ntmps112
  go_wp2_with fail
  go_ret
  exact ⟨rfl, rfl⟩
theorem armS {g nn : Nat} {z : Int} {u : Value} (k : Bq q T (SC nx pt sg sl ws en lk kv) X) (hg : g ≠ q) (ho : Only q q w X) (hz : X.cell? ⟨g, nn, none⟩ = some (.int .i64 z)) (hb : Below X.heap.size X Y) :
    (Y.cell? ⟨q, 7, none⟩ = some kv ∧ Y.cell? ⟨g, nn, none⟩ = some (.int .i64 z)) ∧ Y.cell? ⟨q, 1, none⟩ = some pt ∧ Y.frozen? ⟨q, 1, none⟩ = false ∧ Bq q T (SC nx u sg sl ws en lk kv) (Y.setCell ⟨q, 1, none⟩ u) ∧ Only q q w (Y.setCell ⟨q, 1, none⟩ u) ∧ ((Y.setCell ⟨q, 1, none⟩ u).cell? ⟨q, 7, none⟩ = some kv ∧ (Y.setCell ⟨q, 1, none⟩ u).cell? ⟨g, nn, none⟩ = some (.int .i64 z)) := by
  have kY := k.below hb
  have hz' : Y.cell? ⟨g, nn, none⟩ = some (.int .i64 z) := (World.cell?_of_block (hb.block g (World.block_lt_of_cell? _ _ hz))).trans hz
  have kS : Bq q T (SC nx u sg sl ws en lk kv) (Y.setCell ⟨q, 1, none⟩ u) := kY.set 1 u rfl
  exact ⟨⟨kY.cell 7, hz'⟩, kY.cell 1, kY.free 1, kS, (ho.trans (Only.of_below hb)).trans (Only.setCell q q Y 1 u), kS.cell 7, (World.cell?_of_block (Below.heap_setCell Y ⟨q, 1, none⟩ u g hg)).trans hz'⟩
theorem giveBack_some {g nn cap : Nat} {z : Int} (k : Bq q T (SC nx pt sg sl ws en lk (.slice (some ⟨g, 0, none⟩) (nn + 1) cap)) w) (hn : nn < 1000) (hz : w.cell? ⟨g, nn, none⟩ = some (.int .i64 z)) (z0 : 0 ≤ z) (z1 : z < 256) (hgq : g ≠ q) : Calls Tryz.prog 112 #[.pointer (some ⟨q, 0, none⟩)] w fun e w' => e = .returned (.int .i64 5) ∧ ∃ r, w.heap.size ≤ r ∧ Bq r 198 [.int .i64 1, .int .u64 0, .int .i64 z] w' ∧ Bq q T (SC nx (.iface 152 (.pointer (some ⟨r, 0, none⟩))) sg sl ws en lk (.slice (some ⟨g, 0, none⟩) (nn + 1) cap)) w' ∧ Only q q w w' := by
  obtain ⟨c0, c1, c2, c3, c4, c5, c6, c7, zz⟩ := k.sc
  have HK := Lib.hid k
  clear k zz
  go_enter Tryz.func112, Tryz.ntmps112
  have hq0 : (0 : Int) ≤ (nn : Int) := by omega
  have hq1 : (nn : Int) < (nn : Int) + 1 := by omega
  have hq2 : IntKind.i64.wrap (nn : Int) = (nn : Int) := by
    simp [IntKind.wrap, IntKind.bits, IntKind.signed]
    omega
  clear hn
  go_wp2_with fail
  have HBd := Lib.hid (show Below w.heap.size w w.drew from (Below.refl _ _).drew)
  have HKd := Lib.hid (HK.out.below HBd.out)
  have HOd := Lib.hid (Only.of_below (p := q) (b := q) HBd.out)
  have HZd := Lib.hid (show w.drew.cell? ⟨g, nn, none⟩ = some (.int .i64 z) from hz)
  have hs0 := Lib.hid (And.intro (HKd.out.sc).2.2.2.2.2.2.2.1 HZd.out)
  have hwq : q < w.drew.heap.size := HKd.out.lt
  clear c0 c1 c2 c3 c4 c5 c6 c7 hz
  go_region_held3 (fun w9 => w9.cell? ⟨q, 7, none⟩ = some (.slice (some ⟨g, 0, none⟩) (nn + 1) cap) ∧ w9.cell? ⟨g, nn, none⟩ = some (.int .i64 z))
    (first | with_reducible exact hs0.out | with_reducible exact hs8.out | with_reducible exact hs9.out | fail)
    (first
      | (go_at_call 82; with_reducible refine (newPush_any z z0 z1 _).mono ?_; rintro ee x8 ⟨rfl, ho8, hb8, _⟩; have hA8 := armS (u := .iface 152 (.pointer (some ⟨w.heap.size, 0, none⟩))) HKd.out hgq HOd.out HZd.out hb8; have hs8 := Lib.hid hA8.1; have e8 := hA8.2.1; have z8 := hA8.2.2.1; have HK9 := Lib.hid hA8.2.2.2.1; have HO9 := Lib.hid hA8.2.2.2.2.1; have hs9 := Lib.hid hA8.2.2.2.2.2; have HR8 := Lib.hid ho8.bq; clear ho8 hA8 hb8)
      | fail)
  go_wp2_with fail
  go_ret
  exact ⟨rfl, w.heap.size, Nat.le_refl _, HR8.out.setO (by have : q < w.heap.size := hwq; show w.heap.size ≠ q; omega) 1 _, HK9.out, HO9.out⟩
theorem found_none {P : World → Prop} {y : Int} (H : Calls Tryz.prog 112 #[.pointer (some ⟨q, 0, none⟩)] w fun e w' => e = .returned (.int .i64 n) ∧ P w') : Calls Tryz.prog 110 #[.pointer (some ⟨q, 0, none⟩), .int .i64 y, .bool false] w fun e w' => e = .returned (.int .i64 n) ∧ P w' := by
  have HH := Lib.hid H
  clear H
  go_enter Tryz.func110, Tryz.ntmps110
  go_wp2_with fail
  ((with_reducible refine HH.out.mono ?_); rintro ee w1 ⟨rfl, hp⟩)
  go_wp2_with fail
  go_ret
  exact ⟨rfl, hp⟩
theorem found_own (hy : 0 ≤ y ∧ y < 256) (hg : y / 8 = sg) (k : Bq q T (SC nx pt sg sl ws en lk kv) w) : Calls Tryz.prog 110 #[.pointer (some ⟨q, 0, none⟩), .int .i64 y, .bool true] w fun e w' => e = .returned (.int .i64 5) ∧ ∃ r r1, w.heap.size ≤ r1 ∧ r1 < r ∧ Bq r 245 [.iface 162 (.pointer (some ⟨r1, 0, none⟩)), .int .i64 y, .int .u32 0, .bool false] w' ∧ Bq r1 209 [.int .u8 9, .int .i64 y, .int .i64 0, .int .u64 0] w' ∧ Bq q T (SC nx (.iface 214 (.pointer (some ⟨r, 0, none⟩))) sg sl ws en lk kv) w' ∧ Only q q w w' := by
  have eo : ofS y = sg := by unfold ofS; rw [if_pos hy]; exact hg
  have HK := Lib.hid k
  have HY := Lib.hid hy
  clear k hg hy
  go_enter Tryz.func110, Tryz.ntmps110
  go_wp2_with fail
  have HBd := Lib.hid (show Below w.heap.size w w.drew from (Below.refl _ _).drew)
  have HKd := Lib.hid (HK.out.below HBd.out)
  have HOd := Lib.hid (Only.of_below (p := q) (b := q) HBd.out)
  have hs0 := Lib.hid HKd.out.sc.2.2.1
  go_region_held3 (fun w9 => w9.cell? ⟨q, 2, none⟩ = some (.int .i64 sg))
    (first | with_reducible exact hs0.out | with_reducible exact hs8.out | fail)
    (first
      | (go_at_call 25; with_reducible refine (segOf_eq eo _).mono ?_; rintro ee x8 ⟨rfl, hb8⟩; have HK8 := Lib.hid (HKd.out.below hb8); have HO8 := Lib.hid (HOd.out.trans (Only.of_below hb8)); have hs8 := Lib.hid HK8.out.sc.2.2.1; clear hb8)
      | fail)
  go_wp2_with fail
  ((with_reducible refine (newPark_yes HY.out.1 HY.out.2 _).mono ?_); rintro ee w2 ⟨r, r1, rfl, g1, g2, kr, kr1, hb2⟩)
  have HR := Lib.hid kr
  have HR1 := Lib.hid kr1
  have HK2 := Lib.hid (HK8.out.below hb2)
  have HO2 := Lib.hid (HO8.out.trans (Only.of_below hb2))
  have hqx : q < x8.heap.size := HK8.out.lt
  have hwx : w.heap.size ≤ x8.heap.size := HO8.out.size
  clear kr kr1 hb2
  obtain ⟨c0, c1, c2, c3, c4, c5, c6, c7, z⟩ := HK2.out.sc
  have z1 := z 1
  clear z
  have HS := Lib.hid (HK2.out.set 1 (.iface 214 (.pointer (some ⟨r, 0, none⟩))) (cs' := SC nx (.iface 214 (.pointer (some ⟨r, 0, none⟩))) sg sl ws en lk kv) rfl)
  go_wp2_with fail
  go_ret
  exact ⟨rfl, r, r1, by omega, g2, HR.out.setO (by omega) 1 _, HR1.out.setO (by omega) 1 _, HS.out, HO2.out.trans (Only.setCell q q w2 1 _)⟩
theorem KeptAt.lt (h : KeptAt B kv xs w) {g : Nat} (hg : kv.ownBlock = some g) : B ≤ g ∧ ∃ cur, w.heap[g]? = some (.cells cur 3 (0, 0)) := by
  rcases h.2 with ⟨e, _⟩ | ⟨g', cap, cur, e, h1, h2, _⟩
  · subst e; simp [Value.ownBlock] at hg
  · subst e
    simp [Value.ownBlock] at hg
    subst hg
    exact ⟨h1, cur, h2⟩
theorem KeptAt.same (h : KeptAt B kv xs w) (hs : ∀ g, kv.ownBlock = some g → X.heap[g]? = w.heap[g]?) : KeptAt B kv xs X := by
  refine ⟨h.1, ?_⟩
  rcases h.2 with e | ⟨g', cap, cur, e, h1, h2, h3⟩
  · exact .inl e
  · exact .inr ⟨g', cap, cur, e, h1, (hs g' (by subst e; rfl)).trans h2, h3⟩
theorem KeptAt.below (h : KeptAt B kv xs w) (hb : Below w.heap.size w X) : KeptAt B kv xs X := h.same fun g hg => by
  obtain ⟨_, cur, hc⟩ := h.lt hg
  exact hb.block g (Array.getElem?_eq_some_iff.1 hc).1
theorem KeptAt.ne (h : KeptAt B kv xs w) (k : Bq q T cs w) (hT : T ≠ 3) {g : Nat} (hg : kv.ownBlock = some g) : g ≠ q := by
  obtain ⟨_, cur, hc⟩ := h.lt hg
  rintro rfl
  have := hc.symm.trans k
  simp only [Option.some.injEq, Obj.cells.injEq] at this
  exact hT this.2.1.symm
theorem KeptAt.keepO (h : KeptAt B kv xs w) (ho : Only q q w X) (k : Bq q T cs w) (hT : T ≠ 3) : KeptAt B kv xs X := h.same fun g hg => by
  obtain ⟨_, cur, hc⟩ := h.lt hg
  exact ho.block g (Array.getElem?_eq_some_iff.1 hc).1 (h.ne k hT hg) (h.ne k hT hg)
structure Onk (q : Nat) (ob : Option Nat) (X Y : World) : Prop where
  os : Y.os = X.os
  tape : Y.tape = X.tape
  output : Y.output = X.output
  size : X.heap.size ≤ Y.heap.size
  block : ∀ k, k < X.heap.size → k ≠ q → ob ≠ some k → Y.heap[k]? = X.heap[k]?
theorem Onk.of_only {ob : Option Nat} (h : Only q q X Y) : Onk q ob X Y := ⟨h.os, h.tape, h.output, h.size, fun k hk h1 _ => h.block k hk h1 h1⟩
theorem Onk.trans {ob : Option Nat} {Z : World} (h : Onk q ob X Y) (g : Onk q ob Y Z) : Onk q ob X Z :=
  ⟨g.os.trans h.os, g.tape.trans h.tape, g.output.trans h.output, Nat.le_trans h.size g.size, fun k hk h1 h2 => (g.block k (Nat.lt_of_lt_of_le hk h.size) h1 h2).trans (h.block k hk h1 h2)⟩
theorem Onk.of_grown {ob : Option Nat} (h : X.grownBy Y ob) : Onk q ob X Y := ⟨h.os, h.tape, h.output, h.size, fun k hk _ h2 => h.block k hk (Ne.symm h2)⟩
theorem KeptAt.push {v' : Value} (h : w.ownsRow B 3 1 v' (xs.length + 1) (xs.map (Value.int .i64) ++ [.int .i64 y])) : KeptAt B v' (xs ++ [y]) w := by
  unfold KeptAt
  rw [List.length_append, List.map_append]
  exact h
theorem KeptAt.set (h : KeptAt B kv xs w) (k : Bq q T cs w) (hT : T ≠ 3) (i : Nat) (v : Value) : KeptAt B kv xs (w.setCell ⟨q, i, none⟩ v) := h.same fun g hg => Below.heap_setCell w ⟨q, i, none⟩ v g (h.ne k hT hg)
def FoundKeep (B q : Nat) (T : TypeId) (nx sg sl ws en lk : Int) (kv : Value) (xs : List Int) (y : Int) (w w' : World) : Prop :=
  ∃ r pt' kv', w.heap.size ≤ r ∧ ((256 ≤ xs.length + 1 ∧ pt' = .iface 152 (.pointer (some ⟨r, 0, none⟩)) ∧ Bq r 198 [.int .i64 1, .int .u64 0, .int .i64 y] w') ∨ (xs.length + 1 < 256 ∧ pt' = .iface 164 (.pointer (some ⟨r, 0, none⟩)) ∧ Bq r 210 [.int .i64 1, .int .u64 0, .int .i64 0] w')) ∧
    Bq q T (SC nx pt' sg sl ws en lk kv') w' ∧ KeptAt B kv' (xs ++ [y]) w' ∧ Onk q kv.ownBlock w w' ∧ (kv'.ownBlock = kv.ownBlock ∨ ∃ g, kv'.ownBlock = some g ∧ w.heap.size ≤ g)
theorem grown_q {row : Option Nat} (k : Bq q T cs w) (h : w.grownBy X row) (hn : ∀ g, row = some g → g ≠ q) : Bq q T cs X := k.same (h.block q k.lt fun e => hn q e.symm rfl)
theorem own_sliceK {w : World} {base : Nat} {e : TypeId} {size : Nat} {v : Value} {n : Nat} {xs : List Value} (h : w.ownsRow base e size v n xs) : ∃ A c, v = .slice A n c ∧ n ≤ c ∧ c ≤ 9223372036854775807 ∧ (0 < n → ∃ g, A = some ⟨g, 0, none⟩) := by
  rcases h.2 with ⟨rfl, rfl⟩ | ⟨g, cap, cur, rfl, _, _, hc, hm, _⟩
  · exact ⟨none, 0, rfl, Nat.le_refl _, by omega, fun h => by omega⟩
  · exact ⟨_, cap, rfl, hc, by unfold maxLen at hm; exact hm, fun _ => ⟨g, rfl⟩⟩
set_option maxRecDepth 100000 in
set_option maxHeartbeats 4000000 in
theorem found_keep (hT : T ≠ 3) (hy : 0 ≤ y ∧ y < 256) (hg : y / 8 ≠ sg) (hl : xs.length < 256) (hB : B ≤ w.heap.size) (k : Bq q T (SC nx pt sg sl ws en lk kv) w) (kr : KeptAt B kv xs w) : Calls Tryz.prog 110 #[.pointer (some ⟨q, 0, none⟩), .int .i64 y, .bool true] w fun e w' => e = .returned (.int .i64 5) ∧ FoundKeep B q T nx sg sl ws en lk kv xs y w w' := by
  obtain ⟨g, eo, hgb⟩ : ∃ g, ofS y = g ∧ (g == sg) = false := ⟨_, rfl, beq_eq_false_iff_ne.2 (by unfold ofS; rw [if_pos hy]; exact hg)⟩
  have HK := Lib.hid k
  have HY := Lib.hid hy
  obtain ⟨A, c, rfl, hnc, hcm, hA⟩ := own_sliceK kr
  have HR := Lib.hid kr
  clear k hg hy kr hA
  go_enter Tryz.func110, Tryz.ntmps110
  go_wp2_with fail
  have HBd := Lib.hid (show Below w.heap.size w w.drew from (Below.refl _ _).drew)
  have HKd := Lib.hid (HK.out.below HBd.out)
  have HOd := Lib.hid (Only.of_below (p := q) (b := q) HBd.out)
  have hs0 := Lib.hid HKd.out.sc.2.2.1
  go_region_held3 (fun w9 => w9.cell? ⟨q, 2, none⟩ = some (.int .i64 sg))
    (first | with_reducible exact hs0.out | with_reducible exact hs8.out | fail)
    (first
      | (go_at_call 25; with_reducible refine (segOf_eq eo _).mono ?_; rintro ee x8 ⟨rfl, hb8⟩; have HK8 := Lib.hid (HKd.out.below hb8); have HO8 := Lib.hid (HOd.out.trans (Only.of_below hb8)); have hs8 := Lib.hid HK8.out.sc.2.2.1; clear hb8)
      | fail)
  obtain ⟨c0, c1, c2, c3, c4, c5, c6, c7, z⟩ := HK8.out.sc
  clear z
  obtain ⟨i0, hi0, hz0, hz1, hz2⟩ := info_parts info_intG
  have HX := Lib.hid (show Below x8.heap.size x8 (x8.alloc (.cells #[.int .i64 y] 3)) from (Below.refl _ _).alloc (Nat.le_refl _) _)
  have HKX := Lib.hid (HK8.out.below HX.out)
  have HOX := Lib.hid (HO8.out.trans (Only.of_below HX.out))
  have HR8 := Lib.hid ((HR.out.keepO (q := q) HO8.out HK.out hT).below HX.out)
  have HN8 := Lib.hid (fun g => HR8.out.ne HKX.out hT (g := g))
  have HC8 := Lib.hid (cells_newG x8 [.int .i64 y] 3)
  have hB8 : B ≤ x8.heap.size := Nat.le_trans hB HO8.out.size
  go_wp2_with (at_builtin; go_loud (refine wpList_append_own_at _ rfl _ _ _ rfl B 3 i0 _ 1 8 Tryz.underlying61 hi0 hz0 hz1 hz2 rfl (by decide) (.slice A xs.length c) xs.length (xs.map (Value.int .i64)) rfl HR8.out ⟨x8.heap.size, 0, none⟩ 1 1 [.int .i64 y] rfl rfl HC8.out (fun u hu => by rw [List.mem_singleton.1 hu]; rfl) (by unfold maxLen; omega) (by omega) (by have := HX.out.size; omega) ?_; intro v' w4 hown' hgrow _ hown2; obtain ⟨A', c2, rfl, _, _, hA'⟩ := own_sliceK hown'; obtain ⟨g', rfl⟩ := hA' (Nat.succ_pos _); have HK4 := Lib.hid (grown_q HKX.out hgrow HN8.out); obtain ⟨c0, c1, c2', c3, c4, c5, c6, c7, z⟩ := HK4.out.sc; have z7 := z 7; clear z; have HO4 := Lib.hid hown'; have HG4 := Lib.hid hgrow; have HB4 := Lib.hid hown2; clear hown' hgrow hown2; have HKS := Lib.hid (HK4.out.set 7 (.slice (some ⟨g', 0, none⟩) (xs.length + 1) c2) (cs' := SC nx pt sg sl ws en lk (.slice (some ⟨g', 0, none⟩) (xs.length + 1) c2)) rfl); have HKP := Lib.hid ((KeptAt.push HO4.out).set HK4.out hT 7 (.slice (some ⟨g', 0, none⟩) (xs.length + 1) c2)); have HFR := Lib.hid (((Onk.of_only HOX.out).trans (Onk.of_grown HG4.out)).trans (Onk.of_only (Only.setCell q q w4 7 (.slice (some ⟨g', 0, none⟩) (xs.length + 1) c2)))); have HGQ := Lib.hid ((KeptAt.push HO4.out).ne HK4.out hT (g := g') rfl); have HCY := Lib.hid ((World.cell?_of_block (a := ⟨g', xs.length, none⟩) (Below.heap_setCell w4 ⟨q, 7, none⟩ (.slice (some ⟨g', 0, none⟩) (xs.length + 1) c2) g' HGQ.out)).trans ((HO4.out.cellAt xs.length (by omega)).trans (by rw [List.getElem?_append_right (by rw [List.length_map]; exact Nat.le_refl _), List.length_map, Nat.sub_self, List.getElem?_cons_zero]))); have HOB := Lib.hid (show ((Value.slice (some ⟨g', 0, none⟩) (xs.length + 1) c2).ownBlock = (Value.slice A xs.length c).ownBlock ∨ ∃ g, (Value.slice (some ⟨g', 0, none⟩) (xs.length + 1) c2).ownBlock = some g ∧ w.heap.size ≤ g) from HB4.out.elim .inl fun h => .inr ⟨_, h, Nat.le_trans HO8.out.size HX.out.size⟩)))
  · ((with_reducible refine (seek_any HKS.out).mono ?_); rintro ee w9 ⟨rfl, r, g1, kr, kq, ho⟩)
    have hw5 : w.heap.size ≤ r := Nat.le_trans HFR.out.size g1
    have HP := Lib.hid (show FoundKeep B q T nx sg sl ws en lk (.slice A xs.length c) xs y w w9 from ⟨r, _, _, hw5, .inr ⟨by omega, rfl, kr⟩, kq, HKP.out.keepO ho HKS.out hT, HFR.out.trans (Onk.of_only ho), HOB.out⟩)
    clear g1 kr kq ho
    go_wp2_with fail
    go_ret
    exact ⟨rfl, HP.out⟩
  · ((with_reducible refine (giveBack_some HKS.out (by omega) HCY.out HY.out.1 HY.out.2 HGQ.out).mono ?_); rintro ee w9 ⟨rfl, r, g1, kr, kq, ho⟩)
    have hw5 : w.heap.size ≤ r := Nat.le_trans HFR.out.size g1
    have HP := Lib.hid (show FoundKeep B q T nx sg sl ws en lk (.slice A xs.length c) xs y w w9 from ⟨r, _, _, hw5, .inl ⟨by omega, rfl, kr⟩, kq, HKP.out.keepO ho HKS.out hT, HFR.out.trans (Onk.of_only ho), HOB.out⟩)
    clear g1 kr kq ho
    go_wp2_with fail
    go_ret
    exact ⟨rfl, HP.out⟩
end
end Go.Proofs.YtmjcbjcnmgleaaaGreatDoor
