/-
  The document's Shrink of layer 9; conditions as each theorem says.
-/
import Derived.Test.YtmjcbjcnmgleaaaGreatDoorXP39
import Derived.Test.YtmjcbjcnmgleaaaGreatDoorXP38
import Derived.Test.YtmjcbjcnmgleaaaGreatDoorXP42
namespace Go.Proofs.YtmjcbjcnmgleaaaGreatDoor
open Go.RowKit Go.Maps
section
variable {B p m b n K c e n0 k1 : Nat} {sh : Bool} {ln er sg lk sl pw bh : Int} {pp pa pu : Option Addr} {kv : Value} {xs : List Int} {D : DataW Unit} {s r r' : Acc8} {L L' : List (Ad × Int)} {M : MV} {E : List Nat} {w w' w0 w1 X Y : World} {cs cs' : List Value} {v : Int} {ob : Option Nat}
theorem Pr.onk {t : TypeId} (h : Pr p m b n D s L r X) (hX : Bk K t cs X) (ht : t ≠ 118) (hp : K ≠ p) (hb : K ≠ b) (hg : ∀ g, ob = some g → ∃ cur fr, X.heap[g]? = some (.cells cur 3 fr)) (ho : Onk K ob X Y) : Pr p m b n D s L r Y := by
  have far : ∀ z, z < X.heap.size → z ≠ K → ob ≠ some z → Y.heap[z]? = X.heap[z]? := fun z hz hk hn => ho.block z hz hk hn
  obtain ⟨es, c, hm⟩ := h.prog.map_at
  obtain ⟨v, hr⟩ := h.ref
  have lt : ∀ {z : Nat} {o : Obj}, X.heap[z]? = some o → z < X.heap.size := fun h => (Array.getElem?_eq_some_iff.1 h).1
  have no : ∀ {z : Nat} {cs : Array Value} {t : TypeId} {fr : Nat × Nat}, X.heap[z]? = some (.cells cs t fr) → t ≠ 3 → ob ≠ some z := fun {z cs t fr} hz ht e => by
    obtain ⟨cur, fr', hc⟩ := hg z e
    rw [hz] at hc
    simp only [Option.some.injEq, Obj.cells.injEq] at hc
    exact ht hc.2.1
  refine ⟨h.prog.keep (far p (lt h.prog.blk) (Ne.symm hp) (no h.prog.blk (by decide))) (far m (lt hm) (fun e => ?_) fun e => ?_), ⟨v, (far b (lt hr.blk) (Ne.symm hb) (no hr.blk (by decide))).trans hr.blk, ⟨hr.own.1, ?_⟩, hr.pos⟩, h.mp, h.pb⟩
  · subst e; unfold Bk at hX; rw [hX] at hm; cases hm
  · obtain ⟨cur, fr', hc⟩ := hg m e
    rw [hc] at hm; cases hm
  · rcases hr.own.2 with hn | ⟨g, cap, cur, hv, hB, hg, rest⟩
    · exact .inl hn
    · refine .inr ⟨g, cap, cur, hv, hB, (far g (lt hg) (fun e => ?_) (no hg (by decide))).trans hg, rest⟩
      subst e
      unfold Bk at hX
      rw [hX] at hg
      injection hg with hg
      injection hg with _ h3
      exact ht h3
theorem OD.onk (h : OD B p m b n D s K E cs L r w0 w) (hBK : B ≤ K) (hE : K ∈ E) (hn : K ≠ p ∧ K ≠ b) (hg : ∀ g, ob = some g → (B ≤ g ∧ ∃ cur, w.heap[g]? = some (.cells cur 3 (0, 0))) ∧ g ∈ E) (k : Bk K 108 cs' w') (o : Onk K ob w w') : OD B p m b n D s K E cs' L r w0 w' := by
  have hBw : B ≤ w.heap.size := Nat.le_trans hBK (Nat.le_of_lt h.k.lt)
  refine ⟨k, h.pr.onk h.k (by decide) hn.1 hn.2 (fun g e => by obtain ⟨⟨_, cur, hc⟩, _⟩ := hg g e; exact ⟨cur, _, hc⟩) o, h.f.trans ⟨⟨o.os, o.tape, o.output, o.size, fun x hx => o.block x (by omega) (by omega) (fun e => by have := (hg x e).1.1; omega)⟩, fun x cs t fr hx _ _ _ h3 => (o.block x (Array.getElem?_eq_some_iff.1 hx).1 (fun e => h3 (e ▸ hE)) (fun e => h3 (hg x e).2)).trans hx⟩⟩
def SvS (K : Nat) (sh : Bool) (er sg lk sl pw bh : Int) (pp pa pu : Option Addr) (kv : Value) (xs : List Int) (w : World) (ee : Ending) (w' : World) : Prop :=
  ee = .returned (.tuple #[]) ∧ ∃ ln2 pu2, Bk K 108 (OpC sh ln2 er sg lk sl pw bh pp pa pu2 kv) w' ∧ Only K K w w' ∧ ((xs = [] ∧ ln2 = 3 ∧ pu2 = pu) ∨ (xs ≠ [] ∧ ln2 = 7 ∧ ∃ e, pu2 = some ⟨e, 0, none⟩ ∧ RefAt e true (xs.getLastD 0) 1 false 0 0 w' ∧ w.heap.size ≤ e))
theorem lastD_at {xs : List Int} {nn : Nat} (h : xs.length = nn + 1) : (xs.map (Value.int .i64))[nn]? = some (.int .i64 (xs.getLastD 0)) := by
  have e : xs.getLastD 0 = xs.getD nn 0 := by
    rw [List.getLastD_eq_getLast?, List.getLast?_eq_getElem?, List.getD_eq_getElem?_getD, h]
    rfl
  rw [e, List.getElem?_map, List.getD_eq_getElem?_getD, List.getElem?_eq_getElem (by omega)]
  rfl
theorem op_seven_any (k : Bk K 108 (OpC sh ln er sg lk sl pw bh pp pa pu kv) w) (kr : KeptAt B kv xs w) (hz : ∀ z ∈ xs, 0 ≤ z ∧ z < 256) (hl : xs.length ≤ 256) :
    Calls Tryz.prog 106 #[.pointer (some ⟨K, 0, none⟩)] w (SvS K sh er sg lk sl pw bh pp pa pu kv xs w) := by
  obtain ⟨A, cc, rfl, hnc, hcm, hA⟩ := own_sliceK kr
  cases hx : xs.length with
  | zero =>
    rw [hx] at k
    have hnil := List.eq_nil_of_length_eq_zero hx
    refine (op_seven_none k).mono ?_
    rintro ee w' ⟨rfl, k', o⟩
    exact ⟨rfl, 3, pu, k', o, .inl ⟨hnil, rfl, rfl⟩⟩
  | succ nn =>
    obtain ⟨g, rfl⟩ := hA (by omega)
    have hne : xs ≠ [] := fun e => by rw [e] at hx; simp at hx
    have hgK : g ≠ K := kr.ne (T := 108) k (by decide) (by simp [Value.ownBlock])
    have hc : w.cell? ⟨g, nn, none⟩ = some (.int .i64 (xs.getLastD 0)) := by
      have := kr.cellAt nn (by omega)
      rw [lastD_at hx] at this
      exact this
    have hm : xs.getLastD 0 ∈ xs := by
      rw [List.getLastD_eq_getLast?, List.getLast?_eq_some_getLast hne]
      exact List.getLast_mem hne
    obtain ⟨h0, h1⟩ := hz _ hm
    rw [hx] at k
    refine (op_seven_some k hgK (by omega) hc h0 h1).mono ?_
    rintro ee w' ⟨rfl, e, k', R, he, o⟩
    exact ⟨rfl, 7, _, k', o, .inr ⟨hne, rfl, e, rfl, R, he⟩⟩
def FdS (B K : Nat) (sh : Bool) (er sg lk sl pw bh : Int) (_e : Nat) (pa _pu : Option Addr) (kv : Value) (xs : List Int) (y : Int) (w : World) (ee : Ending) (w' : World) : Prop :=
  ee = .returned (.tuple #[]) ∧ ∃ ln2 pp2 pu2 kv2 e2, Bk K 108 (OpC sh ln2 er sg lk sl pw bh pp2 pa pu2 kv2) w' ∧ KeptAt B kv2 (xs ++ [y]) w' ∧ Onk K kv.ownBlock w w' ∧ (kv2.ownBlock = kv.ownBlock ∨ ∃ g, kv2.ownBlock = some g ∧ w.heap.size ≤ g) ∧ w.heap.size ≤ e2 ∧
    ((256 ≤ xs.length + 1 ∧ ln2 = 7 ∧ pu2 = some ⟨e2, 0, none⟩ ∧ RefAt e2 true y 1 false 0 0 w') ∨ (xs.length + 1 < 256 ∧ ln2 = 5 ∧ pp2 = some ⟨e2, 0, none⟩ ∧ RefAt e2 false 0 1 false 0 0 w'))
set_option maxRecDepth 100000 in
set_option maxHeartbeats 4000000 in
theorem op_popped_keep {psh : Bool} {y ln' h nn : Int} (k : Bk K 108 (OpC sh 5 er sg lk sl pw bh (some ⟨e, 0, none⟩) pa pu kv) w) (R : RefAt e psh y ln' true h nn w) (hy : 0 ≤ y ∧ y < 256) (hg : y / 8 ≠ sg) (kr : KeptAt B kv xs w) (hl : xs.length < 256) (hz : ∀ z ∈ xs, 0 ≤ z ∧ z < 256) (hB : B ≤ w.heap.size) :
    Calls Tryz.prog 104 #[.pointer (some ⟨K, 0, none⟩)] w (FdS B K sh er sg lk sl pw bh e pa pu kv xs y w) := by
  obtain ⟨A, cc, rfl, hnc, hcm, hA⟩ := own_sliceK kr
  have HK := Lib.hid k
  have HR := Lib.hid kr
  obtain ⟨c0, c1, c2, c3, c4, c5, c6, c7, c8, c9, ca, cb, _⟩ := k.c12
  have r3 := R.cells.2.2.2.1
  have r1 := R.cells.2.1
  obtain ⟨hq1, hq2⟩ := seg_quo9 hy
  have HY := Lib.hid (⟨hy, hz⟩ : _ ∧ _)
  have hgb : (y / 8 == sg) = false := beq_eq_false_iff_ne.2 hg
  obtain ⟨i0, hi0, hz0, hz1, hz2⟩ := info_parts info_intG
  have HX := Lib.hid (show Below w.heap.size w (w.alloc (.cells #[.int .i64 y] 3)) from (Below.refl _ _).alloc (Nat.le_refl _) _)
  have HKX := Lib.hid (k.below HX.out)
  have HR8 := Lib.hid (kr.below HX.out)
  have HN8 := Lib.hid (fun g => HR8.out.ne HKX.out (by decide) (g := g))
  have HC8 := Lib.hid (cells_newG w [.int .i64 y] 3)
  clear k kr R hy hz hg hA
  go_enter Tryz.func104, Tryz.ntmps104
  go_wp2_with (at_builtin; go_loud (refine wpList_append_own_at _ rfl _ _ _ rfl B 3 i0 _ 1 8 Tryz.underlying61 hi0 hz0 hz1 hz2 rfl (by decide) (.slice A xs.length cc) xs.length (xs.map (Value.int .i64)) rfl HR8.out ⟨w.heap.size, 0, none⟩ 1 1 [.int .i64 y] rfl rfl HC8.out (fun u hu => by rw [List.mem_singleton.1 hu]; rfl) (by unfold maxLen; omega) (by omega) (by have := HX.out.size; omega) ?_; intro v' w4 hown' hgrow _ hown2; obtain ⟨A', c2x, rfl, _, _, hA'⟩ := own_sliceK hown'; obtain ⟨g', rfl⟩ := hA' (Nat.succ_pos _); have HK4 := Lib.hid (grown_q HKX.out hgrow HN8.out); obtain ⟨d0, d1, d2, d3, d4, d5, d6, d7, d8, d9, da, db, z⟩ := Bk.c12 HK4.out; have z11 := z 11; clear z; have HO4 := Lib.hid hown'; have HG4 := Lib.hid hgrow; have HB4 := Lib.hid hown2; clear hown' hgrow hown2; have HKS := Lib.hid (show Bk K 108 (OpC sh 5 er sg lk sl pw bh (some ⟨e, 0, none⟩) pa pu (.slice (some ⟨g', 0, none⟩) (xs.length + 1) c2x)) (w4.setCell ⟨K, 11, none⟩ (.slice (some ⟨g', 0, none⟩) (xs.length + 1) c2x)) from Bk.set HK4.out 11 _ rfl); have HKP := Lib.hid ((KeptAt.push HO4.out).set HK4.out (by decide) 11 (.slice (some ⟨g', 0, none⟩) (xs.length + 1) c2x)); have HFR := Lib.hid (((Onk.of_only (Only.of_below HX.out)).trans (Onk.of_grown HG4.out)).trans (Onk.of_only (Only.setCell K K w4 11 (.slice (some ⟨g', 0, none⟩) (xs.length + 1) c2x)))); have HOB := Lib.hid (show ((Value.slice (some ⟨g', 0, none⟩) (xs.length + 1) c2x).ownBlock = (Value.slice A xs.length cc).ownBlock ∨ ∃ g, (Value.slice (some ⟨g', 0, none⟩) (xs.length + 1) c2x).ownBlock = some g ∧ w.heap.size ≤ g) from HB4.out.elim .inl fun h => .inr ⟨_, h, HX.out.size⟩)))
  · ((with_reducible refine (op_seven_any HKS.out HKP.out (fun z hm => by
      rcases List.mem_append.1 hm with h | h
      · exact HY.out.2 z h
      · rw [List.mem_singleton.1 h]; exact HY.out.1) (by rw [List.length_append]; simp; omega)).mono ?_); rintro ee w5 ⟨rfl, ln2, pu2, k5, o5, h5⟩)
    rcases h5 with ⟨h5, _, _⟩ | ⟨_, rfl, e2, rfl, R5, he⟩
    · exact absurd h5 (by simp)
    · have hle := Nat.le_trans HX.out.size (Nat.le_trans HG4.out.size (show w4.heap.size ≤ (w4.setCell ⟨K, 11, none⟩ (.slice (some ⟨g', 0, none⟩) (xs.length + 1) c2x)).heap.size from by simp [World.setCell]))
      have HK6 := Lib.hid k5
      have HP6 := Lib.hid (HKP.out.keepO o5 HKS.out (by decide))
      have HF6 := Lib.hid (HFR.out.trans (Onk.of_only o5))
      have HR6 := Lib.hid (show RefAt e2 true y 1 false 0 0 w5 from by simpa using R5)
      have hle2 := Nat.le_trans hle he
      clear k5 o5 R5 he hle
      go_wp2_with fail
      ((try simp only [Exit.inBlock, Exit.then]); first | go_end0 | refine bodyPost_ret (results_none rfl _ _ _) rfl ?_)
      exact ⟨rfl, 7, _, _, _, e2, HK6.out, HP6.out, HF6.out, HOB.out, hle2, .inl ⟨by omega, rfl, rfl, HR6.out⟩⟩
  · ((with_reducible refine (ref_newPop _).mono ?_); rintro ee w5 ⟨rfl, R5, hb5, _⟩)
    have hle := Nat.le_trans HX.out.size (Nat.le_trans HG4.out.size (show w4.heap.size ≤ (w4.setCell ⟨K, 11, none⟩ (.slice (some ⟨g', 0, none⟩) (xs.length + 1) c2x)).heap.size from by simp [World.setCell]))
    have hKe : K < (w4.setCell ⟨K, 11, none⟩ (.slice (some ⟨g', 0, none⟩) (xs.length + 1) c2x)).heap.size := HKS.out.lt
    have HK5 := Lib.hid (HKS.out.below hb5)
    have HP5 := Lib.hid (HKP.out.below hb5)
    have HF5 := Lib.hid (HFR.out.trans (Onk.of_only (Only.of_below hb5)))
    have HR5 := Lib.hid R5
    clear R5 hb5
    revert HR5 hle hKe
    generalize (w4.setCell ⟨K, 11, none⟩ (.slice (some ⟨g', 0, none⟩) (xs.length + 1) c2x)).heap.size = e2
    intro hle hKe HR5
    clear d0 d1 d2 d3 d4 d5 d6 d7 d8 d9 da db z11 c0 c1 c2 c3 c4 c5 c6 c7 c8 c9 ca cb
    obtain ⟨c0, c1, c2, c3, c4, c5, c6, c7, c8, c9, ca, cb, _⟩ := HK5.out.c12
    have z8 := HK5.out.free 8
    have HK6 := Lib.hid (HK5.out.set 8 (.pointer (some ⟨e2, 0, none⟩)) (cs' := OpC sh 5 er sg lk sl pw bh (some ⟨e2, 0, none⟩) pa pu (.slice (some ⟨g', 0, none⟩) (xs.length + 1) c2x)) rfl)
    have HP6 := Lib.hid (HP5.out.set HK5.out (by decide) 8 (.pointer (some ⟨e2, 0, none⟩)))
    have HF6 := Lib.hid (HF5.out.trans (Onk.of_only (Only.setCell K K w5 8 (.pointer (some ⟨e2, 0, none⟩)))))
    have HR6 := Lib.hid (HR5.out.same (Below.heap_setCell w5 ⟨K, 8, none⟩ (.pointer (some ⟨e2, 0, none⟩)) e2 (by show e2 ≠ K; omega)))
    go_wp2_with fail
    ((try simp only [Exit.inBlock, Exit.then]); first | go_end0 | refine bodyPost_ret (results_none rfl _ _ _) rfl ?_)
    exact ⟨rfl, 5, _, pu, _, e2, HK6.out, HP6.out, HF6.out, HOB.out, hle, .inr ⟨by omega, rfl, rfl, HR6.out⟩⟩
set_option maxRecDepth 100000 in
set_option maxHeartbeats 4000000 in
theorem sk1_on (hBm : B ≤ m) (hc : c ≤ 4900) (S : Say p m b n D L c M w) (k : Bk K 108 (OpC sh 1 er sg lk sl pw bh pp pa pu kv) w) (hBK : B ≤ K) (hg : 0 ≤ sg ∧ sg < 32) (hv : M.V (adG sg) = v) (_h0 : ¬ v = 0) (h1 : v = 1) :
    Calls Tryz.prog 72 #[.pointer (some ⟨K, 0, none⟩), .pointer (some ⟨b, 0, none⟩)] w (OdS B p m b n c D M.s K [K] (OpC sh 2 er sg lk sl pw bh pp pa pu kv) (ldM M (adG sg)) w) := by
  have HA := Lib.hid (S.aftLd (adG sg))
  have HV := Lib.hid hv
  clear hv
  have hn := k.ne_pr S.pr (by decide) (by decide)
  have hBw : B ≤ w.heap.size := Nat.le_trans hBm S.pr.m_le
  have HS := Lib.hid S
  have HO1 := Lib.hid (OD.start (E := [K]) k S.pr hBw)
  obtain ⟨c0, c1, c2, c3, c4, c5, c6, c7, c8, c9, ca, cb, _⟩ := k.c12
  clear k S
  go_enter Tryz.func72, Tryz.ntmps72
  have z2 := HO1.out.k.free 1
  have HO2 := Lib.hid (HO1.out.set hBK (by simp) hn 1 (.int .i64 2) (cs' := OpC sh 2 er sg lk sl pw bh pp pa pu kv) rfl)
  obtain ⟨e20, e21, e22, e23, e24, e25, e26, e27, e28, e29, e2a, e2b, _⟩ := HO2.out.k.c12
  go_wp2_with fail
  ((with_reducible refine (op_word HO2.out.k 0).mono ?_); rintro ee w3 ⟨rfl, hb3⟩)
  have HO3 := Lib.hid (HO2.out.below hBK hb3)
  clear hb3
  clear c0 c1 c2 c3 c4 c5 c6 c7 c8 c9 ca cb
  obtain ⟨c0, c1, c2, c3, c4, c5, c6, c7, c8, c9, ca, cb, _⟩ := HO3.out.k.c12
  go_wp2_with fail
  ((with_reducible refine (HS.out.ldG hc hg HV.out HO3.out.pr).mono ?_); rintro ee w4 ⟨rfl, P4, f4⟩)
  have HO4 := Lib.hid (HO3.out.fr hBm hn P4 f4)
  clear P4 f4
  clear c0 c1 c2 c3 c4 c5 c6 c7 c8 c9 ca cb
  obtain ⟨c0, c1, c2, c3, c4, c5, c6, c7, c8, c9, ca, cb, _⟩ := HO4.out.k.c12
  go_wp2_with fail
  ((try simp only [Exit.inBlock, Exit.then]); first | go_end0 | refine bodyPost_ret (results_none rfl _ _ _) rfl ?_)
  exact ⟨rfl, _, HA.out, HO4.out⟩
set_option maxRecDepth 100000 in
set_option maxHeartbeats 4000000 in
theorem sk1_none (hBm : B ≤ m) (hc : c ≤ 4900) (S : Say p m b n D L c M w) (k : Bk K 108 (OpC sh 1 er sg lk sl pw bh pp pa pu kv) w) (hBK : B ≤ K) (hg : 0 ≤ sg ∧ sg < 32) (hv : M.V (adG sg) = v) (h0 : v = 0) :
    Calls Tryz.prog 72 #[.pointer (some ⟨K, 0, none⟩), .pointer (some ⟨b, 0, none⟩)] w (OdS B p m b n c D M.s K [K] (OpC sh 0 6 sg lk sl pw bh pp pa pu kv) (ldM M (adG sg)) w) := by
  have HA := Lib.hid (S.aftLd (adG sg))
  have HV := Lib.hid hv
  clear hv
  have hn := k.ne_pr S.pr (by decide) (by decide)
  have hBw : B ≤ w.heap.size := Nat.le_trans hBm S.pr.m_le
  have HS := Lib.hid S
  have HO1 := Lib.hid (OD.start (E := [K]) k S.pr hBw)
  obtain ⟨c0, c1, c2, c3, c4, c5, c6, c7, c8, c9, ca, cb, _⟩ := k.c12
  clear k S
  go_enter Tryz.func72, Tryz.ntmps72
  have z2 := HO1.out.k.free 1
  have HO2 := Lib.hid (HO1.out.set hBK (by simp) hn 1 (.int .i64 2) (cs' := OpC sh 2 er sg lk sl pw bh pp pa pu kv) rfl)
  obtain ⟨e20, e21, e22, e23, e24, e25, e26, e27, e28, e29, e2a, e2b, _⟩ := HO2.out.k.c12
  go_wp2_with fail
  ((with_reducible refine (op_word HO2.out.k 0).mono ?_); rintro ee w3 ⟨rfl, hb3⟩)
  have HO3 := Lib.hid (HO2.out.below hBK hb3)
  clear hb3
  clear c0 c1 c2 c3 c4 c5 c6 c7 c8 c9 ca cb
  obtain ⟨c0, c1, c2, c3, c4, c5, c6, c7, c8, c9, ca, cb, _⟩ := HO3.out.k.c12
  go_wp2_with fail
  ((with_reducible refine (HS.out.ldG hc hg HV.out HO3.out.pr).mono ?_); rintro ee w4 ⟨rfl, P4, f4⟩)
  have HO4 := Lib.hid (HO3.out.fr hBm hn P4 f4)
  clear P4 f4
  clear c0 c1 c2 c3 c4 c5 c6 c7 c8 c9 ca cb
  obtain ⟨c0, c1, c2, c3, c4, c5, c6, c7, c8, c9, ca, cb, _⟩ := HO4.out.k.c12
  go_wp2_with fail
  ((with_reducible refine (op_end HO4.out.k 6).mono ?_); rintro ee w9 ⟨rfl, k9, o9⟩)
  have HO9 := Lib.hid (HO4.out.only hBK (by simp) hn k9 o9)
  clear k9 o9
  go_wp2_with fail
  ((try simp only [Exit.inBlock, Exit.then]); first | go_end0 | refine bodyPost_ret (results_none rfl _ _ _) rfl ?_)
  exact ⟨rfl, _, HA.out, HO9.out⟩
set_option maxRecDepth 100000 in
set_option maxHeartbeats 4000000 in
theorem sk1_busy (hBm : B ≤ m) (hc : c ≤ 4900) (S : Say p m b n D L c M w) (k : Bk K 108 (OpC sh 1 er sg lk sl pw bh pp pa pu kv) w) (hBK : B ≤ K) (hg : 0 ≤ sg ∧ sg < 32) (hv : M.V (adG sg) = v) (h0 : ¬ v = 0) (h1 : ¬ v = 1) :
    Calls Tryz.prog 72 #[.pointer (some ⟨K, 0, none⟩), .pointer (some ⟨b, 0, none⟩)] w (OdS B p m b n c D M.s K [K] (OpC sh 0 7 sg lk sl pw bh pp pa pu kv) (ldM M (adG sg)) w) := by
  have HA := Lib.hid (S.aftLd (adG sg))
  have HV := Lib.hid hv
  clear hv
  have hn := k.ne_pr S.pr (by decide) (by decide)
  have hBw : B ≤ w.heap.size := Nat.le_trans hBm S.pr.m_le
  have HS := Lib.hid S
  have HO1 := Lib.hid (OD.start (E := [K]) k S.pr hBw)
  obtain ⟨c0, c1, c2, c3, c4, c5, c6, c7, c8, c9, ca, cb, _⟩ := k.c12
  clear k S
  go_enter Tryz.func72, Tryz.ntmps72
  have z2 := HO1.out.k.free 1
  have HO2 := Lib.hid (HO1.out.set hBK (by simp) hn 1 (.int .i64 2) (cs' := OpC sh 2 er sg lk sl pw bh pp pa pu kv) rfl)
  obtain ⟨e20, e21, e22, e23, e24, e25, e26, e27, e28, e29, e2a, e2b, _⟩ := HO2.out.k.c12
  go_wp2_with fail
  ((with_reducible refine (op_word HO2.out.k 0).mono ?_); rintro ee w3 ⟨rfl, hb3⟩)
  have HO3 := Lib.hid (HO2.out.below hBK hb3)
  clear hb3
  clear c0 c1 c2 c3 c4 c5 c6 c7 c8 c9 ca cb
  obtain ⟨c0, c1, c2, c3, c4, c5, c6, c7, c8, c9, ca, cb, _⟩ := HO3.out.k.c12
  go_wp2_with fail
  ((with_reducible refine (HS.out.ldG hc hg HV.out HO3.out.pr).mono ?_); rintro ee w4 ⟨rfl, P4, f4⟩)
  have HO4 := Lib.hid (HO3.out.fr hBm hn P4 f4)
  clear P4 f4
  clear c0 c1 c2 c3 c4 c5 c6 c7 c8 c9 ca cb
  obtain ⟨c0, c1, c2, c3, c4, c5, c6, c7, c8, c9, ca, cb, _⟩ := HO4.out.k.c12
  go_wp2_with fail
  ((with_reducible refine (op_end HO4.out.k 7).mono ?_); rintro ee w9 ⟨rfl, k9, o9⟩)
  have HO9 := Lib.hid (HO4.out.only hBK (by simp) hn k9 o9)
  clear k9 o9
  go_wp2_with fail
  ((try simp only [Exit.inBlock, Exit.then]); first | go_end0 | refine bodyPost_ret (results_none rfl _ _ _) rfl ?_)
  exact ⟨rfl, _, HA.out, HO9.out⟩
set_option maxRecDepth 100000 in
set_option maxHeartbeats 4000000 in
theorem sk2_yes (hBm : B ≤ m) (hc : c ≤ 4900) (S : Say p m b n D L c M w) (k : Bk K 108 (OpC sh 2 er sg lk sl pw bh pp pa pu kv) w) (hBK : B ≤ K) (hg : 0 ≤ sg ∧ sg < 32) (hq : casV M.V (adG sg) 1 = true) :
    Calls Tryz.prog 72 #[.pointer (some ⟨K, 0, none⟩), .pointer (some ⟨b, 0, none⟩)] w (OdS B p m b n c D M.s K [K] (OpC sh 3 er sg lk sl pw bh pp pa pu kv) (csM M (adG sg) 1 2) w) := by
  have HA := Lib.hid (S.aftCs (adG sg) 1 2)
  have HQ := Lib.hid hq
  clear hq
  have hn := k.ne_pr S.pr (by decide) (by decide)
  have hBw : B ≤ w.heap.size := Nat.le_trans hBm S.pr.m_le
  have HS := Lib.hid S
  have HO1 := Lib.hid (OD.start (E := [K]) k S.pr hBw)
  obtain ⟨c0, c1, c2, c3, c4, c5, c6, c7, c8, c9, ca, cb, _⟩ := k.c12
  clear k S
  go_enter Tryz.func72, Tryz.ntmps72
  have z2 := HO1.out.k.free 1
  have HO2 := Lib.hid (HO1.out.set hBK (by simp) hn 1 (.int .i64 3) (cs' := OpC sh 3 er sg lk sl pw bh pp pa pu kv) rfl)
  obtain ⟨e20, e21, e22, e23, e24, e25, e26, e27, e28, e29, e2a, e2b, _⟩ := HO2.out.k.c12
  go_wp2_with fail
  ((with_reducible refine (op_word HO2.out.k 0).mono ?_); rintro ee w3 ⟨rfl, hb3⟩)
  have HO3 := Lib.hid (HO2.out.below hBK hb3)
  clear hb3
  clear c0 c1 c2 c3 c4 c5 c6 c7 c8 c9 ca cb
  obtain ⟨c0, c1, c2, c3, c4, c5, c6, c7, c8, c9, ca, cb, _⟩ := HO3.out.k.c12
  go_wp2_with fail
  ((with_reducible refine (HS.out.csG hc hg 1 2 HQ.out HO3.out.pr).mono ?_); rintro ee w4 ⟨rfl, P4, f4⟩)
  have HO4 := Lib.hid (HO3.out.fr hBm hn P4 f4)
  clear P4 f4
  clear c0 c1 c2 c3 c4 c5 c6 c7 c8 c9 ca cb
  obtain ⟨c0, c1, c2, c3, c4, c5, c6, c7, c8, c9, ca, cb, _⟩ := HO4.out.k.c12
  go_wp2_with fail
  ((try simp only [Exit.inBlock, Exit.then]); first | go_end0 | refine bodyPost_ret (results_none rfl _ _ _) rfl ?_)
  exact ⟨rfl, _, HA.out, HO4.out⟩
set_option maxRecDepth 100000 in
set_option maxHeartbeats 4000000 in
theorem sk2_no (hBm : B ≤ m) (hc : c ≤ 4900) (S : Say p m b n D L c M w) (k : Bk K 108 (OpC sh 2 er sg lk sl pw bh pp pa pu kv) w) (hBK : B ≤ K) (hg : 0 ≤ sg ∧ sg < 32) (hq : casV M.V (adG sg) 1 = false) :
    Calls Tryz.prog 72 #[.pointer (some ⟨K, 0, none⟩), .pointer (some ⟨b, 0, none⟩)] w (OdS B p m b n c D M.s K [K] (OpC sh 0 7 sg lk sl pw bh pp pa pu kv) (csM M (adG sg) 1 2) w) := by
  have HA := Lib.hid (S.aftCs (adG sg) 1 2)
  have HQ := Lib.hid hq
  clear hq
  have hn := k.ne_pr S.pr (by decide) (by decide)
  have hBw : B ≤ w.heap.size := Nat.le_trans hBm S.pr.m_le
  have HS := Lib.hid S
  have HO1 := Lib.hid (OD.start (E := [K]) k S.pr hBw)
  obtain ⟨c0, c1, c2, c3, c4, c5, c6, c7, c8, c9, ca, cb, _⟩ := k.c12
  clear k S
  go_enter Tryz.func72, Tryz.ntmps72
  have z2 := HO1.out.k.free 1
  have HO2 := Lib.hid (HO1.out.set hBK (by simp) hn 1 (.int .i64 3) (cs' := OpC sh 3 er sg lk sl pw bh pp pa pu kv) rfl)
  obtain ⟨e20, e21, e22, e23, e24, e25, e26, e27, e28, e29, e2a, e2b, _⟩ := HO2.out.k.c12
  go_wp2_with fail
  ((with_reducible refine (op_word HO2.out.k 0).mono ?_); rintro ee w3 ⟨rfl, hb3⟩)
  have HO3 := Lib.hid (HO2.out.below hBK hb3)
  clear hb3
  clear c0 c1 c2 c3 c4 c5 c6 c7 c8 c9 ca cb
  obtain ⟨c0, c1, c2, c3, c4, c5, c6, c7, c8, c9, ca, cb, _⟩ := HO3.out.k.c12
  go_wp2_with fail
  ((with_reducible refine (HS.out.csG hc hg 1 2 HQ.out HO3.out.pr).mono ?_); rintro ee w4 ⟨rfl, P4, f4⟩)
  have HO4 := Lib.hid (HO3.out.fr hBm hn P4 f4)
  clear P4 f4
  clear c0 c1 c2 c3 c4 c5 c6 c7 c8 c9 ca cb
  obtain ⟨c0, c1, c2, c3, c4, c5, c6, c7, c8, c9, ca, cb, _⟩ := HO4.out.k.c12
  go_wp2_with fail
  ((with_reducible refine (op_end HO4.out.k 7).mono ?_); rintro ee w9 ⟨rfl, k9, o9⟩)
  have HO9 := Lib.hid (HO4.out.only hBK (by simp) hn k9 o9)
  clear k9 o9
  go_wp2_with fail
  ((try simp only [Exit.inBlock, Exit.then]); first | go_end0 | refine bodyPost_ret (results_none rfl _ _ _) rfl ?_)
  exact ⟨rfl, _, HA.out, HO9.out⟩
set_option maxRecDepth 100000 in
set_option maxHeartbeats 4000000 in
theorem sk4_yes (hBm : B ≤ m) (hc : c ≤ 4900) (S : Say p m b n D L c M w) (k : Bk K 108 (OpC sh 4 er sg lk sl pw bh pp pa pu kv) w) (hBK : B ≤ K) (hg : 0 ≤ sg ∧ sg < 32) (hq : casV M.V (adG sg) 2 = true) :
    Calls Tryz.prog 72 #[.pointer (some ⟨K, 0, none⟩), .pointer (some ⟨b, 0, none⟩)] w (OdS B p m b n c D M.s K [K] (OpC sh 0 0 sg lk sl pw bh pp pa pu kv) (csM M (adG sg) 2 0) w) := by
  have HA := Lib.hid (S.aftCs (adG sg) 2 0)
  have HQ := Lib.hid hq
  clear hq
  have hn := k.ne_pr S.pr (by decide) (by decide)
  have hBw : B ≤ w.heap.size := Nat.le_trans hBm S.pr.m_le
  have HS := Lib.hid S
  have HO1 := Lib.hid (OD.start (E := [K]) k S.pr hBw)
  obtain ⟨c0, c1, c2, c3, c4, c5, c6, c7, c8, c9, ca, cb, _⟩ := k.c12
  clear k S
  go_enter Tryz.func72, Tryz.ntmps72
  go_wp2_with fail
  ((with_reducible refine (op_word HO1.out.k 0).mono ?_); rintro ee w3 ⟨rfl, hb3⟩)
  have HO3 := Lib.hid (HO1.out.below hBK hb3)
  clear hb3
  clear c0 c1 c2 c3 c4 c5 c6 c7 c8 c9 ca cb
  obtain ⟨c0, c1, c2, c3, c4, c5, c6, c7, c8, c9, ca, cb, _⟩ := HO3.out.k.c12
  go_wp2_with fail
  ((with_reducible refine (HS.out.csG hc hg 2 0 HQ.out HO3.out.pr).mono ?_); rintro ee w4 ⟨rfl, P4, f4⟩)
  have HO4 := Lib.hid (HO3.out.fr hBm hn P4 f4)
  clear P4 f4
  clear c0 c1 c2 c3 c4 c5 c6 c7 c8 c9 ca cb
  obtain ⟨c0, c1, c2, c3, c4, c5, c6, c7, c8, c9, ca, cb, _⟩ := HO4.out.k.c12
  go_wp2_with fail
  ((with_reducible refine (op_end HO4.out.k 0).mono ?_); rintro ee w9 ⟨rfl, k9, o9⟩)
  have HO9 := Lib.hid (HO4.out.only hBK (by simp) hn k9 o9)
  clear k9 o9
  go_wp2_with fail
  ((try simp only [Exit.inBlock, Exit.then]); first | go_end0 | refine bodyPost_ret (results_none rfl _ _ _) rfl ?_)
  exact ⟨rfl, _, HA.out, HO9.out⟩
set_option maxRecDepth 100000 in
set_option maxHeartbeats 4000000 in
theorem sk4_no (hBm : B ≤ m) (hc : c ≤ 4900) (S : Say p m b n D L c M w) (k : Bk K 108 (OpC sh 4 er sg lk sl pw bh pp pa pu kv) w) (hBK : B ≤ K) (hg : 0 ≤ sg ∧ sg < 32) (hq : casV M.V (adG sg) 2 = false) :
    Calls Tryz.prog 72 #[.pointer (some ⟨K, 0, none⟩), .pointer (some ⟨b, 0, none⟩)] w (OdS B p m b n c D M.s K [K] (OpC sh 0 7 sg lk sl pw bh pp pa pu kv) (csM M (adG sg) 2 0) w) := by
  have HA := Lib.hid (S.aftCs (adG sg) 2 0)
  have HQ := Lib.hid hq
  clear hq
  have hn := k.ne_pr S.pr (by decide) (by decide)
  have hBw : B ≤ w.heap.size := Nat.le_trans hBm S.pr.m_le
  have HS := Lib.hid S
  have HO1 := Lib.hid (OD.start (E := [K]) k S.pr hBw)
  obtain ⟨c0, c1, c2, c3, c4, c5, c6, c7, c8, c9, ca, cb, _⟩ := k.c12
  clear k S
  go_enter Tryz.func72, Tryz.ntmps72
  go_wp2_with fail
  ((with_reducible refine (op_word HO1.out.k 0).mono ?_); rintro ee w3 ⟨rfl, hb3⟩)
  have HO3 := Lib.hid (HO1.out.below hBK hb3)
  clear hb3
  clear c0 c1 c2 c3 c4 c5 c6 c7 c8 c9 ca cb
  obtain ⟨c0, c1, c2, c3, c4, c5, c6, c7, c8, c9, ca, cb, _⟩ := HO3.out.k.c12
  go_wp2_with fail
  ((with_reducible refine (HS.out.csG hc hg 2 0 HQ.out HO3.out.pr).mono ?_); rintro ee w4 ⟨rfl, P4, f4⟩)
  have HO4 := Lib.hid (HO3.out.fr hBm hn P4 f4)
  clear P4 f4
  clear c0 c1 c2 c3 c4 c5 c6 c7 c8 c9 ca cb
  obtain ⟨c0, c1, c2, c3, c4, c5, c6, c7, c8, c9, ca, cb, _⟩ := HO4.out.k.c12
  go_wp2_with fail
  ((with_reducible refine (op_end HO4.out.k 7).mono ?_); rintro ee w9 ⟨rfl, k9, o9⟩)
  have HO9 := Lib.hid (HO4.out.only hBK (by simp) hn k9 o9)
  clear k9 o9
  go_wp2_with fail
  ((try simp only [Exit.inBlock, Exit.then]); first | go_end0 | refine bodyPost_ret (results_none rfl _ _ _) rfl ?_)
  exact ⟨rfl, _, HA.out, HO9.out⟩
set_option maxRecDepth 100000 in
set_option maxHeartbeats 4000000 in
theorem sk8_yes (hBm : B ≤ m) (hc : c ≤ 4900) (S : Say p m b n D L c M w) (k : Bk K 108 (OpC sh 8 er sg lk sl pw bh pp pa pu kv) w) (hBK : B ≤ K) (hg : 0 ≤ sg ∧ sg < 32) (hq : casV M.V (adG sg) 2 = true) :
    Calls Tryz.prog 72 #[.pointer (some ⟨K, 0, none⟩), .pointer (some ⟨b, 0, none⟩)] w (OdS B p m b n c D M.s K [K] (OpC sh 11 er sg lk (8 * sg) pw 9 pp pa pu kv) (csM M (adG sg) 2 1) w) := by
  have HA := Lib.hid (S.aftCs (adG sg) 2 1)
  have HQ := Lib.hid hq
  clear hq
  have hn := k.ne_pr S.pr (by decide) (by decide)
  have hBw : B ≤ w.heap.size := Nat.le_trans hBm S.pr.m_le
  have HS := Lib.hid S
  have HO1 := Lib.hid (OD.start (E := [K]) k S.pr hBw)
  obtain ⟨c0, c1, c2, c3, c4, c5, c6, c7, c8, c9, ca, cb, _⟩ := k.c12
  clear k S
  go_enter Tryz.func72, Tryz.ntmps72
  go_wp2_with fail
  ((with_reducible refine (op_word HO1.out.k 0).mono ?_); rintro ee w3 ⟨rfl, hb3⟩)
  have HO3 := Lib.hid (HO1.out.below hBK hb3)
  clear hb3
  clear c0 c1 c2 c3 c4 c5 c6 c7 c8 c9 ca cb
  obtain ⟨c0, c1, c2, c3, c4, c5, c6, c7, c8, c9, ca, cb, _⟩ := HO3.out.k.c12
  go_wp2_with fail
  ((with_reducible refine (HS.out.csG hc hg 2 1 HQ.out HO3.out.pr).mono ?_); rintro ee w4 ⟨rfl, P4, f4⟩)
  have HO4 := Lib.hid (HO3.out.fr hBm hn P4 f4)
  clear P4 f4
  clear c0 c1 c2 c3 c4 c5 c6 c7 c8 c9 ca cb
  obtain ⟨c0, c1, c2, c3, c4, c5, c6, c7, c8, c9, ca, cb, _⟩ := HO4.out.k.c12
  go_wp2_with fail
  ((with_reducible refine (op_turn HO4.out.k hg 9).mono ?_); rintro ee w9 ⟨rfl, k9, o9⟩)
  have HO9 := Lib.hid (HO4.out.only hBK (by simp) hn k9 o9)
  clear k9 o9
  go_wp2_with fail
  ((try simp only [Exit.inBlock, Exit.then]); first | go_end0 | refine bodyPost_ret (results_none rfl _ _ _) rfl ?_)
  exact ⟨rfl, _, HA.out, HO9.out⟩
set_option maxRecDepth 100000 in
set_option maxHeartbeats 4000000 in
theorem sk8_no (hBm : B ≤ m) (hc : c ≤ 4900) (S : Say p m b n D L c M w) (k : Bk K 108 (OpC sh 8 er sg lk sl pw bh pp pa pu kv) w) (hBK : B ≤ K) (hg : 0 ≤ sg ∧ sg < 32) (hq : casV M.V (adG sg) 2 = false) :
    Calls Tryz.prog 72 #[.pointer (some ⟨K, 0, none⟩), .pointer (some ⟨b, 0, none⟩)] w (OdS B p m b n c D M.s K [K] (OpC sh 0 7 sg lk sl pw bh pp pa pu kv) (csM M (adG sg) 2 1) w) := by
  have HA := Lib.hid (S.aftCs (adG sg) 2 1)
  have HQ := Lib.hid hq
  clear hq
  have hn := k.ne_pr S.pr (by decide) (by decide)
  have hBw : B ≤ w.heap.size := Nat.le_trans hBm S.pr.m_le
  have HS := Lib.hid S
  have HO1 := Lib.hid (OD.start (E := [K]) k S.pr hBw)
  obtain ⟨c0, c1, c2, c3, c4, c5, c6, c7, c8, c9, ca, cb, _⟩ := k.c12
  clear k S
  go_enter Tryz.func72, Tryz.ntmps72
  go_wp2_with fail
  ((with_reducible refine (op_word HO1.out.k 0).mono ?_); rintro ee w3 ⟨rfl, hb3⟩)
  have HO3 := Lib.hid (HO1.out.below hBK hb3)
  clear hb3
  clear c0 c1 c2 c3 c4 c5 c6 c7 c8 c9 ca cb
  obtain ⟨c0, c1, c2, c3, c4, c5, c6, c7, c8, c9, ca, cb, _⟩ := HO3.out.k.c12
  go_wp2_with fail
  ((with_reducible refine (HS.out.csG hc hg 2 1 HQ.out HO3.out.pr).mono ?_); rintro ee w4 ⟨rfl, P4, f4⟩)
  have HO4 := Lib.hid (HO3.out.fr hBm hn P4 f4)
  clear P4 f4
  clear c0 c1 c2 c3 c4 c5 c6 c7 c8 c9 ca cb
  obtain ⟨c0, c1, c2, c3, c4, c5, c6, c7, c8, c9, ca, cb, _⟩ := HO4.out.k.c12
  go_wp2_with fail
  ((with_reducible refine (op_end HO4.out.k 7).mono ?_); rintro ee w9 ⟨rfl, k9, o9⟩)
  have HO9 := Lib.hid (HO4.out.only hBK (by simp) hn k9 o9)
  clear k9 o9
  go_wp2_with fail
  ((try simp only [Exit.inBlock, Exit.then]); first | go_end0 | refine bodyPost_ret (results_none rfl _ _ _) rfl ?_)
  exact ⟨rfl, _, HA.out, HO9.out⟩
set_option maxRecDepth 100000 in
set_option maxHeartbeats 4000000 in
theorem sk3_all (hBm : B ≤ m) (hc : c ≤ 4900) (S : Say p m b n D L c M w) (k : Bk K 108 (OpC sh 3 er sg lk sl pw bh pp pa pu kv) w) (hBK : B ≤ K) (hg : 0 ≤ sg ∧ sg < 32) (hv : M.V (adP sg) = v) (h8 : v = 8) :
    Calls Tryz.prog 72 #[.pointer (some ⟨K, 0, none⟩), .pointer (some ⟨b, 0, none⟩)] w (OdS B p m b n c D M.s K [K] (OpC sh 4 er sg lk sl pw bh pp pa pu kv) (ldM M (adP sg)) w) := by
  have HA := Lib.hid (S.aftLd (adP sg))
  have HV := Lib.hid hv
  clear hv
  have hn := k.ne_pr S.pr (by decide) (by decide)
  have hBw : B ≤ w.heap.size := Nat.le_trans hBm S.pr.m_le
  have HS := Lib.hid S
  have HO1 := Lib.hid (OD.start (E := [K]) k S.pr hBw)
  obtain ⟨c0, c1, c2, c3, c4, c5, c6, c7, c8, c9, ca, cb, _⟩ := k.c12
  clear k S
  go_enter Tryz.func72, Tryz.ntmps72
  go_wp2_with fail
  ((with_reducible refine (op_word HO1.out.k 1).mono ?_); rintro ee w3 ⟨rfl, hb3⟩)
  have HO3 := Lib.hid (HO1.out.below hBK hb3)
  clear hb3
  clear c0 c1 c2 c3 c4 c5 c6 c7 c8 c9 ca cb
  obtain ⟨c0, c1, c2, c3, c4, c5, c6, c7, c8, c9, ca, cb, _⟩ := HO3.out.k.c12
  go_wp2_with fail
  ((with_reducible refine (HS.out.ldP hc hg HV.out HO3.out.pr).mono ?_); rintro ee w4 ⟨rfl, P4, f4⟩)
  have HO4 := Lib.hid (HO3.out.fr hBm hn P4 f4)
  clear P4 f4
  clear c0 c1 c2 c3 c4 c5 c6 c7 c8 c9 ca cb
  obtain ⟨c0, c1, c2, c3, c4, c5, c6, c7, c8, c9, ca, cb, _⟩ := HO4.out.k.c12
  have z5 := HO4.out.k.free 1
  have HO5 := Lib.hid (HO4.out.set hBK (by simp) hn 1 (.int .i64 4) (cs' := OpC sh 4 er sg lk sl pw bh pp pa pu kv) rfl)
  obtain ⟨e50, e51, e52, e53, e54, e55, e56, e57, e58, e59, e5a, e5b, _⟩ := HO5.out.k.c12
  go_wp2_with fail
  ((try simp only [Exit.inBlock, Exit.then]); first | go_end0 | refine bodyPost_ret (results_none rfl _ _ _) rfl ?_)
  exact ⟨rfl, _, HA.out, HO5.out⟩
set_option maxRecDepth 100000 in
set_option maxHeartbeats 4000000 in
theorem sk3_out (hBm : B ≤ m) (hc : c ≤ 4900) (S : Say p m b n D L c M w) (k : Bk K 108 (OpC sh 3 er sg lk sl pw bh pp pa pu kv) w) (hBK : B ≤ K) (hg : 0 ≤ sg ∧ sg < 32) (hv : M.V (adP sg) = v) (h8 : ¬ v = 8) (hlk : lk ≤ 0) :
    Calls Tryz.prog 72 #[.pointer (some ⟨K, 0, none⟩), .pointer (some ⟨b, 0, none⟩)] w (OdS B p m b n c D M.s K [K] (OpC sh 8 er sg lk sl pw bh pp pa pu kv) (ldM M (adP sg)) w) := by
  have HA := Lib.hid (S.aftLd (adP sg))
  have HV := Lib.hid hv
  clear hv
  have hn := k.ne_pr S.pr (by decide) (by decide)
  have hBw : B ≤ w.heap.size := Nat.le_trans hBm S.pr.m_le
  have HS := Lib.hid S
  have HO1 := Lib.hid (OD.start (E := [K]) k S.pr hBw)
  obtain ⟨c0, c1, c2, c3, c4, c5, c6, c7, c8, c9, ca, cb, _⟩ := k.c12
  clear k S
  go_enter Tryz.func72, Tryz.ntmps72
  go_wp2_with fail
  ((with_reducible refine (op_word HO1.out.k 1).mono ?_); rintro ee w3 ⟨rfl, hb3⟩)
  have HO3 := Lib.hid (HO1.out.below hBK hb3)
  clear hb3
  clear c0 c1 c2 c3 c4 c5 c6 c7 c8 c9 ca cb
  obtain ⟨c0, c1, c2, c3, c4, c5, c6, c7, c8, c9, ca, cb, _⟩ := HO3.out.k.c12
  go_wp2_with fail
  ((with_reducible refine (HS.out.ldP hc hg HV.out HO3.out.pr).mono ?_); rintro ee w4 ⟨rfl, P4, f4⟩)
  have HO4 := Lib.hid (HO3.out.fr hBm hn P4 f4)
  clear P4 f4
  clear c0 c1 c2 c3 c4 c5 c6 c7 c8 c9 ca cb
  obtain ⟨c0, c1, c2, c3, c4, c5, c6, c7, c8, c9, ca, cb, _⟩ := HO4.out.k.c12
  have z5 := HO4.out.k.free 1
  have HO5 := Lib.hid (HO4.out.set hBK (by simp) hn 1 (.int .i64 8) (cs' := OpC sh 8 er sg lk sl pw bh pp pa pu kv) rfl)
  obtain ⟨e50, e51, e52, e53, e54, e55, e56, e57, e58, e59, e5a, e5b, _⟩ := HO5.out.k.c12
  go_wp2_with fail
  ((try simp only [Exit.inBlock, Exit.then]); first | go_end0 | refine bodyPost_ret (results_none rfl _ _ _) rfl ?_)
  exact ⟨rfl, _, HA.out, HO5.out⟩
set_option maxRecDepth 100000 in
set_option maxHeartbeats 4000000 in
theorem sk3_look (hBm : B ≤ m) (hc : c ≤ 4900) (S : Say p m b n D L c M w) (k : Bk K 108 (OpC sh 3 er sg lk sl pw bh pp pa pu kv) w) (hBK : B ≤ K) (hg : 0 ≤ sg ∧ sg < 32) (hn0 : n0 ≤ w.heap.size) (hv : M.V (adP sg) = v) (h8 : ¬ v = 8) (hlk : 0 < lk) (hlk2 : lk < 9223372036854775808) :
    Calls Tryz.prog 72 #[.pointer (some ⟨K, 0, none⟩), .pointer (some ⟨b, 0, none⟩)] w (fun ee w' => ∃ e, OdS B p m b n c D M.s K [K] (OpC sh 5 er sg (lk - 1) sl pw bh (some ⟨e, 0, none⟩) pa pu kv) (ldM M (adP sg)) w ee w' ∧ RefAt e false 0 1 false 0 0 w' ∧ n0 ≤ e ∧ K ≠ e) := by
  have HA := Lib.hid (S.aftLd (adP sg))
  have HV := Lib.hid hv
  clear hv
  have hlw : IntKind.i64.wrap (lk - 1) = lk - 1 := by simp [IntKind.wrap, IntKind.bits, IntKind.signed]; omega
  have hn := k.ne_pr S.pr (by decide) (by decide)
  have hBw : B ≤ w.heap.size := Nat.le_trans hBm S.pr.m_le
  have HS := Lib.hid S
  have HO1 := Lib.hid (OD.start (E := [K]) k S.pr hBw)
  obtain ⟨c0, c1, c2, c3, c4, c5, c6, c7, c8, c9, ca, cb, _⟩ := k.c12
  clear k S
  go_enter Tryz.func72, Tryz.ntmps72
  go_wp2_with fail
  ((with_reducible refine (op_word HO1.out.k 1).mono ?_); rintro ee w3 ⟨rfl, hb3⟩)
  have HO3 := Lib.hid (HO1.out.below hBK hb3)
  clear hb3
  clear c0 c1 c2 c3 c4 c5 c6 c7 c8 c9 ca cb
  obtain ⟨c0, c1, c2, c3, c4, c5, c6, c7, c8, c9, ca, cb, _⟩ := HO3.out.k.c12
  go_wp2_with fail
  ((with_reducible refine (HS.out.ldP hc hg HV.out HO3.out.pr).mono ?_); rintro ee w4 ⟨rfl, P4, f4⟩)
  have HO4 := Lib.hid (HO3.out.fr hBm hn P4 f4)
  clear P4 f4
  clear c0 c1 c2 c3 c4 c5 c6 c7 c8 c9 ca cb
  obtain ⟨c0, c1, c2, c3, c4, c5, c6, c7, c8, c9, ca, cb, _⟩ := HO4.out.k.c12
  have z5 := HO4.out.k.free 4
  have HO5 := Lib.hid (HO4.out.set hBK (by simp) hn 4 (.int .i64 (lk - 1)) (cs' := OpC sh 3 er sg (lk - 1) sl pw bh pp pa pu kv) rfl)
  obtain ⟨e50, e51, e52, e53, e54, e55, e56, e57, e58, e59, e5a, e5b, _⟩ := HO5.out.k.c12
  have z6 := HO5.out.k.free 1
  have HO6 := Lib.hid (HO5.out.set hBK (by simp) hn 1 (.int .i64 5) (cs' := OpC sh 5 er sg (lk - 1) sl pw bh pp pa pu kv) rfl)
  obtain ⟨e60, e61, e62, e63, e64, e65, e66, e67, e68, e69, e6a, e6b, _⟩ := HO6.out.k.c12
  have hle := Nat.le_trans hn0 HO6.out.f.low.size
  have hKe : K < ((w4.setCell ⟨K, 4, none⟩ (.int .i64 (lk - 1))).setCell ⟨K, 1, none⟩ (.int .i64 5)).heap.size := HO6.out.k.lt
  go_wp2_with fail
  ((with_reducible refine (ref_newPop _).mono ?_); rintro ee w7 ⟨rfl, R7, hb7, _⟩)
  have HO7 := Lib.hid (HO6.out.below hBK hb7)
  have HR7 := Lib.hid R7
  clear R7 hb7
  revert HR7 hle hKe
  generalize ((w4.setCell ⟨K, 4, none⟩ (.int .i64 (lk - 1))).setCell ⟨K, 1, none⟩ (.int .i64 5)).heap.size = e
  intro hle hKe HR7
  clear c0 c1 c2 c3 c4 c5 c6 c7 c8 c9 ca cb
  obtain ⟨c0, c1, c2, c3, c4, c5, c6, c7, c8, c9, ca, cb, _⟩ := HO7.out.k.c12
  have z8 := HO7.out.k.free 8
  have HO8 := Lib.hid (HO7.out.set hBK (by simp) hn 8 (.pointer (some ⟨e, 0, none⟩)) (cs' := OpC sh 5 er sg (lk - 1) sl pw bh (some ⟨e, 0, none⟩) pa pu kv) rfl)
  have HR8 := Lib.hid (HR7.out.same (Below.heap_setCell w7 ⟨K, 8, none⟩ (.pointer (some ⟨e, 0, none⟩)) e (by show e ≠ K; omega)))
  go_wp2_with fail
  ((try simp only [Exit.inBlock, Exit.then]); first | go_end0 | refine bodyPost_ret (results_none rfl _ _ _) rfl ?_)
  exact ⟨e, ⟨rfl, _, HA.out, HO8.out⟩, HR8.out, hle, by omega⟩
theorem KeptAt.fx {psh got : Bool} {sl' ln' h nn : Int} (kr : KeptAt B kv xs w) (P : Pr p m b n D s L r w) (R : RefAt e psh sl' ln' got h nn w) (f : Fx B p b p e w w') : KeptAt B kv xs w' := kr.same fun g hg => by
  obtain ⟨_, cur, hc⟩ := kr.lt hg
  obtain ⟨v, hr⟩ := P.ref
  have n1 : g ≠ p := fun e2 => by rw [e2, P.prog.blk] at hc; simp at hc
  have n2 : g ≠ b := fun e2 => by rw [e2, hr.blk] at hc; simp at hc
  have n3 : g ≠ e := kr.ne (T := 177) R (by decide) hg
  exact (f.far g _ _ _ hc (by decide) n1 n2 n1 n3).trans hc.symm
theorem KeptAt.fxl (kr : KeptAt B kv xs w) (P : Pr p m b n D s L r w) (f : FxL B p b E w w') (hE : ∀ x ∈ E, ∃ t cs, Bk x t cs w ∧ t ≠ 3) : KeptAt B kv xs w' := kr.same fun g hg => by
  obtain ⟨_, cur, hc⟩ := kr.lt hg
  obtain ⟨v, hr⟩ := P.ref
  have n1 : g ≠ p := fun e2 => by rw [e2, P.prog.blk] at hc; simp at hc
  have n2 : g ≠ b := fun e2 => by rw [e2, hr.blk] at hc; simp at hc
  exact (f.far g _ _ _ hc (by decide) n1 n2 (fun hx => by
    obtain ⟨t, cs, k, ht⟩ := hE g hx
    exact kr.ne (T := t) k ht hg rfl)).trans hc.symm
set_option maxRecDepth 100000 in
set_option maxHeartbeats 4000000 in
theorem sk5_on (hBm : B ≤ m) (hc : c ≤ 4900) (S : Say p m b n D L c M w) (k : Bk K 108 (OpC sh 5 er sg lk sl pw bh (some ⟨e, 0, none⟩) pa pu kv) w) (_hBK : B ≤ K) (_hg : 0 ≤ sg ∧ sg < 32) {o : OS} (hn0 : n0 ≤ w.heap.size) (hBe : B ≤ e) (hKe : K ≠ e) (R : PopD e o w) (kr : KeptAt B kv xs w) (hz : (popX o M).1.nx ≠ 0) :
    Calls Tryz.prog 72 #[.pointer (some ⟨K, 0, none⟩), .pointer (some ⟨b, 0, none⟩)] w (fun ee w' => OdS B p m b n c D M.s K [K, e] (OpC sh 5 er sg lk sl pw bh (some ⟨e, 0, none⟩) pa pu kv) (popX o M).2 w ee w' ∧ PopD e (popX o M).1 w' ∧ KeptAt B kv xs w') := by
  have hzb : ((popX o M).1.nx == 0) = false := by simpa using hz
  clear hz
  obtain ⟨sl2, got, nn, L', ha, hok, hst⟩ := pop_doc hBm hBe hc S R
  have HA := Lib.hid ha
  have HOK := Lib.hid hok
  obtain ⟨_, _, _, R0, _⟩ := R
  have HR0 := Lib.hid R0
  have HKR := Lib.hid kr
  have HPR := Lib.hid S.pr
  clear ha R0 kr
  have hn := k.ne_pr S.pr (by decide) (by decide)
  have hBw : B ≤ w.heap.size := Nat.le_trans hBm S.pr.m_le
  have HS := Lib.hid S
  have HO1 := Lib.hid (OD.start (E := [K, e]) k S.pr hBw)
  obtain ⟨c0, c1, c2, c3, c4, c5, c6, c7, c8, c9, ca, cb, _⟩ := k.c12
  clear k S
  go_enter Tryz.func72, Tryz.ntmps72
  go_wp2_with fail
  (refine hst.mono ?_; rintro ee w2 ⟨rfl, R2, P2, f2⟩)
  have HO2 := Lib.hid (HO1.out.part hn hKe (by simp) P2 f2)
  have HKR2 := Lib.hid (HKR.out.fx HPR.out HR0.out f2)
  have hsz := Nat.le_trans hn0 f2.low.size
  have HR2 := Lib.hid R2
  have r2 := R2.cells.2.2.1
  clear R2 P2 f2 hst HO1 HR0 HKR
  clear c0 c1 c2 c3 c4 c5 c6 c7 c8 c9 ca cb
  obtain ⟨c0, c1, c2, c3, c4, c5, c6, c7, c8, c9, ca, cb, _⟩ := HO2.out.k.c12
  go_wp2_with fail
  ((try simp only [Exit.inBlock, Exit.then]); first | go_end0 | refine bodyPost_ret (results_none rfl _ _ _) rfl ?_)
  exact ⟨⟨rfl, _, HA.out, HO2.out⟩, ⟨sl2, got, nn, HR2.out, HOK.out⟩, HKR2.out⟩
set_option maxRecDepth 100000 in
set_option maxHeartbeats 4000000 in
theorem sk5_none (hBm : B ≤ m) (hc : c ≤ 4900) (S : Say p m b n D L c M w) (k : Bk K 108 (OpC sh 5 er sg lk sl pw bh (some ⟨e, 0, none⟩) pa pu kv) w) (hBK : B ≤ K) (_hg : 0 ≤ sg ∧ sg < 32) {o : OS} (hn0 : n0 ≤ w.heap.size) (hBe : B ≤ e) (hKe : K ≠ e) (R : PopD e o w) (kr : KeptAt B kv xs w) (hxz : ∀ z ∈ xs, 0 ≤ z ∧ z < 256) (hxl : xs.length ≤ 256) (hz : (popX o M).1.nx = 0) (hs : wSlot (popX o M).1.h < 0) :
    Calls Tryz.prog 72 #[.pointer (some ⟨K, 0, none⟩), .pointer (some ⟨b, 0, none⟩)] w (fun ee w' => ∃ ln2 pu2, OdS B p m b n c D M.s K [K, e] (OpC sh ln2 er sg lk sl pw bh (some ⟨e, 0, none⟩) pa pu2 kv) (popX o M).2 w ee w' ∧ KeptAt B kv xs w' ∧ ((xs = [] ∧ ln2 = 3) ∨ (xs ≠ [] ∧ ln2 = 7 ∧ ∃ e2, pu2 = some ⟨e2, 0, none⟩ ∧ RefAt e2 true ((xs).getLastD 0) 1 false 0 0 w' ∧ n0 ≤ e2 ∧ K ≠ e2))) := by
  have HZ := Lib.hid hz
  clear hz
  have HX := Lib.hid (⟨hxz, hxl⟩ : _ ∧ _)
  clear hxz hxl
  obtain ⟨sl2, got, nn, L', ha, hok, hst⟩ := pop_doc hBm hBe hc S R
  have HA := Lib.hid ha
  have HOK := Lib.hid hok
  obtain ⟨_, _, _, R0, _⟩ := R
  have HR0 := Lib.hid R0
  have HKR := Lib.hid kr
  have HPR := Lib.hid S.pr
  clear ha R0 kr
  have hn := k.ne_pr S.pr (by decide) (by decide)
  have hBw : B ≤ w.heap.size := Nat.le_trans hBm S.pr.m_le
  have HS := Lib.hid S
  have HO1 := Lib.hid (OD.start (E := [K, e]) k S.pr hBw)
  obtain ⟨c0, c1, c2, c3, c4, c5, c6, c7, c8, c9, ca, cb, _⟩ := k.c12
  clear k S
  go_enter Tryz.func72, Tryz.ntmps72
  go_wp2_with fail
  (refine hst.mono ?_; rintro ee w2 ⟨rfl, R2, P2, f2⟩)
  have HO2 := Lib.hid (HO1.out.part hn hKe (by simp) P2 f2)
  have HKR2 := Lib.hid (HKR.out.fx HPR.out HR0.out f2)
  have hsz := Nat.le_trans hn0 f2.low.size
  have HR2 := Lib.hid R2
  have r2 := R2.cells.2.2.1
  clear R2 P2 f2 hst HO1 HR0 HKR
  clear c0 c1 c2 c3 c4 c5 c6 c7 c8 c9 ca cb
  obtain ⟨c0, c1, c2, c3, c4, c5, c6, c7, c8, c9, ca, cb, _⟩ := HO2.out.k.c12
  rw [HZ.out] at r2
  have hgot : got = false := by
    rcases HOK.out.2.2 with ⟨h, _⟩ | ⟨h, _⟩ | ⟨h, _⟩ | ⟨_, h, _⟩ | ⟨_, _, h, _⟩
    · have := HZ.out; omega
    · have := HZ.out; omega
    · have := HZ.out; omega
    · exact h
    · omega
  subst hgot
  have hsv := op_popped_none (P := fun w' => ∃ ln2 pu2, Bk K 108 (OpC sh ln2 er sg lk sl pw bh (some ⟨e, 0, none⟩) pa pu2 kv) w' ∧ Only K K w2 w' ∧ ((xs = [] ∧ ln2 = 3 ∧ pu2 = pu) ∨ (xs ≠ [] ∧ ln2 = 7 ∧ ∃ e, pu2 = some ⟨e, 0, none⟩ ∧ RefAt e true (xs.getLastD 0) 1 false 0 0 w' ∧ w2.heap.size ≤ e))) HO2.out.k HR2.out (op_seven_any HO2.out.k HKR2.out HX.out.1 HX.out.2)
  go_wp2_with fail
  ((with_reducible refine hsv.mono ?_); rintro ee w9 ⟨rfl, ln2, pu2, k9, o9, h9⟩)
  have hKw := HO2.out.k.lt
  have HO9 := Lib.hid (HO2.out.only hBK (by simp) hn k9 o9)
  have HKR9 := Lib.hid (HKR2.out.keepO o9 HO2.out.k (by decide))
  have H9 := Lib.hid (show (xs = [] ∧ ln2 = 3) ∨ (xs ≠ [] ∧ ln2 = 7 ∧ ∃ e2, pu2 = some ⟨e2, 0, none⟩ ∧ RefAt e2 true (xs.getLastD 0) 1 false 0 0 w9 ∧ n0 ≤ e2 ∧ K ≠ e2) from h9.imp (fun h => ⟨h.1, h.2.1⟩) fun ⟨h1, h2, e2, h3, h4, h5⟩ => ⟨h1, h2, e2, h3, h4, by omega, by omega⟩)
  clear k9 o9 h9 hsv
  go_wp2_with fail
  ((try simp only [Exit.inBlock, Exit.then]); first | go_end0 | refine bodyPost_ret (results_none rfl _ _ _) rfl ?_)
  exact ⟨ln2, pu2, ⟨rfl, _, HA.out, HO9.out⟩, HKR9.out, H9.out⟩
set_option maxRecDepth 100000 in
set_option maxHeartbeats 4000000 in
theorem sk5_own (hBm : B ≤ m) (hc : c ≤ 4900) (S : Say p m b n D L c M w) (k : Bk K 108 (OpC sh 5 er sg lk sl pw bh (some ⟨e, 0, none⟩) pa pu kv) w) (hBK : B ≤ K) (_hg : 0 ≤ sg ∧ sg < 32) {o : OS} (hn0 : n0 ≤ w.heap.size) (hBe : B ≤ e) (hKe : K ≠ e) (R : PopD e o w) (kr : KeptAt B kv xs w) (hz : (popX o M).1.nx = 0) (hs : 0 ≤ wSlot (popX o M).1.h) (hsg : segF (wSlot (popX o M).1.h) = sg) :
    Calls Tryz.prog 72 #[.pointer (some ⟨K, 0, none⟩), .pointer (some ⟨b, 0, none⟩)] w (fun ee w' => ∃ kn, OdS B p m b n c D M.s K [K, e] (OpC sh 6 er sg lk sl pw bh (some ⟨e, 0, none⟩) (some ⟨kn, 0, none⟩) pu kv) (popX o M).2 w ee w' ∧ Bk kn 180 (PkC (wSlot (popX o M).1.h) 1 false 0 0 none) w' ∧ n0 ≤ kn ∧ K ≠ kn ∧ KeptAt B kv xs w') := by
  have HZ := Lib.hid hz
  clear hz
  obtain ⟨sl2, got, nn, L', ha, hok, hst⟩ := pop_doc hBm hBe hc S R
  have HA := Lib.hid ha
  have HOK := Lib.hid hok
  obtain ⟨_, _, _, R0, _⟩ := R
  have HR0 := Lib.hid R0
  have HKR := Lib.hid kr
  have HPR := Lib.hid S.pr
  clear ha R0 kr
  have hn := k.ne_pr S.pr (by decide) (by decide)
  have hBw : B ≤ w.heap.size := Nat.le_trans hBm S.pr.m_le
  have HS := Lib.hid S
  have HO1 := Lib.hid (OD.start (E := [K, e]) k S.pr hBw)
  obtain ⟨c0, c1, c2, c3, c4, c5, c6, c7, c8, c9, ca, cb, _⟩ := k.c12
  clear k S
  go_enter Tryz.func72, Tryz.ntmps72
  go_wp2_with fail
  (refine hst.mono ?_; rintro ee w2 ⟨rfl, R2, P2, f2⟩)
  have HO2 := Lib.hid (HO1.out.part hn hKe (by simp) P2 f2)
  have HKR2 := Lib.hid (HKR.out.fx HPR.out HR0.out f2)
  have hsz := Nat.le_trans hn0 f2.low.size
  have HR2 := Lib.hid R2
  have r2 := R2.cells.2.2.1
  clear R2 P2 f2 hst HO1 HR0 HKR
  clear c0 c1 c2 c3 c4 c5 c6 c7 c8 c9 ca cb
  obtain ⟨c0, c1, c2, c3, c4, c5, c6, c7, c8, c9, ca, cb, _⟩ := HO2.out.k.c12
  have hgs : got = true ∧ sl2 = wSlot (popX o M).1.h := by
    rcases HOK.out.2.2 with ⟨h, _⟩ | ⟨h, _⟩ | ⟨h, _⟩ | ⟨_, _, h⟩ | ⟨_, h, _, h2⟩
    · have := HZ.out; omega
    · have := HZ.out; omega
    · have := HZ.out; omega
    · omega
    · exact ⟨h, h2⟩
  obtain ⟨rfl, hsl2⟩ := hgs
  rw [HZ.out] at r2
  have hy : 0 ≤ sl2 ∧ sl2 < 256 := by have := (slot_in (popX o M).1.h).2; omega
  have hpo := op_popped_own HO2.out.k HR2.out hy (show sl2 / 8 = sg by rw [hsl2]; exact hsg)
  go_wp2_with fail
  ((with_reducible refine hpo.mono ?_); rintro ee w9 ⟨rfl, kn, k9, kk9, hkn, o9⟩)
  have hKw := HO2.out.k.lt
  have HO9 := Lib.hid (HO2.out.only hBK (by simp) hn k9 o9)
  have HKR9 := Lib.hid (HKR2.out.keepO o9 HO2.out.k (by decide))
  have HKK := Lib.hid (show Bk kn 180 (PkC (wSlot (popX o M).1.h) 1 false 0 0 none) w9 from by rw [← hsl2]; exact kk9)
  clear k9 o9 kk9 hpo
  go_wp2_with fail
  ((try simp only [Exit.inBlock, Exit.then]); first | go_end0 | refine bodyPost_ret (results_none rfl _ _ _) rfl ?_)
  exact ⟨kn, ⟨rfl, _, HA.out, HO9.out⟩, HKK.out, by omega, by omega, HKR9.out⟩
set_option maxRecDepth 100000 in
set_option maxHeartbeats 4000000 in
theorem sk5_keep (hBm : B ≤ m) (hc : c ≤ 4900) (S : Say p m b n D L c M w) (k : Bk K 108 (OpC sh 5 er sg lk sl pw bh (some ⟨e, 0, none⟩) pa pu kv) w) (hBK : B ≤ K) (_hg : 0 ≤ sg ∧ sg < 32) {o : OS} (hn0 : n0 ≤ w.heap.size) (hBe : B ≤ e) (hKe : K ≠ e) (R : PopD e o w) (kr : KeptAt B kv xs w) (hxz : ∀ z ∈ xs, 0 ≤ z ∧ z < 256) (hxl : xs.length < 256) (hz : (popX o M).1.nx = 0) (hs : 0 ≤ wSlot (popX o M).1.h) (hsg : segF (wSlot (popX o M).1.h) ≠ sg) :
    Calls Tryz.prog 72 #[.pointer (some ⟨K, 0, none⟩), .pointer (some ⟨b, 0, none⟩)] w (fun ee w' => ∃ ln2 pp2 pu2 kv2 e2, OdS B p m b n c D M.s K (K :: e :: kv.ownBlock.toList) (OpC sh ln2 er sg lk sl pw bh pp2 pa pu2 kv2) (popX o M).2 w ee w' ∧ KeptAt B kv2 (xs ++ [wSlot (popX o M).1.h]) w' ∧ (kv2.ownBlock = kv.ownBlock ∨ ∃ g, kv2.ownBlock = some g ∧ n0 ≤ g) ∧ n0 ≤ e2 ∧ K ≠ e2 ∧ ((256 ≤ xs.length + 1 ∧ ln2 = 7 ∧ pu2 = some ⟨e2, 0, none⟩ ∧ RefAt e2 true (wSlot (popX o M).1.h) 1 false 0 0 w') ∨ (xs.length + 1 < 256 ∧ ln2 = 5 ∧ pp2 = some ⟨e2, 0, none⟩ ∧ RefAt e2 false 0 1 false 0 0 w'))) := by
  have HZ := Lib.hid hz
  clear hz
  have HX := Lib.hid (⟨hxz, hxl⟩ : _ ∧ _)
  clear hxz hxl
  obtain ⟨sl2, got, nn, L', ha, hok, hst⟩ := pop_doc hBm hBe hc S R
  have HA := Lib.hid ha
  have HOK := Lib.hid hok
  obtain ⟨_, _, _, R0, _⟩ := R
  have HR0 := Lib.hid R0
  have HKR := Lib.hid kr
  have HPR := Lib.hid S.pr
  clear ha R0 kr
  have hn := k.ne_pr S.pr (by decide) (by decide)
  have hBw : B ≤ w.heap.size := Nat.le_trans hBm S.pr.m_le
  have HS := Lib.hid S
  have HO1 := Lib.hid (OD.start (E := (K :: e :: kv.ownBlock.toList)) k S.pr hBw)
  obtain ⟨c0, c1, c2, c3, c4, c5, c6, c7, c8, c9, ca, cb, _⟩ := k.c12
  clear k S
  go_enter Tryz.func72, Tryz.ntmps72
  go_wp2_with fail
  (refine hst.mono ?_; rintro ee w2 ⟨rfl, R2, P2, f2⟩)
  have HO2 := Lib.hid (HO1.out.part hn hKe (by simp) P2 f2)
  have HKR2 := Lib.hid (HKR.out.fx HPR.out HR0.out f2)
  have hsz := Nat.le_trans hn0 f2.low.size
  have HR2 := Lib.hid R2
  have r2 := R2.cells.2.2.1
  clear R2 P2 f2 hst HO1 HR0 HKR
  clear c0 c1 c2 c3 c4 c5 c6 c7 c8 c9 ca cb
  obtain ⟨c0, c1, c2, c3, c4, c5, c6, c7, c8, c9, ca, cb, _⟩ := HO2.out.k.c12
  have hgs : got = true ∧ sl2 = wSlot (popX o M).1.h := by
    rcases HOK.out.2.2 with ⟨h, _⟩ | ⟨h, _⟩ | ⟨h, _⟩ | ⟨_, _, h⟩ | ⟨_, h, _, h2⟩
    · have := HZ.out; omega
    · have := HZ.out; omega
    · have := HZ.out; omega
    · omega
    · exact ⟨h, h2⟩
  obtain ⟨rfl, hsl2⟩ := hgs
  rw [HZ.out] at r2
  have hy : 0 ≤ sl2 ∧ sl2 < 256 := by have := (slot_in (popX o M).1.h).2; omega
  have hpo := op_popped_keep HO2.out.k HR2.out hy (show sl2 / 8 ≠ sg by rw [hsl2]; exact hsg) HKR2.out HX.out.2 HX.out.1 (Nat.le_trans hBK (Nat.le_of_lt HO2.out.k.lt))
  go_wp2_with fail
  ((with_reducible refine hpo.mono ?_); rintro ee w9 ⟨rfl, ln2, pp2, pu2, kv2, e2, k9, kr9, o9, hob, he2, h9⟩)
  have hKw := HO2.out.k.lt
  have HO9 := Lib.hid (HO2.out.onk hBK (by simp) hn (fun g hg => ⟨HKR2.out.lt hg, by simp [hg]⟩) k9 o9)
  rw [hsl2] at kr9 h9
  have H9 := Lib.hid (⟨kr9, hob, he2, h9⟩ : _ ∧ _ ∧ _ ∧ _)
  clear k9 o9 kr9 hob he2 h9 hpo
  go_wp2_with fail
  ((try simp only [Exit.inBlock, Exit.then]); first | go_end0 | refine bodyPost_ret (results_none rfl _ _ _) rfl ?_)
  obtain ⟨kr9, hob, he2, h9⟩ := H9.out
  exact ⟨ln2, pp2, pu2, kv2, e2, ⟨rfl, _, HA.out, HO9.out⟩, kr9, hob.imp id (fun ⟨g, h1, h2⟩ => ⟨g, h1, by omega⟩), by omega, by omega, h9⟩
set_option maxRecDepth 100000 in
set_option maxHeartbeats 4000000 in
theorem sk7_on (hBm : B ≤ m) (hc : c ≤ 4900) (S : Say p m b n D L c M w) (k : Bk K 108 (OpC sh 7 er sg lk sl pw bh pp pa (some ⟨e, 0, none⟩) kv) w) (_hBK : B ≤ K) (_hg : 0 ≤ sg ∧ sg < 32) {o : OS} (hn0 : n0 ≤ w.heap.size) (hBe : B ≤ e) (hKe : K ≠ e) (R : PushD e o w) (kr : KeptAt B kv xs w) (hz : (pushX o M).1.nx ≠ 0) :
    Calls Tryz.prog 72 #[.pointer (some ⟨K, 0, none⟩), .pointer (some ⟨b, 0, none⟩)] w (fun ee w' => OdS B p m b n c D M.s K [K, e] (OpC sh 7 er sg lk sl pw bh pp pa (some ⟨e, 0, none⟩) kv) (pushX o M).2 w ee w' ∧ PushD e (pushX o M).1 w' ∧ KeptAt B kv xs w') := by
  have hzb : ((pushX o M).1.nx == 0) = false := by simpa using hz
  clear hz
  obtain ⟨nn, L', ha, hok, hst⟩ := push_doc hBm hBe hc S R
  have HA := Lib.hid ha
  have HOK := Lib.hid hok
  obtain ⟨_, R0, _⟩ := R
  have HR0 := Lib.hid R0
  have HKR := Lib.hid kr
  have HPR := Lib.hid S.pr
  clear ha R0 kr
  have hn := k.ne_pr S.pr (by decide) (by decide)
  have hBw : B ≤ w.heap.size := Nat.le_trans hBm S.pr.m_le
  have HS := Lib.hid S
  have HO1 := Lib.hid (OD.start (E := [K, e]) k S.pr hBw)
  obtain ⟨c0, c1, c2, c3, c4, c5, c6, c7, c8, c9, ca, cb, _⟩ := k.c12
  clear k S
  go_enter Tryz.func72, Tryz.ntmps72
  go_wp2_with fail
  (refine hst.mono ?_; rintro ee w2 ⟨rfl, R2, P2, f2⟩)
  have HO2 := Lib.hid (HO1.out.part hn hKe (by simp) P2 f2)
  have HKR2 := Lib.hid (HKR.out.fx HPR.out HR0.out f2)
  have hsz := Nat.le_trans hn0 f2.low.size
  have HR2 := Lib.hid R2
  have r2 := R2.cells.2.2.1
  clear R2 P2 f2 hst HO1 HR0 HKR
  clear c0 c1 c2 c3 c4 c5 c6 c7 c8 c9 ca cb
  obtain ⟨c0, c1, c2, c3, c4, c5, c6, c7, c8, c9, ca, cb, _⟩ := HO2.out.k.c12
  go_wp2_with fail
  ((try simp only [Exit.inBlock, Exit.then]); first | go_end0 | refine bodyPost_ret (results_none rfl _ _ _) rfl ?_)
  exact ⟨⟨rfl, _, HA.out, HO2.out⟩, ⟨nn, HR2.out, HOK.out⟩, HKR2.out⟩
set_option maxRecDepth 100000 in
set_option maxHeartbeats 4000000 in
theorem sk7_end (hBm : B ≤ m) (hc : c ≤ 4900) (S : Say p m b n D L c M w) (k : Bk K 108 (OpC sh 7 er sg lk sl pw bh pp pa (some ⟨e, 0, none⟩) kv) w) (hBK : B ≤ K) (_hg : 0 ≤ sg ∧ sg < 32) {o : OS} (hn0 : n0 ≤ w.heap.size) (hBe : B ≤ e) (hKe : K ≠ e) (R : PushD e o w) (kr : KeptAt B kv xs w) (hxz : ∀ z ∈ xs, 0 ≤ z ∧ z < 256) (hxl : xs.length ≤ 256) (hxn : xs ≠ []) (hz : (pushX o M).1.nx = 0) :
    Calls Tryz.prog 72 #[.pointer (some ⟨K, 0, none⟩), .pointer (some ⟨b, 0, none⟩)] w (fun ee w' => ∃ kv2, kv2.ownBlock = kv.ownBlock ∧ ∃ ln2 pu2, OdS B p m b n c D M.s K [K, e] (OpC sh ln2 er sg lk sl pw bh pp pa pu2 kv2) (pushX o M).2 w ee w' ∧ KeptAt B kv2 xs.dropLast w' ∧ ((xs.dropLast = [] ∧ ln2 = 3) ∨ (xs.dropLast ≠ [] ∧ ln2 = 7 ∧ ∃ e2, pu2 = some ⟨e2, 0, none⟩ ∧ RefAt e2 true ((xs.dropLast).getLastD 0) 1 false 0 0 w' ∧ n0 ≤ e2 ∧ K ≠ e2))) := by
  have HZ := Lib.hid hz
  clear hz
  have HX := Lib.hid (⟨hxz, hxl⟩ : _ ∧ _)
  clear hxz
  obtain ⟨nn, L', ha, hok, hst⟩ := push_doc hBm hBe hc S R
  have HA := Lib.hid ha
  have HOK := Lib.hid hok
  obtain ⟨_, R0, _⟩ := R
  have HR0 := Lib.hid R0
  have HKR := Lib.hid kr
  have HPR := Lib.hid S.pr
  clear ha R0 kr
  have hn := k.ne_pr S.pr (by decide) (by decide)
  have hBw : B ≤ w.heap.size := Nat.le_trans hBm S.pr.m_le
  have HS := Lib.hid S
  have HO1 := Lib.hid (OD.start (E := [K, e]) k S.pr hBw)
  obtain ⟨c0, c1, c2, c3, c4, c5, c6, c7, c8, c9, ca, cb, _⟩ := k.c12
  clear k S
  go_enter Tryz.func72, Tryz.ntmps72
  go_wp2_with fail
  (refine hst.mono ?_; rintro ee w2 ⟨rfl, R2, P2, f2⟩)
  have HO2 := Lib.hid (HO1.out.part hn hKe (by simp) P2 f2)
  have HKR2 := Lib.hid (HKR.out.fx HPR.out HR0.out f2)
  have hsz := Nat.le_trans hn0 f2.low.size
  have HR2 := Lib.hid R2
  have r2 := R2.cells.2.2.1
  clear R2 P2 f2 hst HO1 HR0 HKR
  clear c0 c1 c2 c3 c4 c5 c6 c7 c8 c9 ca cb
  obtain ⟨c0, c1, c2, c3, c4, c5, c6, c7, c8, c9, ca, cb, _⟩ := HO2.out.k.c12
  rw [HZ.out] at r2
  obtain ⟨A, cc, rfl, hnc, hcm, hA⟩ := own_sliceK HKR2.out
  obtain ⟨nn, hnn⟩ : ∃ nn, xs.length = nn + 1 := ⟨xs.length - 1, by have := List.length_pos_iff.2 hxn; omega⟩
  rw [hnn] at HO2 HKR2 hnc cb
  obtain ⟨_, _, hkd⟩ := KeptAt.drop HKR2.out
  have HKD := Lib.hid hkd
  have HNN := Lib.hid hnn
  have hq0 : (0 : Int) ≤ (nn : Int) := by omega
  have hq2 : IntKind.i64.wrap (nn : Int) = (nn : Int) := by simp [IntKind.wrap, IntKind.bits, IntKind.signed]; omega
  have hq3 : (nn : Int) ≤ (cc : Int) := by omega
  have hq4 : nn ≤ cc := by omega
  clear hkd hA hnn hxl
  go_upto_region 37 with (fail)
  have HOd := Lib.hid (HO2.out.below hBK (Below.refl _ w2).drew)
  have HKDd := Lib.hid (HKD.out.below (Below.refl _ w2).drew)
  have hs0 := Lib.hid (HOd.out.k.cell 11)
  simp only [OpC, List.getElem?_cons_zero, List.getElem?_cons_succ] at hs0
  have HO3 := Lib.hid ((HO2.out.set hBK (by simp) hn 11 (.slice A nn cc) (cs' := OpC sh 7 er sg lk sl pw bh pp pa (some ⟨e, 0, none⟩) (.slice A nn cc)) rfl).below hBK (Below.refl _ _).drew)
  have HK3 := Lib.hid ((HKD.out.set HO2.out.k (by decide) 11 (.slice A nn cc)).below (Below.refl _ _).drew)
  clear HO2 HKR2 HKD c0 c1 c2 c3 c4 c5 c6 c7 c8 c9 ca cb
  have y' := hs0.out
  refine wp_region_still_tail 14 (by kernel_rfl) (by kernel_rfl) ?_
  change wpStill _ _ w2.drew (fun a' => wpList _ _ _ _ a' w2.drew) _ _
  simp only [List.take_succ_cons, List.take_zero, List.drop_succ_cons, List.drop_zero]
  iterate 14 still_step
  refine wpStill_nil ?_
  have hz11 := HOd.out.k.free 11
  have hdl : ∀ z ∈ xs.dropLast, 0 ≤ z ∧ z < 256 := fun z h => HX.out.1 z (List.dropLast_subset _ h)
  have hdn : xs.dropLast.length ≤ 256 := by rw [List.length_dropLast]; have := HX.out.2; omega
  have hsv := op_seven_any HO3.out.k HK3.out hdl hdn
  have hs3 : w2.heap.size ≤ (w2.setCell ⟨K, 11, none⟩ (.slice A nn cc)).drew.heap.size := show w2.heap.size ≤ (w2.setCell ⟨K, 11, none⟩ (.slice A nn cc)).heap.size from by simp [World.setCell]
  go_wp2_with fail
  ((with_reducible refine hsv.mono ?_); rintro ee w9 ⟨rfl, ln2, pu2, k9, o9, h9⟩)
  have hKw := HO3.out.k.lt
  have HO9 := Lib.hid (HO3.out.only hBK (by simp) hn k9 o9)
  have HKR9 := Lib.hid (HK3.out.keepO o9 HO3.out.k (by decide))
  have H9 := Lib.hid (show (xs.dropLast = [] ∧ ln2 = 3) ∨ (xs.dropLast ≠ [] ∧ ln2 = 7 ∧ ∃ e2, pu2 = some ⟨e2, 0, none⟩ ∧ RefAt e2 true (xs.dropLast.getLastD 0) 1 false 0 0 w9 ∧ n0 ≤ e2 ∧ K ≠ e2) from h9.imp (fun h => ⟨h.1, h.2.1⟩) fun ⟨h1, h2, e2, h3, h4, h5⟩ => ⟨h1, h2, e2, h3, h4, by omega, by omega⟩)
  clear k9 o9 h9 hsv
  go_wp2_with fail
  ((try simp only [Exit.inBlock, Exit.then]); first | go_end0 | refine bodyPost_ret (results_none rfl _ _ _) rfl ?_)
  exact ⟨.slice A nn cc, by cases A <;> rfl, ln2, pu2, ⟨rfl, _, HA.out, HO9.out⟩, HKR9.out, H9.out⟩
theorem OD.parts {E' : List Nat} (h : OD B p m b n D s K E cs L r w0 w) (hn : K ≠ p ∧ K ≠ b) (hK : K ∉ E') (hE : ∀ x ∈ E', x ∈ E) (P : Pr p m b n D s L' r' w') (f : FxL B p b E' w w') : OD B p m b n D s K E cs L' r' w0 w' :=
  ⟨f.far K _ _ _ h.k (by decide) hn.1 hn.2 hK, P, h.f.trans (f.more hE)⟩
set_option maxRecDepth 100000 in
set_option maxHeartbeats 4000000 in
theorem sk6_on (hBm : B ≤ m) (hc : c ≤ 4900) (S : Say p m b n D L c M w) (k : Bk K 108 (OpC sh 6 er sg lk sl pw bh pp (some ⟨e, 0, none⟩) pu kv) w) (hBK : B ≤ K) (_hg : 0 ≤ sg ∧ sg < 32) {o : PO} (hn0 : n0 ≤ w.heap.size) (ok : PkNum o) (R : PkD B e k1 o w) (hKe : K ≠ e ∧ K ≠ k1) (hk1 : ∃ t cs, Bk k1 t cs w ∧ t ≠ 3) (kr : KeptAt B kv xs w) (hz : (parkX o M).1.ln ≠ 0) :
    Calls Tryz.prog 72 #[.pointer (some ⟨K, 0, none⟩), .pointer (some ⟨b, 0, none⟩)] w (fun ee w' => OdS B p m b n c D M.s K [K, e, k1] (OpC sh 6 er sg lk sl pw bh pp (some ⟨e, 0, none⟩) pu kv) (parkX o M).2 w ee w' ∧ (∃ e7, PkD B e e7 (parkX o M).1 w' ∧ (e7 = k1 ∨ n0 ≤ e7) ∧ K ≠ e7) ∧ KeptAt B kv xs w') := by
  have hzb : ((parkX o M).1.ln == 0) = false := by simpa using hz
  clear hz
  obtain ⟨L', ha, hst⟩ := park_doc hBm hc S ok R
  have HA := Lib.hid ha
  have HKR := Lib.hid kr
  have HPR := Lib.hid S.pr
  have HE := Lib.hid (show ∀ x ∈ [e, k1], ∃ t cs, Bk x t cs w ∧ t ≠ 3 from fun x hx => by
    simp only [List.mem_cons, List.not_mem_nil, or_false] at hx
    rcases hx with rfl | rfl
    · obtain ⟨_, _, _, kk, _⟩ := R
      exact ⟨_, _, kk, by decide⟩
    · exact hk1)
  have HBE := Lib.hid (⟨R.1, R.2.1⟩ : _ ∧ _)
  clear ha kr R hk1
  have hn := k.ne_pr S.pr (by decide) (by decide)
  have hBw : B ≤ w.heap.size := Nat.le_trans hBm S.pr.m_le
  have HS := Lib.hid S
  have HO1 := Lib.hid (OD.start (E := [K, e, k1]) k S.pr hBw)
  obtain ⟨c0, c1, c2, c3, c4, c5, c6, c7, c8, c9, ca, cb, _⟩ := k.c12
  clear k S
  go_enter Tryz.func72, Tryz.ntmps72
  go_wp2_with fail
  (refine hst.mono ?_; rintro ee w2 ⟨rfl, hpk, P2, f2⟩)
  have HO2 := Lib.hid (HO1.out.parts (E' := [e, k1]) hn (by simp [hKe.1, hKe.2]) (by simp) P2 f2)
  have HKR2 := Lib.hid (HKR.out.fxl HPR.out f2 HE.out)
  have hsz := Nat.le_trans hn0 f2.low.size
  have hsz2 := f2.low.size
  obtain ⟨e7, hpd, he7⟩ := PkR.doc hpk HBE.out.1 HBE.out.2 (Nat.le_trans hBK (Nat.le_of_lt HO1.out.k.lt))
  have HPD := Lib.hid hpd
  obtain ⟨pu9, kk, hr9⟩ := hpk
  have r2 := kk.cell 1
  simp only [PkC, List.getElem?_cons_zero, List.getElem?_cons_succ] at r2
  have hKw := HO1.out.k.lt
  have HE7 := Lib.hid (show (e7 = k1 ∨ n0 ≤ e7) ∧ K ≠ e7 from ⟨he7.imp id fun h => Nat.le_trans hn0 h, he7.elim (fun h => by rw [h]; exact hKe.2) fun h => by omega⟩)
  clear P2 f2 hst HO1 HKR hpd hr9 he7
  clear c0 c1 c2 c3 c4 c5 c6 c7 c8 c9 ca cb
  obtain ⟨c0, c1, c2, c3, c4, c5, c6, c7, c8, c9, ca, cb, _⟩ := HO2.out.k.c12
  go_wp2_with fail
  ((try simp only [Exit.inBlock, Exit.then]); first | go_end0 | refine bodyPost_ret (results_none rfl _ _ _) rfl ?_)
  exact ⟨⟨rfl, _, HA.out, HO2.out⟩, ⟨e7, HPD.out, HE7.out.1, HE7.out.2⟩, HKR2.out⟩
set_option maxRecDepth 100000 in
set_option maxHeartbeats 4000000 in
theorem sk6_end (hBm : B ≤ m) (hc : c ≤ 4900) (S : Say p m b n D L c M w) (k : Bk K 108 (OpC sh 6 er sg lk sl pw bh pp (some ⟨e, 0, none⟩) pu kv) w) (hBK : B ≤ K) (_hg : 0 ≤ sg ∧ sg < 32) {o : PO} (hn0 : n0 ≤ w.heap.size) (ok : PkNum o) (R : PkD B e k1 o w) (hKe : K ≠ e ∧ K ≠ k1) (hk1 : ∃ t cs, Bk k1 t cs w ∧ t ≠ 3) (kr : KeptAt B kv xs w) (hz : (parkX o M).1.ln = 0) :
    Calls Tryz.prog 72 #[.pointer (some ⟨K, 0, none⟩), .pointer (some ⟨b, 0, none⟩)] w (fun ee w' => ∃ e2, OdS B p m b n c D M.s K [K, e, k1] (OpC sh 5 er sg lk sl pw bh (some ⟨e2, 0, none⟩) (some ⟨e, 0, none⟩) pu kv) (parkX o M).2 w ee w' ∧ RefAt e2 false 0 1 false 0 0 w' ∧ n0 ≤ e2 ∧ K ≠ e2 ∧ KeptAt B kv xs w') := by
  have HZ := Lib.hid hz
  clear hz
  obtain ⟨L', ha, hst⟩ := park_doc hBm hc S ok R
  have HA := Lib.hid ha
  have HKR := Lib.hid kr
  have HPR := Lib.hid S.pr
  have HE := Lib.hid (show ∀ x ∈ [e, k1], ∃ t cs, Bk x t cs w ∧ t ≠ 3 from fun x hx => by
    simp only [List.mem_cons, List.not_mem_nil, or_false] at hx
    rcases hx with rfl | rfl
    · obtain ⟨_, _, _, kk, _⟩ := R
      exact ⟨_, _, kk, by decide⟩
    · exact hk1)
  have HBE := Lib.hid (⟨R.1, R.2.1⟩ : _ ∧ _)
  clear ha kr R hk1
  have hn := k.ne_pr S.pr (by decide) (by decide)
  have hBw : B ≤ w.heap.size := Nat.le_trans hBm S.pr.m_le
  have HS := Lib.hid S
  have HO1 := Lib.hid (OD.start (E := [K, e, k1]) k S.pr hBw)
  obtain ⟨c0, c1, c2, c3, c4, c5, c6, c7, c8, c9, ca, cb, _⟩ := k.c12
  clear k S
  go_enter Tryz.func72, Tryz.ntmps72
  go_wp2_with fail
  (refine hst.mono ?_; rintro ee w2 ⟨rfl, hpk, P2, f2⟩)
  have HO2 := Lib.hid (HO1.out.parts (E' := [e, k1]) hn (by simp [hKe.1, hKe.2]) (by simp) P2 f2)
  have HKR2 := Lib.hid (HKR.out.fxl HPR.out f2 HE.out)
  have hsz := Nat.le_trans hn0 f2.low.size
  have hsz2 := f2.low.size
  obtain ⟨e7, hpd, he7⟩ := PkR.doc hpk HBE.out.1 HBE.out.2 (Nat.le_trans hBK (Nat.le_of_lt HO1.out.k.lt))
  have HPD := Lib.hid hpd
  obtain ⟨pu9, kk, hr9⟩ := hpk
  have r2 := kk.cell 1
  simp only [PkC, List.getElem?_cons_zero, List.getElem?_cons_succ] at r2
  have hKw := HO1.out.k.lt
  have HE7 := Lib.hid (show (e7 = k1 ∨ n0 ≤ e7) ∧ K ≠ e7 from ⟨he7.imp id fun h => Nat.le_trans hn0 h, he7.elim (fun h => by rw [h]; exact hKe.2) fun h => by omega⟩)
  clear P2 f2 hst HO1 HKR hpd hr9 he7
  clear c0 c1 c2 c3 c4 c5 c6 c7 c8 c9 ca cb
  obtain ⟨c0, c1, c2, c3, c4, c5, c6, c7, c8, c9, ca, cb, _⟩ := HO2.out.k.c12
  rw [HZ.out] at r2
  have z6 := HO2.out.k.free 1
  have HO6 := Lib.hid (HO2.out.set hBK (by simp) hn 1 (.int .i64 5) (cs' := OpC sh 5 er sg lk sl pw bh pp (some ⟨e, 0, none⟩) pu kv) rfl)
  obtain ⟨e60, e61, e62, e63, e64, e65, e66, e67, e68, e69, e6a, e6b, _⟩ := HO6.out.k.c12
  have HKR6 := Lib.hid (HKR2.out.set HO2.out.k (by decide) 1 (.int .i64 5))
  have hle := Nat.le_trans hsz (show w2.heap.size ≤ (w2.setCell ⟨K, 1, none⟩ (.int .i64 5)).heap.size from by simp [World.setCell])
  have hKe2 : K < (w2.setCell ⟨K, 1, none⟩ (.int .i64 5)).heap.size := HO6.out.k.lt
  go_wp2_with fail
  ((with_reducible refine (ref_newPop _).mono ?_); rintro ee w7 ⟨rfl, R7, hb7, _⟩)
  have HO7 := Lib.hid (HO6.out.below hBK hb7)
  have HKR7 := Lib.hid (HKR6.out.below hb7)
  have HR7 := Lib.hid R7
  clear R7 hb7
  revert HR7 hle hKe2
  generalize (w2.setCell ⟨K, 1, none⟩ (.int .i64 5)).heap.size = e2
  intro hle hKe2 HR7
  clear c0 c1 c2 c3 c4 c5 c6 c7 c8 c9 ca cb
  obtain ⟨c0, c1, c2, c3, c4, c5, c6, c7, c8, c9, ca, cb, _⟩ := HO7.out.k.c12
  have z8 := HO7.out.k.free 8
  have HO8 := Lib.hid (HO7.out.set hBK (by simp) hn 8 (.pointer (some ⟨e2, 0, none⟩)) (cs' := OpC sh 5 er sg lk sl pw bh (some ⟨e2, 0, none⟩) (some ⟨e, 0, none⟩) pu kv) rfl)
  have HR8 := Lib.hid (HR7.out.same (Below.heap_setCell w7 ⟨K, 8, none⟩ (.pointer (some ⟨e2, 0, none⟩)) e2 (by show e2 ≠ K; omega)))
  have HKR8 := Lib.hid (HKR7.out.set HO7.out.k (by decide) 8 (.pointer (some ⟨e2, 0, none⟩)))
  go_wp2_with fail
  ((try simp only [Exit.inBlock, Exit.then]); first | go_end0 | refine bodyPost_ret (results_none rfl _ _ _) rfl ?_)
  exact ⟨e2, ⟨rfl, _, HA.out, HO8.out⟩, HR8.out, hle, by omega, HKR8.out⟩
end
end Go.Proofs.YtmjcbjcnmgleaaaGreatDoor
