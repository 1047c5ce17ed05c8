/-
  The document's Grow and Shrink of layer 9; conditions as each theorem says.
-/
import Derived.Test.YtmjcbjcnmgleaaaGreatDoorXP14
import Derived.Test.YtmjcbjcnmgleaaaGreatDoorXP24
import Derived.Test.YtmjcbjcnmgleaaaGreatDoorXP38
namespace Go.Proofs.YtmjcbjcnmgleaaaGreatDoor
open Go.RowKit Go.Maps
theorem adG_eq6 {g : Int} (h : 0 ≤ g ∧ g < 32) : adG g = ad6 g (i64_seg h) 0 f0w := dif_pos (show (Lit.int .i64 g).wf = true from i64_seg h)
theorem adP_eq6 {g : Int} (h : 0 ≤ g ∧ g < 32) : adP g = ad6 g (i64_seg h) 1 f1w := dif_pos (show (Lit.int .i64 g).wf = true from i64_seg h)
section
variable {B p m b n K X c e n0 : Nat} {sh : Bool} {ln er sg lk sl pw bh : Int} {pp pa pu : Option Addr} {kv : Value} {D : DataW Unit} {s r r' : Acc8} {L L' : List (Ad × Int)} {M : MV} {E : List Nat} {w w' w0 w1 : World} {cs cs' : List Value} {v : Int}
theorem Say.ld9 (S : Say p m b n D L c M w) (hc : c ≤ 4900) (hs : 0 ≤ sl ∧ sl < 256) (hv : M.V (adH sl) = v) (P : Pr p m b n D M.s L M.s w1) :
    Calls Tryz.prog 67 #[.pointer (some ⟨b, 0, none⟩), .agg #[.int .u8 9, .int .i64 sl, .int .i64 0]] w1 fun ee w' => ee = .returned (.int .u64 v) ∧ Pr p m b n D M.s L (ldM M (adH sl)).s w' ∧ Fr p m b w1 w' := by
  subst hv
  rw [adH_eq hs, ← S.val]
  obtain ⟨_, a2⟩ := aft_ld (ad9 sl (i64_slot hs) 0 f0w) S.val S.rel.nodup S.len rfl
  rw [← a2]
  exact load_r9 sl 0 (i64_slot hs) f0w P (by have := S.len; omega) S.st0 S.st1
theorem Say.ldG (S : Say p m b n D L c M w) (hc : c ≤ 4900) (hs : 0 ≤ sg ∧ sg < 32) (hv : M.V (adG sg) = v) (P : Pr p m b n D M.s L M.s w1) :
    Calls Tryz.prog 67 #[.pointer (some ⟨b, 0, none⟩), .agg #[.int .u8 6, .int .i64 sg, .int .i64 0]] w1 fun ee w' => ee = .returned (.int .u64 v) ∧ Pr p m b n D M.s L (ldM M (adG sg)).s w' ∧ Fr p m b w1 w' := by
  subst hv
  rw [adG_eq6 hs, ← S.val]
  obtain ⟨_, a2⟩ := aft_ld (ad6 sg (i64_seg hs) 0 f0w) S.val S.rel.nodup S.len rfl
  rw [← a2]
  exact load_r6 sg 0 (i64_seg hs) f0w P (by have := S.len; omega) S.st0 S.st1
theorem Say.ldP (S : Say p m b n D L c M w) (hc : c ≤ 4900) (hs : 0 ≤ sg ∧ sg < 32) (hv : M.V (adP sg) = v) (P : Pr p m b n D M.s L M.s w1) :
    Calls Tryz.prog 67 #[.pointer (some ⟨b, 0, none⟩), .agg #[.int .u8 6, .int .i64 sg, .int .i64 1]] w1 fun ee w' => ee = .returned (.int .u64 v) ∧ Pr p m b n D M.s L (ldM M (adP sg)).s w' ∧ Fr p m b w1 w' := by
  subst hv
  rw [adP_eq6 hs, ← S.val]
  obtain ⟨_, a2⟩ := aft_ld (ad6 sg (i64_seg hs) 1 f1w) S.val S.rel.nodup S.len rfl
  rw [← a2]
  exact load_r6 sg 1 (i64_seg hs) f1w P (by have := S.len; omega) S.st0 S.st1
theorem Say.cs9 (S : Say p m b n D L c M w) (hc : c ≤ 4900) (hs : 0 ≤ sl ∧ sl < 256) (u v : Int) {q : Bool} (hq : casV M.V (adH sl) u = q) (P : Pr p m b n D M.s L M.s w1) :
    Calls Tryz.prog 70 #[.pointer (some ⟨b, 0, none⟩), .agg #[.int .u8 9, .int .i64 sl, .int .i64 0], .int .u64 u, .int .u64 v] w1 fun ee w' => ee = .returned (.bool q) ∧ Pr p m b n D M.s (casL L (adH sl) u v) (csM M (adH sl) u v).s w' ∧ Fr p m b w1 w' := by
  rw [adH_eq hs] at hq ⊢
  have hq2 : casA L (ad9 sl (i64_slot hs) 0 f0w) u = q := (casA_V _ u S.val).trans hq
  obtain ⟨_, a2⟩ := aft_cs (ad9 sl (i64_slot hs) 0 f0w) u v hq2 S.val S.rel.nodup S.len
  rw [← a2]
  exact cas_r9 sl 0 (i64_slot hs) f0w hq2 P (by have := S.len; omega) S.st0 S.st1
theorem Say.csG (S : Say p m b n D L c M w) (hc : c ≤ 4900) (hs : 0 ≤ sg ∧ sg < 32) (u v : Int) {q : Bool} (hq : casV M.V (adG sg) u = q) (P : Pr p m b n D M.s L M.s w1) :
    Calls Tryz.prog 70 #[.pointer (some ⟨b, 0, none⟩), .agg #[.int .u8 6, .int .i64 sg, .int .i64 0], .int .u64 u, .int .u64 v] w1 fun ee w' => ee = .returned (.bool q) ∧ Pr p m b n D M.s (casL L (adG sg) u v) (csM M (adG sg) u v).s w' ∧ Fr p m b w1 w' := by
  rw [adG_eq6 hs] at hq ⊢
  have hq2 : casA L (ad6 sg (i64_seg hs) 0 f0w) u = q := (casA_V _ u S.val).trans hq
  obtain ⟨_, a2⟩ := aft_cs (ad6 sg (i64_seg hs) 0 f0w) u v hq2 S.val S.rel.nodup S.len
  rw [← a2]
  exact cas_r6 sg 0 (i64_seg hs) f0w hq2 P (by have := S.len; omega) S.st0 S.st1
theorem Say.csP (S : Say p m b n D L c M w) (hc : c ≤ 4900) (hs : 0 ≤ sg ∧ sg < 32) (u v : Int) {q : Bool} (hq : casV M.V (adP sg) u = q) (P : Pr p m b n D M.s L M.s w1) :
    Calls Tryz.prog 70 #[.pointer (some ⟨b, 0, none⟩), .agg #[.int .u8 6, .int .i64 sg, .int .i64 1], .int .u64 u, .int .u64 v] w1 fun ee w' => ee = .returned (.bool q) ∧ Pr p m b n D M.s (casL L (adP sg) u v) (csM M (adP sg) u v).s w' ∧ Fr p m b w1 w' := by
  rw [adP_eq6 hs] at hq ⊢
  have hq2 : casA L (ad6 sg (i64_seg hs) 1 f1w) u = q := (casA_V _ u S.val).trans hq
  obtain ⟨_, a2⟩ := aft_cs (ad6 sg (i64_seg hs) 1 f1w) u v hq2 S.val S.rel.nodup S.len
  rw [← a2]
  exact cas_r6 sg 1 (i64_seg hs) f1w hq2 P (by have := S.len; omega) S.st0 S.st1
theorem Say.aftLd (S : Say p m b n D L c M w) (x : Ad) : AftP L (c + 1) (ldM M x) := (aft_ld x S.val S.rel.nodup S.len rfl).1
theorem Say.aftCs (S : Say p m b n D L c M w) (x : Ad) (u v : Int) : AftP (casL L x u v) (c + 1) (csM M x u v) := (aft_cs x u v rfl S.val S.rel.nodup S.len).1
structure OD (B p m b n : Nat) (D : DataW Unit) (s : Acc8) (K : Nat) (E : List Nat) (cs : List Value) (L : List (Ad × Int)) (r : Acc8) (w0 w : World) : Prop where
  k : Bk K 108 cs w
  pr : Pr p m b n D s L r w
  f : FxL B p b E w0 w
theorem OD.start (k : Bk K 108 cs w) (P : Pr p m b n D s L r w) (hB : B ≤ w.heap.size) : OD B p m b n D s K E cs L r w w := ⟨k, P, .of_below (Below.refl _ w) hB⟩
theorem OD.below (h : OD B p m b n D s K E cs L r w0 w) (hBK : B ≤ K) (hb : Below w.heap.size w w') : OD B p m b n D s K E cs L r w0 w' := ⟨h.k.below hb, h.pr.below hb, h.f.trans (.of_below hb (Nat.le_trans hBK (Nat.le_of_lt h.k.lt)))⟩
theorem OD.fr (h : OD B p m b n D s K E cs L r w0 w) (hBm : B ≤ m) (hn : K ≠ p ∧ K ≠ b) (P : Pr p m b n D s L' r' w') (f : Fr p m b w w') : OD B p m b n D s K E cs L' r' w0 w' := ⟨h.k.fr f (by decide) hn.1 hn.2, P, h.f.trans (.of_fr f hBm)⟩
theorem OD.set (h : OD B p m b n D s K E cs L r w0 w) (hBK : B ≤ K) (hE : K ∈ E) (hn : K ≠ p ∧ K ≠ b) (i : Nat) (v : Value) (e : cs' = cs.set i v) : OD B p m b n D s K E cs' L r w0 (w.setCell ⟨K, i, none⟩ v) := ⟨h.k.set i v e, h.pr.setX h.k (by decide) hn.1 hn.2 i v, h.f.trans (.set (E := E) _ hBK hE i v)⟩
theorem OD.only (h : OD B p m b n D s K E cs L r w0 w) (hBK : B ≤ K) (hE : K ∈ E) (hn : K ≠ p ∧ K ≠ b) (k : Bk K 108 cs' w') (o : Only K K w w') : OD B p m b n D s K E cs' L r w0 w' := ⟨k, h.pr.onlyK h.k (by decide) hn.1 hn.2 o, h.f.trans (o.fxl hBK (Nat.le_trans hBK (Nat.le_of_lt h.k.lt)) hE)⟩
def OdS (B p m b n c : Nat) (D : DataW Unit) (s : Acc8) (K : Nat) (E : List Nat) (cs : List Value) (M' : MV) (w0 : World) (ee : Ending) (w' : World) : Prop := ee = .returned (.tuple #[]) ∧ ∃ L', AftP L' (c + 1) M' ∧ OD B p m b n D s K E cs L' M'.s w0 w'
theorem OD.part (h : OD B p m b n D s K E cs L r w0 w) (hn : K ≠ p ∧ K ≠ b) (hKe : K ≠ e) (he : e ∈ E) (P : Pr p m b n D s L' r' w') (f : Fx B p b p e w w') : OD B p m b n D s K E cs L' r' w0 w' :=
  ⟨f.far K _ _ _ h.k (by decide) hn.1 hn.2 hn.1 hKe, P, h.f.trans ⟨f.low, fun x cs t fr hx ht h1 h2 h3 => f.far x cs t fr hx ht h1 h2 h1 (fun k => h3 (k ▸ he))⟩⟩
theorem Say.below (S : Say p m b n D L c M w) (hb : Below w.heap.size w w') : Say p m b n D L c M w' := ⟨S.pr.below hb, S.rel, S.val, S.len, S.st0, S.st1⟩
def NxC (sh : Bool) (er sg lk sl w bh : Int) (pp pa pu : Option Addr) (kv : Value) : List Value := OpC sh (if sl + 1 = 8 * sg + 8 then 0 else 11) (if sl + 1 = 8 * sg + 8 then bh else er) sg lk (sl + 1) w bh pp pa pu kv
theorem op_next_any (k : Bk K 108 (OpC sh ln er sg lk sl pw bh pp pa pu kv) w) (hg : 0 ≤ sg ∧ sg < 32) (hs : 0 ≤ sl ∧ sl < 256) : Calls Tryz.prog 99 #[.pointer (some ⟨K, 0, none⟩)] w fun ee w' => ee = .returned (.tuple #[]) ∧ Bk K 108 (NxC sh er sg lk sl pw bh pp pa pu kv) w' ∧ Only K K w w' := by
  unfold NxC
  by_cases h : sl + 1 = 8 * sg + 8
  · rw [if_pos h, if_pos h]; exact op_next_last k hg hs h
  · rw [if_neg h, if_neg h]; exact op_next_on k hg hs h
theorem Bk.c3 {t : TypeId} {c0 c1 c2 : Value} (k : Bk X t [c0, c1, c2] w) : w.cell? ⟨X, 0, none⟩ = some c0 ∧ w.cell? ⟨X, 1, none⟩ = some c1 ∧ w.cell? ⟨X, 2, none⟩ = some c2 := ⟨k.cell 0, k.cell 1, k.cell 2⟩
set_option maxRecDepth 100000 in
set_option maxHeartbeats 4000000 in
theorem tn_a_yes (hBm : B ≤ m) (hc : c ≤ 4900) (S : Say p m b n D L c M w) (k : Bk K 108 (OpC sh 11 er sg lk sl pw bh pp pa pu kv) w) (hBK : B ≤ K) (hpw : U64 pw) (_hg : 0 ≤ sg ∧ sg < 32) (hsl : 0 ≤ sl ∧ sl < 256) (hv : M.V (adH sl) = v) (hp : stW v = 3) :
    Calls Tryz.prog 66 #[.pointer (some ⟨K, 0, none⟩), .pointer (some ⟨b, 0, none⟩)] w (OdS B p m b n c D M.s K [K] (OpC sh 12 er sg lk sl v bh pp pa pu kv) (ldM M (adH sl)) w) := by
  have HA := Lib.hid (S.aftLd (adH sl))
  have hvu : U64 v := by rw [← hv]; exact S.u64 _
  have hb := parked_yes hp
  have HV := Lib.hid hv
  clear hv hp
  have hn := k.ne_pr S.pr (by decide) (by decide)
  have hBw : B ≤ w.heap.size := Nat.le_trans hBm S.pr.m_le
  have HS := Lib.hid S
  have hbe : Below w.heap.size w (w.alloc (.cells #[.int .u8 9, .int .i64 sl, .int .i64 0] 33)) := (Below.refl _ _).alloc (Nat.le_refl _) _
  have HO1 := Lib.hid ((OD.start (E := [K]) k S.pr hBw).below hBK hbe)
  have HX1 := Lib.hid (show Bk w.heap.size 33 [.int .u8 9, .int .i64 sl, .int .i64 0] (w.alloc (.cells #[.int .u8 9, .int .i64 sl, .int .i64 0] 33)) from Bk.new _ _ _)
  obtain ⟨v0, hr0⟩ := S.pr.ref
  have hX : w.heap.size ≠ K ∧ w.heap.size ≠ p ∧ w.heap.size ≠ b := by
    have h1 := k.lt
    have h2 : p < w.heap.size := (Array.getElem?_eq_some_iff.1 S.pr.prog.blk).1
    have h3 : b < w.heap.size := (Array.getElem?_eq_some_iff.1 hr0.blk).1
    omega
  have c5 : w.cell? ⟨K, 5, none⟩ = some (.int .i64 sl) := k.cell 5
  clear k S hbe hr0
  go_enter Tryz.func66, Tryz.ntmps66
  go_upto_region 1 with (fail)
  revert HO1 HX1 hX
  clear c5
  generalize w.alloc (.cells #[.int .u8 9, .int .i64 sl, .int .i64 0] 33) = w1
  generalize w.heap.size = X
  intro HO1 HX1 hX
  obtain ⟨c0, c1, c2, c3, c4, c5, c6, c7, c8, c9, ca, cb, _⟩ := HO1.out.k.c12
  obtain ⟨x0, x1, x2⟩ := HX1.out.c3
  go_wp2_with fail
  ((with_reducible refine (asHeader24_any pw _ hpw).mono ?_); rintro ee wq ⟨rfl, hwq⟩)
  subst hwq
  rename World => w1
  go_wp2_with fail
  ((with_reducible refine (HS.out.ld9 hc hsl HV.out HO1.out.pr).mono ?_); rintro ee w2 ⟨rfl, P2, f2⟩)
  have HO2 := Lib.hid (HO1.out.fr hBm hn P2 f2)
  clear P2 f2 HO1 c0 c1 c2 c3 c4 c5 c6 c7 c8 c9 ca cb x0 x1 x2 HX1
  obtain ⟨c0, c1, c2, c3, c4, c5, c6, c7, c8, c9, ca, cb, _⟩ := HO2.out.k.c12
  have z3 := HO2.out.k.free 6
  have HO3 := Lib.hid (HO2.out.set hBK (by simp) hn 6 (.int .u64 v) (cs' := OpC sh 11 er sg lk sl v bh pp pa pu kv) rfl)
  obtain ⟨e30, e31, e32, e33, e34, e35, e36, e37, e38, e39, e3a, e3b, _⟩ := HO3.out.k.c12
  go_wp2_with fail
  ((with_reducible refine (asHeader24_any v _ hvu).mono ?_); rintro ee wq ⟨rfl, hwq⟩)
  subst hwq
  have z4 := HO3.out.k.free 1
  have HO4 := Lib.hid (HO3.out.set hBK (by simp) hn 1 (.int .i64 12) (cs' := OpC sh 12 er sg lk sl v bh pp pa pu kv) rfl)
  obtain ⟨e40, e41, e42, e43, e44, e45, e46, e47, e48, e49, e4a, e4b, _⟩ := HO4.out.k.c12
  go_wp2_with fail
  go_end0
  exact ⟨rfl, _, HA.out, HO4.out⟩
set_option maxRecDepth 100000 in
set_option maxHeartbeats 4000000 in
theorem tn_a_no (hBm : B ≤ m) (hc : c ≤ 4900) (S : Say p m b n D L c M w) (k : Bk K 108 (OpC sh 11 er sg lk sl pw bh pp pa pu kv) w) (hBK : B ≤ K) (hpw : U64 pw) (hg : 0 ≤ sg ∧ sg < 32) (hsl : 0 ≤ sl ∧ sl < 256) (hv : M.V (adH sl) = v) (hp : stW v ≠ 3) :
    Calls Tryz.prog 66 #[.pointer (some ⟨K, 0, none⟩), .pointer (some ⟨b, 0, none⟩)] w (OdS B p m b n c D M.s K [K] (NxC sh er sg lk sl v bh pp pa pu kv) (ldM M (adH sl)) w) := by
  have HA := Lib.hid (S.aftLd (adH sl))
  have hvu : U64 v := by rw [← hv]; exact S.u64 _
  have hb := parked_no hp
  have HV := Lib.hid hv
  clear hv hp
  have hn := k.ne_pr S.pr (by decide) (by decide)
  have hBw : B ≤ w.heap.size := Nat.le_trans hBm S.pr.m_le
  have HS := Lib.hid S
  have hbe : Below w.heap.size w (w.alloc (.cells #[.int .u8 9, .int .i64 sl, .int .i64 0] 33)) := (Below.refl _ _).alloc (Nat.le_refl _) _
  have HO1 := Lib.hid ((OD.start (E := [K]) k S.pr hBw).below hBK hbe)
  have HX1 := Lib.hid (show Bk w.heap.size 33 [.int .u8 9, .int .i64 sl, .int .i64 0] (w.alloc (.cells #[.int .u8 9, .int .i64 sl, .int .i64 0] 33)) from Bk.new _ _ _)
  obtain ⟨v0, hr0⟩ := S.pr.ref
  have hX : w.heap.size ≠ K ∧ w.heap.size ≠ p ∧ w.heap.size ≠ b := by
    have h1 := k.lt
    have h2 : p < w.heap.size := (Array.getElem?_eq_some_iff.1 S.pr.prog.blk).1
    have h3 : b < w.heap.size := (Array.getElem?_eq_some_iff.1 hr0.blk).1
    omega
  have c5 : w.cell? ⟨K, 5, none⟩ = some (.int .i64 sl) := k.cell 5
  clear k S hbe hr0
  go_enter Tryz.func66, Tryz.ntmps66
  go_upto_region 1 with (fail)
  revert HO1 HX1 hX
  clear c5
  generalize w.alloc (.cells #[.int .u8 9, .int .i64 sl, .int .i64 0] 33) = w1
  generalize w.heap.size = X
  intro HO1 HX1 hX
  obtain ⟨c0, c1, c2, c3, c4, c5, c6, c7, c8, c9, ca, cb, _⟩ := HO1.out.k.c12
  obtain ⟨x0, x1, x2⟩ := HX1.out.c3
  go_wp2_with fail
  ((with_reducible refine (asHeader24_any pw _ hpw).mono ?_); rintro ee wq ⟨rfl, hwq⟩)
  subst hwq
  rename World => w1
  go_wp2_with fail
  ((with_reducible refine (HS.out.ld9 hc hsl HV.out HO1.out.pr).mono ?_); rintro ee w2 ⟨rfl, P2, f2⟩)
  have HO2 := Lib.hid (HO1.out.fr hBm hn P2 f2)
  clear P2 f2 HO1 c0 c1 c2 c3 c4 c5 c6 c7 c8 c9 ca cb x0 x1 x2 HX1
  obtain ⟨c0, c1, c2, c3, c4, c5, c6, c7, c8, c9, ca, cb, _⟩ := HO2.out.k.c12
  have z3 := HO2.out.k.free 6
  have HO3 := Lib.hid (HO2.out.set hBK (by simp) hn 6 (.int .u64 v) (cs' := OpC sh 11 er sg lk sl v bh pp pa pu kv) rfl)
  obtain ⟨e30, e31, e32, e33, e34, e35, e36, e37, e38, e39, e3a, e3b, _⟩ := HO3.out.k.c12
  go_wp2_with fail
  ((with_reducible refine (asHeader24_any v _ hvu).mono ?_); rintro ee wq ⟨rfl, hwq⟩)
  subst hwq
  have z4 := HO3.out.k.free 1
  have HO4 := Lib.hid (HO3.out.set hBK (by simp) hn 1 (.int .i64 12) (cs' := OpC sh 12 er sg lk sl v bh pp pa pu kv) rfl)
  obtain ⟨e40, e41, e42, e43, e44, e45, e46, e47, e48, e49, e4a, e4b, _⟩ := HO4.out.k.c12
  go_wp2_with fail
  ((with_reducible refine (op_next_any HO4.out.k hg hsl).mono ?_); rintro ee w9 ⟨rfl, k9, o9⟩)
  have HO9 := Lib.hid (HO4.out.only hBK (by simp) hn k9 o9)
  clear k9 o9
  go_wp2_with fail
  go_end0
  exact ⟨rfl, _, HA.out, HO9.out⟩
set_option maxRecDepth 100000 in
set_option maxHeartbeats 4000000 in
theorem tn_b_yes (hBm : B ≤ m) (hc : c ≤ 4900) (S : Say p m b n D L c M w) (k : Bk K 108 (OpC sh 12 er sg lk sl pw bh pp pa pu kv) w) (hBK : B ≤ K) (hpw : U64 pw) (_hg : 0 ≤ sg ∧ sg < 32) (hsl : 0 ≤ sl ∧ sl < 256) (hq : casV M.V (adH sl) pw = true) :
    Calls Tryz.prog 66 #[.pointer (some ⟨K, 0, none⟩), .pointer (some ⟨b, 0, none⟩)] w (OdS B p m b n c D M.s K [K] (OpC sh 13 er sg lk sl pw bh pp pa pu kv) (csM M (adH sl) pw (headerW 0 (gW pw))) w) := by
  have HA := Lib.hid (S.aftCs (adH sl) pw (headerW 0 (gW pw)))
  have HQ := Lib.hid hq
  clear hq
  have hn := k.ne_pr S.pr (by decide) (by decide)
  have hBw : B ≤ w.heap.size := Nat.le_trans hBm S.pr.m_le
  have HS := Lib.hid S
  have hbe : Below w.heap.size w (w.alloc (.cells #[.int .u8 9, .int .i64 sl, .int .i64 0] 33)) := (Below.refl _ _).alloc (Nat.le_refl _) _
  have HO1 := Lib.hid ((OD.start (E := [K]) k S.pr hBw).below hBK hbe)
  have HX1 := Lib.hid (show Bk w.heap.size 33 [.int .u8 9, .int .i64 sl, .int .i64 0] (w.alloc (.cells #[.int .u8 9, .int .i64 sl, .int .i64 0] 33)) from Bk.new _ _ _)
  obtain ⟨v0, hr0⟩ := S.pr.ref
  have hX : w.heap.size ≠ K ∧ w.heap.size ≠ p ∧ w.heap.size ≠ b := by
    have h1 := k.lt
    have h2 : p < w.heap.size := (Array.getElem?_eq_some_iff.1 S.pr.prog.blk).1
    have h3 : b < w.heap.size := (Array.getElem?_eq_some_iff.1 hr0.blk).1
    omega
  have c5 : w.cell? ⟨K, 5, none⟩ = some (.int .i64 sl) := k.cell 5
  clear k S hbe hr0
  go_enter Tryz.func66, Tryz.ntmps66
  go_upto_region 1 with (fail)
  revert HO1 HX1 hX
  clear c5
  generalize w.alloc (.cells #[.int .u8 9, .int .i64 sl, .int .i64 0] 33) = w1
  generalize w.heap.size = X
  intro HO1 HX1 hX
  obtain ⟨c0, c1, c2, c3, c4, c5, c6, c7, c8, c9, ca, cb, _⟩ := HO1.out.k.c12
  obtain ⟨x0, x1, x2⟩ := HX1.out.c3
  go_wp2_with fail
  ((with_reducible refine (asHeader24_any pw _ hpw).mono ?_); rintro ee wq ⟨rfl, hwq⟩)
  subst hwq
  rename World => w1
  have HX2 := Lib.hid (HX1.out.same (Below.heap_setCell w1 ⟨K, 1, none⟩ (.int .i64 13) X hX.1))
  have z2 := HO1.out.k.free 1
  have HO2 := Lib.hid (HO1.out.set hBK (by simp) hn 1 (.int .i64 13) (cs' := OpC sh 13 er sg lk sl pw bh pp pa pu kv) rfl)
  obtain ⟨e20, e21, e22, e23, e24, e25, e26, e27, e28, e29, e2a, e2b, _⟩ := HO2.out.k.c12
  go_upto_region 11 with (fail)
  revert HO2 e20 e21 e22 e23 e24 e25 e26 e27 e28 e29 e2a e2b HX2
  generalize w1.setCell ⟨K, 1, none⟩ (.int .i64 13) = y1
  intro HX2 HO2 e20 e21 e22 e23 e24 e25 e26 e27 e28 e29 e2a e2b
  have HOd := Lib.hid (HO2.out.below hBK (Below.refl _ y1).drew)
  have HXd := Lib.hid (HX2.out.below (Below.refl _ y1).drew)
  have hs0 := Lib.hid (And.intro (HOd.out.k.cell 6) HXd.out.c3)
  simp only [OpC, List.getElem?_cons_zero, List.getElem?_cons_succ] at hs0
  clear HO1 HX1 HO2 HX2 e20 e21 e22 e23 e24 e25 e26 e27 e28 e29 e2a e2b z2 c0 c1 c2 c3 c4 c5 c6 c7 c8 c9 ca cb x0 x1 x2
  go_region_held3 (fun w9 => w9.cell? ⟨K, 6, none⟩ = some (.int .u64 pw) ∧ w9.cell? ⟨X, 0, none⟩ = some (.int .u8 9) ∧ w9.cell? ⟨X, 1, none⟩ = some (.int .i64 sl) ∧ w9.cell? ⟨X, 2, none⟩ = some (.int .i64 0))
    (first | exact hs0.out | exact hs3.out | fail)
    (first
      | (go_at_call 100; with_reducible refine (header28_any 0 (fld pw 3 32) _ u8_0 (gen_u64 pw)).mono ?_; rintro ee wq ⟨rfl, hwq⟩; subst hwq)
      | (go_at_call 70; with_reducible refine (HS.out.cs9 hc hsl pw (headerW 0 (fld pw 3 32)) HQ.out HOd.out.pr).mono ?_; rintro ee x3 ⟨rfl, P3, f3⟩; have HO3 := Lib.hid (HOd.out.fr hBm hn P3 f3); have HX3 := Lib.hid (HXd.out.fr f3 (by decide) hX.2.1 hX.2.2); have hs3 := Lib.hid (And.intro (HO3.out.k.cell 6) HX3.out.c3); clear P3 f3)
      | fail)
  obtain ⟨c0, c1, c2, c3, c4, c5, c6, c7, c8, c9, ca, cb, _⟩ := HO3.out.k.c12
  go_wp2_with fail
  go_end0
  exact ⟨rfl, _, HA.out, HO3.out⟩
set_option maxRecDepth 100000 in
set_option maxHeartbeats 4000000 in
theorem tn_b_no (hBm : B ≤ m) (hc : c ≤ 4900) (S : Say p m b n D L c M w) (k : Bk K 108 (OpC sh 12 er sg lk sl pw bh pp pa pu kv) w) (hBK : B ≤ K) (hpw : U64 pw) (hg : 0 ≤ sg ∧ sg < 32) (hsl : 0 ≤ sl ∧ sl < 256) (hq : casV M.V (adH sl) pw = false) :
    Calls Tryz.prog 66 #[.pointer (some ⟨K, 0, none⟩), .pointer (some ⟨b, 0, none⟩)] w (OdS B p m b n c D M.s K [K] (NxC sh er sg lk sl pw bh pp pa pu kv) (csM M (adH sl) pw (headerW 0 (gW pw))) w) := by
  have HA := Lib.hid (S.aftCs (adH sl) pw (headerW 0 (gW pw)))
  have HQ := Lib.hid hq
  clear hq
  have hn := k.ne_pr S.pr (by decide) (by decide)
  have hBw : B ≤ w.heap.size := Nat.le_trans hBm S.pr.m_le
  have HS := Lib.hid S
  have hbe : Below w.heap.size w (w.alloc (.cells #[.int .u8 9, .int .i64 sl, .int .i64 0] 33)) := (Below.refl _ _).alloc (Nat.le_refl _) _
  have HO1 := Lib.hid ((OD.start (E := [K]) k S.pr hBw).below hBK hbe)
  have HX1 := Lib.hid (show Bk w.heap.size 33 [.int .u8 9, .int .i64 sl, .int .i64 0] (w.alloc (.cells #[.int .u8 9, .int .i64 sl, .int .i64 0] 33)) from Bk.new _ _ _)
  obtain ⟨v0, hr0⟩ := S.pr.ref
  have hX : w.heap.size ≠ K ∧ w.heap.size ≠ p ∧ w.heap.size ≠ b := by
    have h1 := k.lt
    have h2 : p < w.heap.size := (Array.getElem?_eq_some_iff.1 S.pr.prog.blk).1
    have h3 : b < w.heap.size := (Array.getElem?_eq_some_iff.1 hr0.blk).1
    omega
  have c5 : w.cell? ⟨K, 5, none⟩ = some (.int .i64 sl) := k.cell 5
  clear k S hbe hr0
  go_enter Tryz.func66, Tryz.ntmps66
  go_upto_region 1 with (fail)
  revert HO1 HX1 hX
  clear c5
  generalize w.alloc (.cells #[.int .u8 9, .int .i64 sl, .int .i64 0] 33) = w1
  generalize w.heap.size = X
  intro HO1 HX1 hX
  obtain ⟨c0, c1, c2, c3, c4, c5, c6, c7, c8, c9, ca, cb, _⟩ := HO1.out.k.c12
  obtain ⟨x0, x1, x2⟩ := HX1.out.c3
  go_wp2_with fail
  ((with_reducible refine (asHeader24_any pw _ hpw).mono ?_); rintro ee wq ⟨rfl, hwq⟩)
  subst hwq
  rename World => w1
  have HX2 := Lib.hid (HX1.out.same (Below.heap_setCell w1 ⟨K, 1, none⟩ (.int .i64 13) X hX.1))
  have z2 := HO1.out.k.free 1
  have HO2 := Lib.hid (HO1.out.set hBK (by simp) hn 1 (.int .i64 13) (cs' := OpC sh 13 er sg lk sl pw bh pp pa pu kv) rfl)
  obtain ⟨e20, e21, e22, e23, e24, e25, e26, e27, e28, e29, e2a, e2b, _⟩ := HO2.out.k.c12
  go_upto_region 11 with (fail)
  revert HO2 e20 e21 e22 e23 e24 e25 e26 e27 e28 e29 e2a e2b HX2
  generalize w1.setCell ⟨K, 1, none⟩ (.int .i64 13) = y1
  intro HX2 HO2 e20 e21 e22 e23 e24 e25 e26 e27 e28 e29 e2a e2b
  have HOd := Lib.hid (HO2.out.below hBK (Below.refl _ y1).drew)
  have HXd := Lib.hid (HX2.out.below (Below.refl _ y1).drew)
  have hs0 := Lib.hid (And.intro (HOd.out.k.cell 6) HXd.out.c3)
  simp only [OpC, List.getElem?_cons_zero, List.getElem?_cons_succ] at hs0
  clear HO1 HX1 HO2 HX2 e20 e21 e22 e23 e24 e25 e26 e27 e28 e29 e2a e2b z2 c0 c1 c2 c3 c4 c5 c6 c7 c8 c9 ca cb x0 x1 x2
  go_region_held3 (fun w9 => w9.cell? ⟨K, 6, none⟩ = some (.int .u64 pw) ∧ w9.cell? ⟨X, 0, none⟩ = some (.int .u8 9) ∧ w9.cell? ⟨X, 1, none⟩ = some (.int .i64 sl) ∧ w9.cell? ⟨X, 2, none⟩ = some (.int .i64 0))
    (first | exact hs0.out | exact hs3.out | fail)
    (first
      | (go_at_call 100; with_reducible refine (header28_any 0 (fld pw 3 32) _ u8_0 (gen_u64 pw)).mono ?_; rintro ee wq ⟨rfl, hwq⟩; subst hwq)
      | (go_at_call 70; with_reducible refine (HS.out.cs9 hc hsl pw (headerW 0 (fld pw 3 32)) HQ.out HOd.out.pr).mono ?_; rintro ee x3 ⟨rfl, P3, f3⟩; have HO3 := Lib.hid (HOd.out.fr hBm hn P3 f3); have HX3 := Lib.hid (HXd.out.fr f3 (by decide) hX.2.1 hX.2.2); have hs3 := Lib.hid (And.intro (HO3.out.k.cell 6) HX3.out.c3); clear P3 f3)
      | fail)
  obtain ⟨c0, c1, c2, c3, c4, c5, c6, c7, c8, c9, ca, cb, _⟩ := HO3.out.k.c12
  go_wp2_with fail
  ((with_reducible refine (op_next_any HO3.out.k hg hsl).mono ?_); rintro ee w9 ⟨rfl, k9, o9⟩)
  have HO9 := Lib.hid (HO3.out.only hBK (by simp) hn k9 o9)
  clear k9 o9
  go_wp2_with fail
  go_end0
  exact ⟨rfl, _, HA.out, HO9.out⟩
set_option maxRecDepth 100000 in
set_option maxHeartbeats 4000000 in
theorem tn_c (hBm : B ≤ m) (hc : c ≤ 4900) (S : Say p m b n D L c M w) (k : Bk K 108 (OpC sh 13 er sg lk sl pw bh pp pa pu kv) w) (hBK : B ≤ K) (hpw : U64 pw) (hg : 0 ≤ sg ∧ sg < 32) (_hsl : 0 ≤ sl ∧ sl < 256) (hv : M.V (adP sg) = v) :
    Calls Tryz.prog 66 #[.pointer (some ⟨K, 0, none⟩), .pointer (some ⟨b, 0, none⟩)] w (OdS B p m b n c D M.s K [K] (OpC sh 14 er sg lk sl v bh pp pa pu kv) (ldM M (adP sg)) w) := by
  have HA := Lib.hid (S.aftLd (adP sg))
  have HV := Lib.hid hv
  clear hv
  have hn := k.ne_pr S.pr (by decide) (by decide)
  have hBw : B ≤ w.heap.size := Nat.le_trans hBm S.pr.m_le
  have HS := Lib.hid S
  have hbe : Below w.heap.size w (w.alloc (.cells #[.int .u8 9, .int .i64 sl, .int .i64 0] 33)) := (Below.refl _ _).alloc (Nat.le_refl _) _
  have HO1 := Lib.hid ((OD.start (E := [K]) k S.pr hBw).below hBK hbe)
  have HX1 := Lib.hid (show Bk w.heap.size 33 [.int .u8 9, .int .i64 sl, .int .i64 0] (w.alloc (.cells #[.int .u8 9, .int .i64 sl, .int .i64 0] 33)) from Bk.new _ _ _)
  obtain ⟨v0, hr0⟩ := S.pr.ref
  have hX : w.heap.size ≠ K ∧ w.heap.size ≠ p ∧ w.heap.size ≠ b := by
    have h1 := k.lt
    have h2 : p < w.heap.size := (Array.getElem?_eq_some_iff.1 S.pr.prog.blk).1
    have h3 : b < w.heap.size := (Array.getElem?_eq_some_iff.1 hr0.blk).1
    omega
  have c5 : w.cell? ⟨K, 5, none⟩ = some (.int .i64 sl) := k.cell 5
  clear k S hbe hr0
  go_enter Tryz.func66, Tryz.ntmps66
  go_upto_region 1 with (fail)
  revert HO1 HX1 hX
  clear c5
  generalize w.alloc (.cells #[.int .u8 9, .int .i64 sl, .int .i64 0] 33) = w1
  generalize w.heap.size = X
  intro HO1 HX1 hX
  obtain ⟨c0, c1, c2, c3, c4, c5, c6, c7, c8, c9, ca, cb, _⟩ := HO1.out.k.c12
  obtain ⟨x0, x1, x2⟩ := HX1.out.c3
  go_wp2_with fail
  ((with_reducible refine (asHeader24_any pw _ hpw).mono ?_); rintro ee wq ⟨rfl, hwq⟩)
  subst hwq
  rename World => w1
  go_wp2_with fail
  ((with_reducible refine (op_word HO1.out.k 1).mono ?_); rintro ee w2 ⟨rfl, hb2⟩)
  have HO2 := Lib.hid (HO1.out.below hBK hb2)
  clear hb2 HO1 c0 c1 c2 c3 c4 c5 c6 c7 c8 c9 ca cb x0 x1 x2 HX1
  obtain ⟨c0, c1, c2, c3, c4, c5, c6, c7, c8, c9, ca, cb, _⟩ := HO2.out.k.c12
  go_wp2_with fail
  ((with_reducible refine (HS.out.ldP hc hg HV.out HO2.out.pr).mono ?_); rintro ee w3 ⟨rfl, P3, f3⟩)
  have HO3 := Lib.hid (HO2.out.fr hBm hn P3 f3)
  clear P3 f3 HO2 c0 c1 c2 c3 c4 c5 c6 c7 c8 c9 ca cb
  obtain ⟨c0, c1, c2, c3, c4, c5, c6, c7, c8, c9, ca, cb, _⟩ := HO3.out.k.c12
  have z4 := HO3.out.k.free 6
  have HO4 := Lib.hid (HO3.out.set hBK (by simp) hn 6 (.int .u64 v) (cs' := OpC sh 13 er sg lk sl v bh pp pa pu kv) rfl)
  obtain ⟨e40, e41, e42, e43, e44, e45, e46, e47, e48, e49, e4a, e4b, _⟩ := HO4.out.k.c12
  have z5 := HO4.out.k.free 1
  have HO5 := Lib.hid (HO4.out.set hBK (by simp) hn 1 (.int .i64 14) (cs' := OpC sh 14 er sg lk sl v bh pp pa pu kv) rfl)
  obtain ⟨e50, e51, e52, e53, e54, e55, e56, e57, e58, e59, e5a, e5b, _⟩ := HO5.out.k.c12
  go_wp2_with fail
  go_end0
  exact ⟨rfl, _, HA.out, HO5.out⟩
set_option maxRecDepth 100000 in
set_option maxHeartbeats 4000000 in
theorem tn_d_no (hBm : B ≤ m) (hc : c ≤ 4900) (S : Say p m b n D L c M w) (k : Bk K 108 (OpC sh 14 er sg lk sl pw bh pp pa pu kv) w) (hBK : B ≤ K) (hpw : U64 pw) (hg : 0 ≤ sg ∧ sg < 32) (_hsl : 0 ≤ sl ∧ sl < 256) (hq : casV M.V (adP sg) pw = false) :
    Calls Tryz.prog 66 #[.pointer (some ⟨K, 0, none⟩), .pointer (some ⟨b, 0, none⟩)] w (OdS B p m b n c D M.s K [K] (OpC sh 13 er sg lk sl pw bh pp pa pu kv) (csM M (adP sg) pw (down64 pw)) w) := by
  have HA := Lib.hid (S.aftCs (adP sg) pw (down64 pw))
  have HQ := Lib.hid hq
  clear hq
  have hn := k.ne_pr S.pr (by decide) (by decide)
  have hBw : B ≤ w.heap.size := Nat.le_trans hBm S.pr.m_le
  have HS := Lib.hid S
  have hbe : Below w.heap.size w (w.alloc (.cells #[.int .u8 9, .int .i64 sl, .int .i64 0] 33)) := (Below.refl _ _).alloc (Nat.le_refl _) _
  have HO1 := Lib.hid ((OD.start (E := [K]) k S.pr hBw).below hBK hbe)
  have HX1 := Lib.hid (show Bk w.heap.size 33 [.int .u8 9, .int .i64 sl, .int .i64 0] (w.alloc (.cells #[.int .u8 9, .int .i64 sl, .int .i64 0] 33)) from Bk.new _ _ _)
  obtain ⟨v0, hr0⟩ := S.pr.ref
  have hX : w.heap.size ≠ K ∧ w.heap.size ≠ p ∧ w.heap.size ≠ b := by
    have h1 := k.lt
    have h2 : p < w.heap.size := (Array.getElem?_eq_some_iff.1 S.pr.prog.blk).1
    have h3 : b < w.heap.size := (Array.getElem?_eq_some_iff.1 hr0.blk).1
    omega
  have c5 : w.cell? ⟨K, 5, none⟩ = some (.int .i64 sl) := k.cell 5
  clear k S hbe hr0
  go_enter Tryz.func66, Tryz.ntmps66
  go_upto_region 1 with (fail)
  revert HO1 HX1 hX
  clear c5
  generalize w.alloc (.cells #[.int .u8 9, .int .i64 sl, .int .i64 0] 33) = w1
  generalize w.heap.size = X
  intro HO1 HX1 hX
  obtain ⟨c0, c1, c2, c3, c4, c5, c6, c7, c8, c9, ca, cb, _⟩ := HO1.out.k.c12
  obtain ⟨x0, x1, x2⟩ := HX1.out.c3
  go_wp2_with fail
  ((with_reducible refine (asHeader24_any pw _ hpw).mono ?_); rintro ee wq ⟨rfl, hwq⟩)
  subst hwq
  rename World => w1
  have z2 := HO1.out.k.free 1
  have HO2 := Lib.hid (HO1.out.set hBK (by simp) hn 1 (.int .i64 13) (cs' := OpC sh 13 er sg lk sl pw bh pp pa pu kv) rfl)
  obtain ⟨e20, e21, e22, e23, e24, e25, e26, e27, e28, e29, e2a, e2b, _⟩ := HO2.out.k.c12
  go_upto_region 18 with (fail)
  revert HO2 e20 e21 e22 e23 e24 e25 e26 e27 e28 e29 e2a e2b
  generalize w1.setCell ⟨K, 1, none⟩ (.int .i64 13) = y1
  intro HO2 e20 e21 e22 e23 e24 e25 e26 e27 e28 e29 e2a e2b
  have HOd := Lib.hid (HO2.out.below hBK (Below.refl _ y1).drew)
  have hs0 := Lib.hid (HOd.out.k.cell 6)
  simp only [OpC, List.getElem?_cons_zero, List.getElem?_cons_succ] at hs0
  have hdw := down_wrap' pw
  clear HO1 HX1 HO2 e20 e21 e22 e23 e24 e25 e26 e27 e28 e29 e2a e2b z2 c0 c1 c2 c3 c4 c5 c6 c7 c8 c9 ca cb x0 x1 x2
  go_region_held3 (fun w9 => w9.cell? ⟨K, 6, none⟩ = some (.int .u64 pw))
    (first | exact hs0.out | exact hs2.out | exact hs3.out | fail)
    (first
      | (go_at_call 68; with_reducible refine (op_word HOd.out.k 1).mono ?_; rintro ee x2 ⟨rfl, hb2⟩; have HO2 := Lib.hid (HOd.out.below hBK hb2); have hs2 := Lib.hid (HO2.out.k.cell 6); clear hb2)
      | (go_at_call 70; with_reducible refine (HS.out.csP hc hg pw (down64 pw) HQ.out HO2.out.pr).mono ?_; rintro ee x3 ⟨rfl, P3, f3⟩; have HO3 := Lib.hid (HO2.out.fr hBm hn P3 f3); have hs3 := Lib.hid (HO3.out.k.cell 6); clear P3 f3)
      | fail)
  obtain ⟨c0, c1, c2, c3, c4, c5, c6, c7, c8, c9, ca, cb, _⟩ := HO3.out.k.c12
  go_wp2_with fail
  go_end0
  exact ⟨rfl, _, HA.out, HO3.out⟩
set_option maxRecDepth 100000 in
set_option maxHeartbeats 4000000 in
theorem tn_d_yes (hBm : B ≤ m) (hc : c ≤ 4900) (S : Say p m b n D L c M w) (k : Bk K 108 (OpC sh 14 er sg lk sl pw bh pp pa pu kv) w) (hBK : B ≤ K) (hpw : U64 pw) (hg : 0 ≤ sg ∧ sg < 32) (hsl : 0 ≤ sl ∧ sl < 256) (hn0 : n0 ≤ w.heap.size) (hq : casV M.V (adP sg) pw = true) :
    Calls Tryz.prog 66 #[.pointer (some ⟨K, 0, none⟩), .pointer (some ⟨b, 0, none⟩)] w fun ee w' => ∃ e, OdS B p m b n c D M.s K [K] (OpC sh 15 er sg lk sl pw bh pp pa (some ⟨e, 0, none⟩) kv) (csM M (adP sg) pw (down64 pw)) w ee w' ∧ RefAt e true sl 1 false 0 0 w' ∧ n0 ≤ e ∧ K ≠ e := by
  have HA := Lib.hid (S.aftCs (adP sg) pw (down64 pw))
  have HQ := Lib.hid hq
  clear hq
  have hn := k.ne_pr S.pr (by decide) (by decide)
  have hBw : B ≤ w.heap.size := Nat.le_trans hBm S.pr.m_le
  have HS := Lib.hid S
  have hbe : Below w.heap.size w (w.alloc (.cells #[.int .u8 9, .int .i64 sl, .int .i64 0] 33)) := (Below.refl _ _).alloc (Nat.le_refl _) _
  have HO1 := Lib.hid ((OD.start (E := [K]) k S.pr hBw).below hBK hbe)
  have HX1 := Lib.hid (show Bk w.heap.size 33 [.int .u8 9, .int .i64 sl, .int .i64 0] (w.alloc (.cells #[.int .u8 9, .int .i64 sl, .int .i64 0] 33)) from Bk.new _ _ _)
  obtain ⟨v0, hr0⟩ := S.pr.ref
  have hX : w.heap.size ≠ K ∧ w.heap.size ≠ p ∧ w.heap.size ≠ b := by
    have h1 := k.lt
    have h2 : p < w.heap.size := (Array.getElem?_eq_some_iff.1 S.pr.prog.blk).1
    have h3 : b < w.heap.size := (Array.getElem?_eq_some_iff.1 hr0.blk).1
    omega
  have c5 : w.cell? ⟨K, 5, none⟩ = some (.int .i64 sl) := k.cell 5
  clear k S hbe hr0
  go_enter Tryz.func66, Tryz.ntmps66
  go_upto_region 1 with (fail)
  revert HO1 HX1 hX
  clear c5
  generalize w.alloc (.cells #[.int .u8 9, .int .i64 sl, .int .i64 0] 33) = w1
  generalize w.heap.size = X
  intro HO1 HX1 hX
  obtain ⟨c0, c1, c2, c3, c4, c5, c6, c7, c8, c9, ca, cb, _⟩ := HO1.out.k.c12
  obtain ⟨x0, x1, x2⟩ := HX1.out.c3
  go_wp2_with fail
  ((with_reducible refine (asHeader24_any pw _ hpw).mono ?_); rintro ee wq ⟨rfl, hwq⟩)
  subst hwq
  rename World => w1
  have z2 := HO1.out.k.free 1
  have HO2 := Lib.hid (HO1.out.set hBK (by simp) hn 1 (.int .i64 13) (cs' := OpC sh 13 er sg lk sl pw bh pp pa pu kv) rfl)
  obtain ⟨e20, e21, e22, e23, e24, e25, e26, e27, e28, e29, e2a, e2b, _⟩ := HO2.out.k.c12
  go_upto_region 18 with (fail)
  revert HO2 e20 e21 e22 e23 e24 e25 e26 e27 e28 e29 e2a e2b
  generalize w1.setCell ⟨K, 1, none⟩ (.int .i64 13) = y1
  intro HO2 e20 e21 e22 e23 e24 e25 e26 e27 e28 e29 e2a e2b
  have HOd := Lib.hid (HO2.out.below hBK (Below.refl _ y1).drew)
  have hs0 := Lib.hid (HOd.out.k.cell 6)
  simp only [OpC, List.getElem?_cons_zero, List.getElem?_cons_succ] at hs0
  have hdw := down_wrap' pw
  clear HO1 HX1 HO2 e20 e21 e22 e23 e24 e25 e26 e27 e28 e29 e2a e2b z2 c0 c1 c2 c3 c4 c5 c6 c7 c8 c9 ca cb x0 x1 x2
  go_region_held3 (fun w9 => w9.cell? ⟨K, 6, none⟩ = some (.int .u64 pw))
    (first | exact hs0.out | exact hs2.out | exact hs3.out | fail)
    (first
      | (go_at_call 68; with_reducible refine (op_word HOd.out.k 1).mono ?_; rintro ee x2 ⟨rfl, hb2⟩; have HO2 := Lib.hid (HOd.out.below hBK hb2); have hs2 := Lib.hid (HO2.out.k.cell 6); clear hb2)
      | (go_at_call 70; with_reducible refine (HS.out.csP hc hg pw (down64 pw) HQ.out HO2.out.pr).mono ?_; rintro ee x3 ⟨rfl, P3, f3⟩; have HO3 := Lib.hid (HO2.out.fr hBm hn P3 f3); have hs3 := Lib.hid (HO3.out.k.cell 6); clear P3 f3)
      | fail)
  obtain ⟨c0, c1, c2, c3, c4, c5, c6, c7, c8, c9, ca, cb, _⟩ := HO3.out.k.c12
  have z4 := HO3.out.k.free 1
  have HO4 := Lib.hid (HO3.out.set hBK (by simp) hn 1 (.int .i64 15) (cs' := OpC sh 15 er sg lk sl pw bh pp pa pu kv) rfl)
  obtain ⟨e40, e41, e42, e43, e44, e45, e46, e47, e48, e49, e4a, e4b, _⟩ := HO4.out.k.c12
  have hle := Nat.le_trans hn0 HO4.out.f.low.size
  have hKe : K < (x3.setCell ⟨K, 1, none⟩ (.int .i64 15)).heap.size := HO4.out.k.lt
  go_wp2_with fail
  ((with_reducible refine (ref_newPush sl hsl.1 (by omega) _).mono ?_); rintro ee w5 ⟨rfl, R5, hb5, _⟩)
  have HO5 := Lib.hid (HO4.out.below hBK hb5)
  have HR5 := Lib.hid R5
  clear R5 hb5 HO4 z4 e40 e41 e42 e43 e44 e45 e46 e47 e48 e49 e4a e4b HO3
  revert HR5 hle hKe
  generalize (x3.setCell ⟨K, 1, none⟩ (.int .i64 15)).heap.size = e
  intro hle hKe HR5
  clear c0 c1 c2 c3 c4 c5 c6 c7 c8 c9 ca cb
  obtain ⟨c0, c1, c2, c3, c4, c5, c6, c7, c8, c9, ca, cb, _⟩ := HO5.out.k.c12
  have z6 := HO5.out.k.free 10
  have HO6 := Lib.hid (HO5.out.set hBK (by simp) hn 10 (.pointer (some ⟨e, 0, none⟩)) (cs' := OpC sh 15 er sg lk sl pw bh pp pa (some ⟨e, 0, none⟩) kv) rfl)
  obtain ⟨e60, e61, e62, e63, e64, e65, e66, e67, e68, e69, e6a, e6b, _⟩ := HO6.out.k.c12
  have HR6 := Lib.hid (HR5.out.same (Below.heap_setCell w5 ⟨K, 10, none⟩ (.pointer (some ⟨e, 0, none⟩)) e (by show e ≠ K; omega)))
  go_wp2_with fail
  go_end0
  exact ⟨e, ⟨rfl, _, HA.out, HO6.out⟩, HR6.out, hle, by omega⟩
set_option maxRecDepth 100000 in
set_option maxHeartbeats 4000000 in
theorem tn_e_on (hBm : B ≤ m) (hc : c ≤ 4900) (S : Say p m b n D L c M w) (k : Bk K 108 (OpC sh 15 er sg lk sl pw bh pp pa (some ⟨e, 0, none⟩) kv) w) (hBK : B ≤ K) (hpw : U64 pw) (_hg : 0 ≤ sg ∧ sg < 32) (_hsl : 0 ≤ sl ∧ sl < 256) {o : OS} (hBe : B ≤ e) (hKe : K ≠ e) (R : PushD e o w) (hz : (pushX o M).1.nx ≠ 0) :
    Calls Tryz.prog 66 #[.pointer (some ⟨K, 0, none⟩), .pointer (some ⟨b, 0, none⟩)] w fun ee w' => OdS B p m b n c D M.s K [K, e] (OpC sh 15 er sg lk sl pw bh pp pa (some ⟨e, 0, none⟩) kv) (pushX o M).2 w ee w' ∧ PushD e (pushX o M).1 w' := by
  have hzb : ((pushX o M).1.nx == 0) = false := by simpa using hz
  clear hz
  have hn := k.ne_pr S.pr (by decide) (by decide)
  have hBw : B ≤ w.heap.size := Nat.le_trans hBm S.pr.m_le
  have HS := Lib.hid S
  have hbe : Below w.heap.size w (w.alloc (.cells #[.int .u8 9, .int .i64 sl, .int .i64 0] 33)) := (Below.refl _ _).alloc (Nat.le_refl _) _
  have HO1 := Lib.hid ((OD.start (E := [K, e]) k S.pr hBw).below hBK hbe)
  have HX1 := Lib.hid (show Bk w.heap.size 33 [.int .u8 9, .int .i64 sl, .int .i64 0] (w.alloc (.cells #[.int .u8 9, .int .i64 sl, .int .i64 0] 33)) from Bk.new _ _ _)
  obtain ⟨v0, hr0⟩ := S.pr.ref
  have hX : w.heap.size ≠ K ∧ w.heap.size ≠ p ∧ w.heap.size ≠ b := by
    have h1 := k.lt
    have h2 : p < w.heap.size := (Array.getElem?_eq_some_iff.1 S.pr.prog.blk).1
    have h3 : b < w.heap.size := (Array.getElem?_eq_some_iff.1 hr0.blk).1
    omega
  have c5 : w.cell? ⟨K, 5, none⟩ = some (.int .i64 sl) := k.cell 5
  have HR1 := Lib.hid (show PushD e o (w.alloc (.cells #[.int .u8 9, .int .i64 sl, .int .i64 0] 33)) from by obtain ⟨nn, R0, hR⟩ := R; exact ⟨nn, R0.same (hbe.block e R0.lt), hR⟩)
  have HS1 := Lib.hid (S.below hbe)
  clear R
  clear k S hbe hr0
  go_enter Tryz.func66, Tryz.ntmps66
  go_upto_region 1 with (fail)
  revert HO1 HX1 hX HR1 HS1
  clear c5
  generalize w.alloc (.cells #[.int .u8 9, .int .i64 sl, .int .i64 0] 33) = w1
  generalize w.heap.size = X
  intro HO1 HX1 hX HR1 HS1
  obtain ⟨c0, c1, c2, c3, c4, c5, c6, c7, c8, c9, ca, cb, _⟩ := HO1.out.k.c12
  obtain ⟨x0, x1, x2⟩ := HX1.out.c3
  go_wp2_with fail
  ((with_reducible refine (asHeader24_any pw _ hpw).mono ?_); rintro ee wq ⟨rfl, hwq⟩)
  subst hwq
  rename World => w1
  obtain ⟨nn, L', ha, hu, hst⟩ := push_doc hBm hBe hc HS1.out HR1.out
  have HA := Lib.hid ha
  have HU := Lib.hid hu
  go_wp2_with fail
  (refine hst.mono ?_; rintro ee w2 ⟨rfl, R2, P2, f2⟩)
  have HO2 := Lib.hid (HO1.out.part hn hKe (by simp) P2 f2)
  have HR2 := Lib.hid R2
  have r2 := R2.cells.2.2.1
  clear R2 P2 f2 HO1 ha hu hst c0 c1 c2 c3 c4 c5 c6 c7 c8 c9 ca cb x0 x1 x2 HX1 HR1 HS1
  obtain ⟨c0, c1, c2, c3, c4, c5, c6, c7, c8, c9, ca, cb, _⟩ := HO2.out.k.c12
  go_wp2_with fail
  go_end0
  exact ⟨⟨rfl, _, HA.out, HO2.out⟩, nn, HR2.out, HU.out⟩
set_option maxRecDepth 100000 in
set_option maxHeartbeats 4000000 in
theorem tn_e_end (hBm : B ≤ m) (hc : c ≤ 4900) (S : Say p m b n D L c M w) (k : Bk K 108 (OpC sh 15 er sg lk sl pw bh pp pa (some ⟨e, 0, none⟩) kv) w) (hBK : B ≤ K) (hpw : U64 pw) (hg : 0 ≤ sg ∧ sg < 32) (hsl : 0 ≤ sl ∧ sl < 256) {o : OS} (hBe : B ≤ e) (hKe : K ≠ e) (R : PushD e o w) (hz : (pushX o M).1.nx = 0) :
    Calls Tryz.prog 66 #[.pointer (some ⟨K, 0, none⟩), .pointer (some ⟨b, 0, none⟩)] w fun ee w' => OdS B p m b n c D M.s K [K, e] (NxC sh er sg lk sl pw bh pp pa (some ⟨e, 0, none⟩) kv) (pushX o M).2 w ee w' ∧ PushD e (pushX o M).1 w' := by
  have HZ := Lib.hid hz
  clear hz
  have hn := k.ne_pr S.pr (by decide) (by decide)
  have hBw : B ≤ w.heap.size := Nat.le_trans hBm S.pr.m_le
  have HS := Lib.hid S
  have hbe : Below w.heap.size w (w.alloc (.cells #[.int .u8 9, .int .i64 sl, .int .i64 0] 33)) := (Below.refl _ _).alloc (Nat.le_refl _) _
  have HO1 := Lib.hid ((OD.start (E := [K, e]) k S.pr hBw).below hBK hbe)
  have HX1 := Lib.hid (show Bk w.heap.size 33 [.int .u8 9, .int .i64 sl, .int .i64 0] (w.alloc (.cells #[.int .u8 9, .int .i64 sl, .int .i64 0] 33)) from Bk.new _ _ _)
  obtain ⟨v0, hr0⟩ := S.pr.ref
  have hX : w.heap.size ≠ K ∧ w.heap.size ≠ p ∧ w.heap.size ≠ b := by
    have h1 := k.lt
    have h2 : p < w.heap.size := (Array.getElem?_eq_some_iff.1 S.pr.prog.blk).1
    have h3 : b < w.heap.size := (Array.getElem?_eq_some_iff.1 hr0.blk).1
    omega
  have c5 : w.cell? ⟨K, 5, none⟩ = some (.int .i64 sl) := k.cell 5
  have HR1 := Lib.hid (show PushD e o (w.alloc (.cells #[.int .u8 9, .int .i64 sl, .int .i64 0] 33)) from by obtain ⟨nn, R0, hR⟩ := R; exact ⟨nn, R0.same (hbe.block e R0.lt), hR⟩)
  have HS1 := Lib.hid (S.below hbe)
  clear R
  clear k S hbe hr0
  go_enter Tryz.func66, Tryz.ntmps66
  go_upto_region 1 with (fail)
  revert HO1 HX1 hX HR1 HS1
  clear c5
  generalize w.alloc (.cells #[.int .u8 9, .int .i64 sl, .int .i64 0] 33) = w1
  generalize w.heap.size = X
  intro HO1 HX1 hX HR1 HS1
  obtain ⟨c0, c1, c2, c3, c4, c5, c6, c7, c8, c9, ca, cb, _⟩ := HO1.out.k.c12
  obtain ⟨x0, x1, x2⟩ := HX1.out.c3
  go_wp2_with fail
  ((with_reducible refine (asHeader24_any pw _ hpw).mono ?_); rintro ee wq ⟨rfl, hwq⟩)
  subst hwq
  rename World => w1
  obtain ⟨nn, L', ha, hu, hst⟩ := push_doc hBm hBe hc HS1.out HR1.out
  have HA := Lib.hid ha
  have HU := Lib.hid hu
  go_wp2_with fail
  (refine hst.mono ?_; rintro ee w2 ⟨rfl, R2, P2, f2⟩)
  have HO2 := Lib.hid (HO1.out.part hn hKe (by simp) P2 f2)
  have HR2 := Lib.hid R2
  have r2 := R2.cells.2.2.1
  clear R2 P2 f2 HO1 ha hu hst c0 c1 c2 c3 c4 c5 c6 c7 c8 c9 ca cb x0 x1 x2 HX1 HR1 HS1
  obtain ⟨c0, c1, c2, c3, c4, c5, c6, c7, c8, c9, ca, cb, _⟩ := HO2.out.k.c12
  rw [HZ.out] at r2
  go_wp2_with fail
  ((with_reducible refine (op_next_any HO2.out.k hg hsl).mono ?_); rintro ee w9 ⟨rfl, k9, o9⟩)
  have HO9 := Lib.hid (HO2.out.only hBK (by simp) hn k9 o9)
  have HR9 := Lib.hid (HR2.out.same (o9.block e HR2.out.lt (Ne.symm hKe) (Ne.symm hKe)))
  clear k9 o9
  go_wp2_with fail
  go_end0
  exact ⟨⟨rfl, _, HA.out, HO9.out⟩, nn, HR9.out, HU.out⟩
end
end Go.Proofs.YtmjcbjcnmgleaaaGreatDoor
