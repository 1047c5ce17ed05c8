/-
  A step of the law's operation of layer 12, of both: they are one; condition: both memories lie as they say and say the same, the operation and the document's as they say.
-/
import Derived.Test.YtjpanofkikfeoaaDoorOD4
import Derived.Test.YtjpanofkikfeoaaDoorD6
import Derived.Test.YtjpanofkikfeoaaDoorOE2
import Derived.Deep.DeepCutAuto
namespace Go.Proofs.YtjpanofkikfeoaaDoor
open Go.RowKit Go.Maps

section
variable {B p m b c n : Nat} {x x' : JO} {o : OG} {q : Nat} {D : DataW Unit} {s : Acc8} {L : List (Ad × Int)} {w w' : World}
theorem Both.below (h : Both p m b c w) (hb : Below w.heap.size w w') : Both p m b c w' := by
  obtain ⟨n, D, s, L, hP, h2⟩ := h
  exact ⟨n, D, s, L, hP.below hb, h2⟩
theorem Both.mono {c' : Nat} (h : Both p m b c w) (hc : c ≤ c') : Both p m b c' w := by
  obtain ⟨n, D, s, L, hP, hr, h2, h3, h4, h5⟩ := h
  exact ⟨n, D, s, L, hP, hr, by omega, h3, h4, by omega⟩
theorem both_same (h : Both p m b c w) : Calls Tryd.prog 13 #[.agg #[.pointer (some ⟨p, 0, none⟩), .pointer (some ⟨b, 0, none⟩)]] w fun e W' => e = .returned (.bool true) ∧ Below w.heap.size w W' := by
  obtain ⟨n, D, s, L, hP, _⟩ := h
  exact pair_same hP
/-- A block of a type that no operation has. -/
def isBx (t : TypeId) : Bool := t == 27 || t == 42
theorem isBx_no {t : TypeId} (h : isBx t = true) : okT t = false ∧ t ≠ 125 ∧ t ≠ 92 ∧ t ≠ 85 := by
  simp only [isBx, Bool.or_eq_true, beq_iff_eq] at h
  rcases h with rfl | rfl <;> decide
theorem fxl_box {E : List Nat} {z : Nat} {t : TypeId} {cs : List Value} (f : FxL B p b E w w') (h : Both p m b c w) (ho : ∀ y ∈ E, OwnX B y w) (hz : Bq z t cs w) (ht : isBx t = true) : Bq z t cs w' := by
  obtain ⟨n, D, s, L, hP, _⟩ := h
  obtain ⟨⟨cp, kp⟩, ⟨cb, kb⟩, _⟩ := Pr.blocks (M := ⟨vals L, s⟩) hP
  obtain ⟨t1, t3, t4, t5⟩ := isBx_no ht
  exact f.far z _ _ _ hz t3 (hz.ne kp t4) (hz.ne kb t5) fun hx => (ho z hx).ne hz t1 rfl
theorem Bq.cells2 {z : Nat} {t : TypeId} {u v : Value} (k : Bq z t [u, v] w) : w.cell? ⟨z, 0, none⟩ = some u ∧ w.cell? ⟨z, 1, none⟩ = some v := ⟨k.cell 0, k.cell 1⟩
theorem Bq.cells3 {z : Nat} {t : TypeId} {v0 v1 v2 : Value} (k : Bq z t [v0, v1, v2] w) : w.cell? ⟨z, 0, none⟩ = some v0 ∧ w.cell? ⟨z, 1, none⟩ = some v1 ∧ w.cell? ⟨z, 2, none⟩ = some v2 := ⟨k.cell 0, k.cell 1, k.cell 2⟩
/-- What a step of an operation of the law's leaves. -/
def StepM (B p m b c : Nat) (x : JO) (o' : OG) (M' : MV) (w : World) (e : Ending) (w' : World) : Prop := e = .returned (.bool true) ∧ FxL B p b x.fp w w' ∧ BothM p m b (c + 1) M' w' ∧ ∃ x', x.sub x' w.heap.size ∧ JOk B x' o' w'
def StepS (B p m b c : Nat) (x : JO) (w : World) (e : Ending) (w' : World) : Prop := e = .returned (.bool true) ∧ FxL B p b x.fp w w' ∧ Both p m b (c + 1) w' ∧ ∃ x', x.sub x' w.heap.size ∧ JAt B x' w'
theorem StepM.toS {x : JO} {o' : OG} {M' : MV} {e : Ending} (h : StepM B p m b c x o' M' w e w') : StepS B p m b c x w e w' := by
  obtain ⟨h1, h2, h3, x', h4, h5⟩ := h
  exact ⟨h1, h2, h3.both, x', h4, o', h5⟩
theorem JOk.kdb0 {x : JO} (hk : x.kd = 0) : (x.kd == 1) = false := by rw [hk]; rfl
theorem JOk.kdb1 {x : JO} (hk : x.kd = 1) : (x.kd == 1) = true := by rw [hk]; rfl
theorem JOk.go {x x' : JO} {o' : OG} {w1 w2 : World} (hs : x.sub x' w.heap.size) (J : JOk B x' o' w1) (hb : Below w1.heap.size w1 w2) : ∃ x', x.sub x' w.heap.size ∧ JAt B x' w2 := ⟨x', hs, o', J.below hb⟩
/-- What the document took, as it lies. -/
theorem JOk.gotD {x : JO} (J : JOk B x o w) : ∃ A k, w.cell? ⟨x.K, 1, none⟩ = some (.slice A o.got.length k) ∧ SeeE w (.slice A o.got.length k) o.got := by
  obtain ⟨vg, vv, k, rw_, _⟩ := J.doc
  obtain ⟨A, kk, rfl, _⟩ := rw_.g.slice
  exact ⟨A, kk, k.c12.2.1, rw_.g.see⟩
theorem held3_below {a b' c' : Addr} {u v z : Value} (h : w.cell? a = some u ∧ w.cell? b' = some v ∧ w.cell? c' = some z) (hb : Below w.heap.size w w') : w'.cell? a = some u ∧ w'.cell? b' = some v ∧ w'.cell? c' = some z :=
  ⟨(hb.cell (World.block_lt_of_cell? w _ h.1)).trans h.1, (hb.cell (World.block_lt_of_cell? w _ h.2.1)).trans h.2.1, (hb.cell (World.block_lt_of_cell? w _ h.2.2)).trans h.2.2⟩
set_option maxRecDepth 100000 in
set_option maxHeartbeats 4000000 in
theorem op_give {x : JO} {M : MV} (hB : 1 < B) (hBm : B ≤ m) (hBw : B ≤ w.heap.size) (hc : c ≤ 4900) (hb : BothM p m b c M w) (hl : Lay w) (hlm : LayM w) (J : JOk B x o w) (hkd : x.kd = 0) :
    Calls Tryd.prog 12 #[.agg #[.pointer (some ⟨x.q, 0, none⟩), .pointer none, .pointer (some ⟨x.K, 0, none⟩)], .agg #[.pointer (some ⟨p, 0, none⟩), .pointer (some ⟨b, 0, none⟩)]] w (StepM B p m b c x (oX o M).1 (oX o M).2 w) := by
  have hX : Below w.heap.size w ((w.alloc (.cells #[.pointer (some ⟨x.q, 0, none⟩), .pointer none, .pointer (some ⟨x.K, 0, none⟩)] 42)).alloc (.cells #[.pointer (some ⟨p, 0, none⟩), .pointer (some ⟨b, 0, none⟩)] 27)) := ((Below.refl _ _).alloc (Nat.le_refl _) _).alloc (by simp) _
  have k1 : Bq w.heap.size 42 [.pointer (some ⟨x.q, 0, none⟩), .pointer none, .pointer (some ⟨x.K, 0, none⟩)] ((w.alloc (.cells #[.pointer (some ⟨x.q, 0, none⟩), .pointer none, .pointer (some ⟨x.K, 0, none⟩)] 42)).alloc (.cells #[.pointer (some ⟨p, 0, none⟩), .pointer (some ⟨b, 0, none⟩)] 27)) := (Bq.new w [.pointer (some ⟨x.q, 0, none⟩), .pointer none, .pointer (some ⟨x.K, 0, none⟩)] _).below ((Below.refl _ _).alloc (by simp) _)
  have k2 : Bq (w.heap.size + 1) 27 [.pointer (some ⟨p, 0, none⟩), .pointer (some ⟨b, 0, none⟩)] ((w.alloc (.cells #[.pointer (some ⟨x.q, 0, none⟩), .pointer none, .pointer (some ⟨x.K, 0, none⟩)] 42)).alloc (.cells #[.pointer (some ⟨p, 0, none⟩), .pointer (some ⟨b, 0, none⟩)] 27)) := by
    have := Bq.new (w.alloc (.cells #[.pointer (some ⟨x.q, 0, none⟩), .pointer none, .pointer (some ⟨x.K, 0, none⟩)] 42)) [.pointer (some ⟨p, 0, none⟩), .pointer (some ⟨b, 0, none⟩)] 27
    simpa using this
  have HJ := Lib.hid (J.below hX)
  have HB := Lib.hid (hb.below hX)
  have HX := Lib.hid (show FxL B p b x.fp w _ from .of_below hX hBw)
  have HL := Lib.hid (hl.below hX)
  have HM := Lib.hid (hlm.below hX)
  have HS := Lib.hid hX.size
  have HKa := Lib.hid k1
  have HKb := Lib.hid k2
  have HKD := Lib.hid hkd
  generalize hO : oX o M = O'
  obtain ⟨o', M'⟩ := O'
  have HOX := Lib.hid hO
  clear hO
  clear J hb hl hlm hX k1 k2
  go_enter Tryd.func12, Tryd.ntmps12
  go_upto_region 1 with (fail)
  revert HJ HB HX HL HM HS HKa HKb
  generalize ((w.alloc (.cells #[.pointer (some ⟨x.q, 0, none⟩), .pointer none, .pointer (some ⟨x.K, 0, none⟩)] 42)).alloc (.cells #[.pointer (some ⟨p, 0, none⟩), .pointer (some ⟨b, 0, none⟩)] 27)) = w0
  intro HJ HB HX HL HM HS HKa HKb
  obtain ⟨d0, d1, d2⟩ := HKa.out.cells3
  obtain ⟨t0, t1⟩ := HKb.out.cells2
  have hj := joint hB hBm hc HB.out HL.out HM.out HJ.out
  rw [HOX.out] at hj
  dsimp only at hj
  go_wp2_with fail
  ((with_reducible refine hj.mono ?_); rintro ee w1 ⟨rfl, f1, c1, hstep⟩)
  have k1 := fxl_box f1 HB.out.both HJ.out.own HKa.out (by decide)
  have k2 := fxl_box f1 HB.out.both HJ.out.own HKb.out (by decide)
  clear hj f1 d0 d1 d2 t0 t1
  obtain ⟨d0, d1, d2⟩ := k1.cells3
  obtain ⟨t0, t1⟩ := k2.cells2
  rw [JOk.kdb0 hkd] at hstep
  have hst := hstep w1 (Below.refl _ w1)
  rw [show fnO false = 25 from rfl] at hst
  clear hstep k1 k2
  unfold JDone at hst
  have HOWN := Lib.hid HJ.out.own
  cases hz : (o'.ln == 0)
  · have hz1 := hz
    skip
    have hzb : (o'.ln == 0) = false := hz1
    rw [hzb] at hst
    go_wp2_with fail
    ((with_reducible refine hst.mono ?_); rintro ee w2 ⟨rfl, f2, b2, ⟨kd', q', K', P', R'⟩, hsub, J2⟩)
    have hk1 : kd' = x.kd := hsub.1
    have hk2 : q' = x.q := hsub.2.1
    have hk3 : K' = x.K := hsub.2.2.1
    subst hk1 hk2 hk3
    have k1 := fxl_box f2 HB.out.both HOWN.out HKa.out rfl
    have hov := overG_all J2.num (JOk.kdb0 (x := ⟨x.kd, x.q, x.K, P', R'⟩) HKD.out ▸ J2.prg)
    rw [hzb] at hov
    have HF2 := Lib.hid f2
    have HB2 := Lib.hid b2
    have HJ2 := Lib.hid J2
    have HSUB := Lib.hid hsub
    clear f2 b2 J2 hsub d0 d1 d2 t0 t1 c1 hst
    obtain ⟨d0, d1, d2⟩ := k1.cells3
    clear k1
    go_wp2_with fail
    ((with_reducible refine hov.mono ?_); rintro e4 w4 ⟨rfl, hw4⟩)
    subst hw4
    go_wp2_with fail
    go_ret
    exact ⟨rfl, HX.out.trans HF2.out, HB2.out, ⟨x.kd, x.q, x.K, P', R'⟩, ⟨rfl, rfl, rfl, fun y hy => (HSUB.out.2.2.2 y hy).imp id fun k => by have := HS.out; omega⟩, HJ2.out⟩
  · replace hz : o'.ln = 0 := by simpa using hz
    rw [hz] at c1
    have hzb : (o'.ln == 0) = true := by rw [hz]; rfl
    rw [hzb] at hst
    go_wp2_with fail
    ((with_reducible refine hst.mono ?_); rintro ee w2 ⟨rfl, f2, b2, ⟨kd', q', K', P', R'⟩, hsub, J2⟩)
    have hk1 : kd' = x.kd := hsub.1
    have hk2 : q' = x.q := hsub.2.1
    have hk3 : K' = x.K := hsub.2.2.1
    subst hk1 hk2 hk3
    have k1 := fxl_box f2 HB.out.both HOWN.out HKa.out rfl
    have hov := overG_all J2.num (JOk.kdb0 (x := ⟨x.kd, x.q, x.K, P', R'⟩) HKD.out ▸ J2.prg)
    rw [hzb] at hov
    have HF2 := Lib.hid f2
    have HB2 := Lib.hid b2
    have HJ2 := Lib.hid J2
    have HSUB := Lib.hid hsub
    clear f2 b2 J2 hsub d0 d1 d2 t0 t1 c1 hst
    obtain ⟨d0, d1, d2⟩ := k1.cells3
    clear k1
    go_wp2_with fail
    ((with_reducible refine hov.mono ?_); rintro e4 w4 ⟨rfl, hw4⟩)
    subst hw4
    go_wp2_with fail
    go_ret
    exact ⟨rfl, HX.out.trans HF2.out, HB2.out, ⟨x.kd, x.q, x.K, P', R'⟩, ⟨rfl, rfl, rfl, fun y hy => (HSUB.out.2.2.2 y hy).imp id fun k => by have := HS.out; omega⟩, HJ2.out⟩
set_option maxRecDepth 100000 in
set_option maxHeartbeats 4000000 in
theorem op_take {x : JO} {M : MV} (hB : 1 < B) (hBm : B ≤ m) (hBw : B ≤ w.heap.size) (hc : c ≤ 4900) (hb : BothM p m b c M w) (hl : Lay w) (hlm : LayM w) (J : JOk B x o w) (hkd : x.kd = 1) :
    Calls Tryd.prog 12 #[.agg #[.pointer none, .pointer (some ⟨x.q, 0, none⟩), .pointer (some ⟨x.K, 0, none⟩)], .agg #[.pointer (some ⟨p, 0, none⟩), .pointer (some ⟨b, 0, none⟩)]] w (StepM B p m b c x (oX o M).1 (oX o M).2 w) := by
  have hX : Below w.heap.size w ((w.alloc (.cells #[.pointer none, .pointer (some ⟨x.q, 0, none⟩), .pointer (some ⟨x.K, 0, none⟩)] 42)).alloc (.cells #[.pointer (some ⟨p, 0, none⟩), .pointer (some ⟨b, 0, none⟩)] 27)) := ((Below.refl _ _).alloc (Nat.le_refl _) _).alloc (by simp) _
  have k1 : Bq w.heap.size 42 [.pointer none, .pointer (some ⟨x.q, 0, none⟩), .pointer (some ⟨x.K, 0, none⟩)] ((w.alloc (.cells #[.pointer none, .pointer (some ⟨x.q, 0, none⟩), .pointer (some ⟨x.K, 0, none⟩)] 42)).alloc (.cells #[.pointer (some ⟨p, 0, none⟩), .pointer (some ⟨b, 0, none⟩)] 27)) := (Bq.new w [.pointer none, .pointer (some ⟨x.q, 0, none⟩), .pointer (some ⟨x.K, 0, none⟩)] _).below ((Below.refl _ _).alloc (by simp) _)
  have k2 : Bq (w.heap.size + 1) 27 [.pointer (some ⟨p, 0, none⟩), .pointer (some ⟨b, 0, none⟩)] ((w.alloc (.cells #[.pointer none, .pointer (some ⟨x.q, 0, none⟩), .pointer (some ⟨x.K, 0, none⟩)] 42)).alloc (.cells #[.pointer (some ⟨p, 0, none⟩), .pointer (some ⟨b, 0, none⟩)] 27)) := by
    have := Bq.new (w.alloc (.cells #[.pointer none, .pointer (some ⟨x.q, 0, none⟩), .pointer (some ⟨x.K, 0, none⟩)] 42)) [.pointer (some ⟨p, 0, none⟩), .pointer (some ⟨b, 0, none⟩)] 27
    simpa using this
  have HJ := Lib.hid (J.below hX)
  have HB := Lib.hid (hb.below hX)
  have HX := Lib.hid (show FxL B p b x.fp w _ from .of_below hX hBw)
  have HL := Lib.hid (hl.below hX)
  have HM := Lib.hid (hlm.below hX)
  have HS := Lib.hid hX.size
  have HKa := Lib.hid k1
  have HKb := Lib.hid k2
  have HKD := Lib.hid hkd
  generalize hO : oX o M = O'
  obtain ⟨o', M'⟩ := O'
  have HOX := Lib.hid hO
  clear hO
  clear J hb hl hlm hX k1 k2
  go_enter Tryd.func12, Tryd.ntmps12
  go_upto_region 1 with (fail)
  revert HJ HB HX HL HM HS HKa HKb
  generalize ((w.alloc (.cells #[.pointer none, .pointer (some ⟨x.q, 0, none⟩), .pointer (some ⟨x.K, 0, none⟩)] 42)).alloc (.cells #[.pointer (some ⟨p, 0, none⟩), .pointer (some ⟨b, 0, none⟩)] 27)) = w0
  intro HJ HB HX HL HM HS HKa HKb
  obtain ⟨d0, d1, d2⟩ := HKa.out.cells3
  obtain ⟨t0, t1⟩ := HKb.out.cells2
  have hj := joint hB hBm hc HB.out HL.out HM.out HJ.out
  rw [HOX.out] at hj
  dsimp only at hj
  go_wp2_with fail
  ((with_reducible refine hj.mono ?_); rintro ee w1 ⟨rfl, f1, c1, hstep⟩)
  have k1 := fxl_box f1 HB.out.both HJ.out.own HKa.out (by decide)
  have k2 := fxl_box f1 HB.out.both HJ.out.own HKb.out (by decide)
  clear hj f1 d0 d1 d2 t0 t1
  obtain ⟨d0, d1, d2⟩ := k1.cells3
  obtain ⟨t0, t1⟩ := k2.cells2
  rw [JOk.kdb1 hkd] at hstep
  have hst := hstep w1 (Below.refl _ w1)
  rw [show fnO true = 19 from rfl] at hst
  clear hstep k1 k2
  unfold JDone at hst
  have HOWN := Lib.hid HJ.out.own
  cases hz : (o'.ln == 0)
  · have hz1 := hz
    skip
    have hzb : (o'.ln == 0) = false := hz1
    have hzi : (if o'.ln = 0 then o'.got else []) = [] := if_neg (by simpa using hz1)
    rw [hzb] at hst
    go_wp2_with fail
    ((with_reducible refine hst.mono ?_); rintro ee w2 ⟨rfl, f2, b2, ⟨kd', q', K', P', R'⟩, hsub, J2⟩)
    have hk1 : kd' = x.kd := hsub.1
    have hk2 : q' = x.q := hsub.2.1
    have hk3 : K' = x.K := hsub.2.2.1
    subst hk1 hk2 hk3
    have k1 := fxl_box f2 HB.out.both HOWN.out HKa.out rfl
    have hprg := (JOk.kdb1 (x := ⟨x.kd, x.q, x.K, P', R'⟩) HKD.out ▸ J2.prg)
    have hov := overT_all J2.num hprg
    have hgt := gotT_all J2.num hprg
    rw [hzb] at hov
    rw [hzi] at hgt
    have HF2 := Lib.hid f2
    have HB2 := Lib.hid b2
    have HJ2 := Lib.hid J2
    have HSUB := Lib.hid hsub
    have HK1 := Lib.hid k1
    have HGT := Lib.hid hgt
    clear f2 b2 J2 hsub d0 d1 d2 t0 t1 c1 hst hprg hgt
    obtain ⟨d0, d1, d2⟩ := k1.cells3
    clear k1
    go_wp2_with fail
    ((with_reducible refine hov.mono ?_); rintro e4 w4 ⟨rfl, hw4⟩)
    subst hw4
    go_wp2_with fail
    ((with_reducible refine HGT.out.mono ?_); rintro e5 w5 ⟨A5, k5, xs5, hx5, rfl, hO5, hb5⟩)
    subst hx5
    have HB5 := Lib.hid hb5
    clear hO5 hb5 hov
    go_wp2_with fail
    go_ret
    exact ⟨rfl, (HX.out.trans HF2.out).trans (.of_below HB5.out (by have := HF2.out.low.size; have := HS.out; omega)), HB2.out.below HB5.out, ⟨x.kd, x.q, x.K, P', R'⟩, ⟨rfl, rfl, rfl, fun y hy => (HSUB.out.2.2.2 y hy).imp id fun k => by have := HS.out; omega⟩, HJ2.out.below HB5.out⟩
  · replace hz : o'.ln = 0 := by simpa using hz
    rw [hz] at c1
    have hzb : (o'.ln == 0) = true := by rw [hz]; rfl
    have hzi : (if o'.ln = 0 then o'.got else []) = o'.got := if_pos hz
    rw [hzb] at hst
    go_wp2_with fail
    ((with_reducible refine hst.mono ?_); rintro ee w2 ⟨rfl, f2, b2, ⟨kd', q', K', P', R'⟩, hsub, J2⟩)
    have hk1 : kd' = x.kd := hsub.1
    have hk2 : q' = x.q := hsub.2.1
    have hk3 : K' = x.K := hsub.2.2.1
    subst hk1 hk2 hk3
    have k1 := fxl_box f2 HB.out.both HOWN.out HKa.out rfl
    have hprg := (JOk.kdb1 (x := ⟨x.kd, x.q, x.K, P', R'⟩) HKD.out ▸ J2.prg)
    have hov := overT_all J2.num hprg
    have hgt := gotT_all J2.num hprg
    rw [hzb] at hov
    rw [hzi] at hgt
    have HF2 := Lib.hid f2
    have HB2 := Lib.hid b2
    have HJ2 := Lib.hid J2
    have HSUB := Lib.hid hsub
    have HK1 := Lib.hid k1
    have HGT := Lib.hid hgt
    clear f2 b2 J2 hsub d0 d1 d2 t0 t1 c1 hst hprg hgt
    obtain ⟨d0, d1, d2⟩ := k1.cells3
    clear k1
    go_wp2_with fail
    ((with_reducible refine hov.mono ?_); rintro e4 w4 ⟨rfl, hw4⟩)
    subst hw4
    go_wp2_with fail
    ((with_reducible refine HGT.out.mono ?_); rintro e5 w5 ⟨A5, k5, xs5, hx5, rfl, hO5, hb5⟩)
    subst hx5
    have HJ5 := Lib.hid (HJ2.out.below hb5)
    have HO5 := Lib.hid hO5
    have HB5 := Lib.hid hb5
    obtain ⟨Ag, kg, cg, sg⟩ := HJ5.out.gotD
    have hk5 := HK1.out.below hb5
    have hsame := same_any hO5.see sg (show o'.got.length < 100000 from by have := HJ5.out.num; have := (this.tk (HJ5.out.prg.kt (JOk.kdb1 (x := ⟨x.kd, x.q, x.K, P', R'⟩) HKD.out))).2.1; omega)
    rw [decide_eq_true rfl] at hsame
    clear hO5 hb5 hov d0 d1 d2 sg
    obtain ⟨d0, d1, d2⟩ := hk5.cells3
    have HK5 := Lib.hid hk5
    clear hk5
    dsimp only at cg
    go_wp2_with fail
    ((with_reducible refine hsame.mono ?_); rintro e6 w6 ⟨rfl, hb6⟩)
    have HB6 := Lib.hid hb6
    have hsp := spoil_any (HO5.out.below hb6)
    clear hsame hb6 cg d0 d1 d2
    go_wp2_with fail
    ((with_reducible refine hsp.mono ?_); rintro e7 w7 ⟨rfl, hb7⟩)
    have HB7 := Lib.hid (HB5.out.trans ((HB6.out.mono HB5.out.size).trans hb7))
    have HJ7 := Lib.hid (HJ2.out.below HB7.out)
    have hk7 := HK1.out.below HB7.out
    obtain ⟨d0, d1, d2⟩ := hk7.cells3
    have HK7 := Lib.hid (hk7.below (Below.refl _ w7).drew)
    obtain ⟨Ag, kg, cg, sg⟩ := HJ7.out.gotD
    have HJD := Lib.hid (HJ7.out.below (Below.refl _ w7).drew)
    have hlen : o'.got.length < 100000 := by have := HJ7.out.num; have := (this.tk (HJ7.out.prg.kt (JOk.kdb1 (x := ⟨x.kd, x.q, x.K, P', R'⟩) HKD.out))).2.1; omega
    have HLEN := Lib.hid hlen
    have hgt7 := gotT_all HJD.out.num (JOk.kdb1 (x := ⟨x.kd, x.q, x.K, P', R'⟩) HKD.out ▸ HJD.out.prg)
    rw [hzi] at hgt7
    dsimp only at cg
    have HSG := Lib.hid (sg.below (Below.refl _ w7).drew)
    have hs0 := Lib.hid (show w7.drew.cell? ⟨w.heap.size, 1, none⟩ = some (.pointer (some ⟨x.q, 0, none⟩)) ∧ w7.drew.cell? ⟨w.heap.size, 2, none⟩ = some (.pointer (some ⟨x.K, 0, none⟩)) ∧ w7.drew.cell? ⟨x.K, 1, none⟩ = some (.slice Ag o'.got.length kg) from ⟨HK7.out.cell 1, HK7.out.cell 2, cg⟩)
    clear hsp hb7 hk7 sg cg hlen
    go_wp2_with fail
    clear d0 d1 d2
    go_region_held3 (fun w9 => w9.cell? ⟨w.heap.size, 1, none⟩ = some (.pointer (some ⟨x.q, 0, none⟩)) ∧ w9.cell? ⟨w.heap.size, 2, none⟩ = some (.pointer (some ⟨x.K, 0, none⟩)) ∧ w9.cell? ⟨x.K, 1, none⟩ = some (.slice Ag o'.got.length kg))
      (first | exact hs0.out | exact hs1.out | exact hs2.out | fail)
      (first
        | (go_at_call 15; (with_reducible refine hgt7.mono ?_); rintro e8 w8 ⟨A8, k8, xs8, hx8, rfl, hO8, hb8⟩; subst hx8; have HO8 := Lib.hid hO8; have HB8 := Lib.hid hb8; have hs1 := Lib.hid (held3_below hs0.out hb8); have hsame := (same_any hO8.see (HSG.out.below hb8) HLEN.out); rw [decide_eq_true rfl] at hsame; have HSAME := Lib.hid hsame; clear hO8 hb8 hsame)
        | (go_at_call 22; (with_reducible refine HSAME.out.mono ?_); rintro e9 w9 ⟨rfl, hb9⟩; have HB9 := Lib.hid (HB7.out.trans (((Below.refl _ w7).drew.trans ((HB8.out.mono (Nat.le_refl _)).trans (hb9.mono HB8.out.size))).mono HB7.out.size)); have hs2 := Lib.hid (held3_below hs1.out hb9); clear hb9)
        | fail)
    all_goals
      go_wp2_with fail
      go_ret
      exact ⟨rfl, (HX.out.trans HF2.out).trans (.of_below HB9.out (by have := HF2.out.low.size; have := HS.out; omega)), HB2.out.below HB9.out, ⟨x.kd, x.q, x.K, P', R'⟩, ⟨rfl, rfl, rfl, fun y hy => (HSUB.out.2.2.2 y hy).imp id fun k => by have := HS.out; omega⟩, HJ2.out.below HB9.out⟩
end
end Go.Proofs.YtjpanofkikfeoaaDoor
