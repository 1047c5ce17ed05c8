/-
  A step of the law's operation of layer 10, of both: they are one; condition: both memories lie as they say and say the same, the operation and the document's as they say.
-/
import Derived.Test.YtodfjnpnfalioaaGreatDoorTD1
import Derived.Test.YtodfjnpnfalioaaGreatDoorD6
import Derived.Deep.DeepCutAuto
namespace Go.Proofs.YtodfjnpnfalioaaGreatDoor
open Go.RowKit Go.Maps

section
variable {B p m b c n : Nat} {x x' : JO} {o : TO} {q : Nat} {D : DataW Unit} {s : Acc8} {L : List (Ad × Int)} {w w' : World}
theorem Both.below (h : Both p m b c w) (hb : Below w.heap.size w w') : Both p m b c w' := by
  obtain ⟨n, D, s, L, hP, h2⟩ := h
  exact ⟨n, D, s, L, hP.below hb, h2⟩
theorem Both.mono {c' : Nat} (h : Both p m b c w) (hc : c ≤ c') : Both p m b c' w := by
  obtain ⟨n, D, s, L, hP, hr, h2, h3, h4, h5⟩ := h
  exact ⟨n, D, s, L, hP, hr, by omega, h3, h4, by omega⟩
theorem both_same (h : Both p m b c w) : Calls Tryz.prog 12 #[.agg #[.pointer (some ⟨p, 0, none⟩), .pointer (some ⟨b, 0, none⟩)]] w fun e W' => e = .returned (.bool true) ∧ Below w.heap.size w W' := by
  obtain ⟨n, D, s, L, hP, _⟩ := h
  exact pair_same hP
/-- A block of a type that no operation has. -/
def isBx (t : TypeId) : Bool := t == 28 || t == 45 || t == 38
theorem isBx_no {t : TypeId} (h : isBx t = true) : okT t = false ∧ t ≠ 87 ∧ t ≠ 90 ∧ t ≠ 65 := by
  simp only [isBx, Bool.or_eq_true, beq_iff_eq] at h
  rcases h with (rfl | rfl) | rfl <;> decide
theorem fxl_box {E : List Nat} {z : Nat} {t : TypeId} {cs : List Value} (f : FxL B p b E w w') (h : Both p m b c w) (ho : ∀ y ∈ E, OwnX B y w) (hz : Bq z t cs w) (ht : isBx t = true) : Bq z t cs w' := by
  obtain ⟨n, D, s, L, hP, _⟩ := h
  obtain ⟨⟨cp, kp⟩, ⟨cb, kb⟩, _⟩ := Pr.blocks (M := ⟨vals L, s⟩) hP
  obtain ⟨t1, t3, t4, t5⟩ := isBx_no ht
  exact f.far z _ _ _ hz t3 (hz.ne kp t4) (hz.ne kb t5) fun hx => (ho z hx).ne hz t1 rfl
theorem Bq.cells2 {z : Nat} {t : TypeId} {u v : Value} (k : Bq z t [u, v] w) : w.cell? ⟨z, 0, none⟩ = some u ∧ w.cell? ⟨z, 1, none⟩ = some v := ⟨k.cell 0, k.cell 1⟩
theorem Bq.cells3 {z : Nat} {t : TypeId} {v0 v1 v2 : Value} (k : Bq z t [v0, v1, v2] w) : w.cell? ⟨z, 0, none⟩ = some v0 ∧ w.cell? ⟨z, 1, none⟩ = some v1 ∧ w.cell? ⟨z, 2, none⟩ = some v2 := ⟨k.cell 0, k.cell 1, k.cell 2⟩
/-- What a step of an operation of the law's leaves. -/
def StepS (B p m b c : Nat) (x : JO) (w : World) (e : Ending) (w' : World) : Prop := e = .returned (.bool true) ∧ FxL B p b x.fp w w' ∧ Both p m b (c + 1) w' ∧ ∃ x', x.sub x' w.heap.size ∧ JAt B x' w'
theorem held_L {X q K p b : Nat} {e : Value} (ka : Bq X 45 [.pointer none, .pointer (some ⟨q, 0, none⟩), .pointer (some ⟨K, 0, none⟩)] w) (kb : Bq (X + 1) 28 [.pointer (some ⟨p, 0, none⟩), .pointer (some ⟨b, 0, none⟩)] w) (h : w.cell? ⟨K, 3, none⟩ = some e) :
    w.cell? ⟨X, 1, none⟩ = some (.pointer (some ⟨q, 0, none⟩)) ∧ w.cell? ⟨X, 2, none⟩ = some (.pointer (some ⟨K, 0, none⟩)) ∧ w.cell? ⟨X + 1, 0, none⟩ = some (.pointer (some ⟨p, 0, none⟩)) ∧ w.cell? ⟨X + 1, 1, none⟩ = some (.pointer (some ⟨b, 0, none⟩)) ∧ w.cell? ⟨K, 3, none⟩ = some e :=
  ⟨ka.cell 1, ka.cell 2, kb.cell 0, kb.cell 1, h⟩
theorem lv_of (J : JBk B x o w) (hk : x.kd = 1) : o.lv = true := by
  rcases J.2.1 with h | h
  · omega
  · exact h.2
theorem jn_of (J : JBk B x o w) (hk : x.kd = 0) : o.lv = false := by
  rcases J.2.1 with h | h
  · exact h.2
  · omega
theorem jl_over (J : JBk B x o w) (hk : x.kd = 1) : Calls Tryz.prog 24 #[.pointer (some ⟨x.q, 0, none⟩)] w fun e w' => e = .returned (.bool (o.ln == 0)) ∧ w' = w := overL_any J.1 (lv_of J hk) J.2.2.1
theorem jl_got (J : JBk B x o w) (hk : x.kd = 1) : Calls Tryz.prog 25 #[.pointer (some ⟨x.q, 0, none⟩)] w fun e w' => e = .returned (.int .i64 o.e) ∧ w' = w := gotL_any J.1 (lv_of J hk) J.2.2.1
theorem jl_e (J : JBk B x o w) : w.cell? ⟨x.K, 3, none⟩ = some (.int .i64 o.e) := J.2.2.2.1.c9.2.2.2.1
set_option maxRecDepth 100000 in
set_option maxHeartbeats 4000000 in
theorem op_join (hB : 1 < B) (hBm : B ≤ m) (hBw : B ≤ w.heap.size) (hc : c ≤ 900) (hb : Both p m b c w) (hl : Lay w) (hlm : LayM w) (J : JBk B x o w) (hkd : x.kd = 0) :
    Calls Tryz.prog 11 #[.agg #[.pointer (some ⟨x.q, 0, none⟩), .pointer none, .pointer (some ⟨x.K, 0, none⟩)], .agg #[.pointer (some ⟨p, 0, none⟩), .pointer (some ⟨b, 0, none⟩)]] w (StepS B p m b c x w) := by
  have hX : Below w.heap.size w ((w.alloc (.cells #[.pointer (some ⟨x.q, 0, none⟩), .pointer none, .pointer (some ⟨x.K, 0, none⟩)] 45)).alloc (.cells #[.pointer (some ⟨p, 0, none⟩), .pointer (some ⟨b, 0, none⟩)] 28)) := ((Below.refl _ _).alloc (Nat.le_refl _) _).alloc (by simp) _
  have k1 : Bq w.heap.size 45 [.pointer (some ⟨x.q, 0, none⟩), .pointer none, .pointer (some ⟨x.K, 0, none⟩)] ((w.alloc (.cells #[.pointer (some ⟨x.q, 0, none⟩), .pointer none, .pointer (some ⟨x.K, 0, none⟩)] 45)).alloc (.cells #[.pointer (some ⟨p, 0, none⟩), .pointer (some ⟨b, 0, none⟩)] 28)) := (Bq.new w [.pointer (some ⟨x.q, 0, none⟩), .pointer none, .pointer (some ⟨x.K, 0, none⟩)] _).below ((Below.refl _ _).alloc (by simp) _)
  have k2 : Bq (w.heap.size + 1) 28 [.pointer (some ⟨p, 0, none⟩), .pointer (some ⟨b, 0, none⟩)] ((w.alloc (.cells #[.pointer (some ⟨x.q, 0, none⟩), .pointer none, .pointer (some ⟨x.K, 0, none⟩)] 45)).alloc (.cells #[.pointer (some ⟨p, 0, none⟩), .pointer (some ⟨b, 0, none⟩)] 28)) := by
    have := Bq.new (w.alloc (.cells #[.pointer (some ⟨x.q, 0, none⟩), .pointer none, .pointer (some ⟨x.K, 0, none⟩)] 45)) [.pointer (some ⟨p, 0, none⟩), .pointer (some ⟨b, 0, none⟩)] 28
    simpa using this
  have HJ := Lib.hid (J.below hX)
  have HB := Lib.hid (hb.below hX)
  have HX := Lib.hid (show FxL B p b x.fp w _ from .of_below hX hBw)
  have HL := Lib.hid (hl.below hX)
  have HM := Lib.hid (hlm.below hX)
  have HS := Lib.hid hX.size
  have HKa := Lib.hid k1
  have HKb := Lib.hid k2
  clear J hb hl hlm hX k1 k2
  go_enter Tryz.func11, Tryz.ntmps11
  go_upto_region 1 with (fail)
  revert HJ HB HX HL HM HS HKa HKb
  generalize ((w.alloc (.cells #[.pointer (some ⟨x.q, 0, none⟩), .pointer none, .pointer (some ⟨x.K, 0, none⟩)] 45)).alloc (.cells #[.pointer (some ⟨p, 0, none⟩), .pointer (some ⟨b, 0, none⟩)] 28)) = w0
  intro HJ HB HX HL HM HS HKa HKb
  obtain ⟨d0, d1, d2⟩ := HKa.out.cells3
  obtain ⟨t0, t1⟩ := HKb.out.cells2
  obtain ⟨o', hlv, hj⟩ := joint hB hBm hc HB.out HL.out HM.out HJ.out
  go_wp2_with fail
  ((with_reducible refine hj.mono ?_); rintro ee w1 ⟨rfl, f1, c1, c2, c3, hstep⟩)
  have k1 := fxl_box f1 HB.out HJ.out.own HKa.out (by decide)
  have k2 := fxl_box f1 HB.out HJ.out.own HKb.out (by decide)
  clear hj f1 d0 d1 d2 t0 t1
  obtain ⟨d0, d1, d2⟩ := k1.cells3
  obtain ⟨t0, t1⟩ := k2.cells2
  rw [show fnS o'.lv = 26 from by rw [hlv, jn_of HJ.out hkd]; rfl] at hstep
  cases hz : (o'.ln == 0)
  · skip
    have hzb : (o'.ln == 0) = false := hz
    go_wp2_with fail
    have hst := hstep _ (Below.refl _ w1)
    unfold JDone at hst
    rw [hzb] at hst
    have HOWN := Lib.hid HJ.out.own
    clear hstep k1 k2 c1 c2 c3 d0 d1 d2 t0 t1
    ((with_reducible refine hst.mono ?_); rintro ee w2 ⟨rfl, f2, b2, J2⟩)
    have HF2 := Lib.hid f2
    have HB2 := Lib.hid b2
    have HJ2 := Lib.hid J2
    obtain ⟨d0, d1, d2⟩ := (fxl_box f2 HB.out HOWN.out HKa.out rfl).cells3
    obtain ⟨t0, t1⟩ := (fxl_box f2 HB.out HOWN.out HKb.out rfl).cells2
    have c2 := J2.2.2.2.1.c9.2.2.1
    have c3 := J2.2.2.2.1.c9.2.2.2.1
    have hov := overJ_any J2.1 (jn_of J2 hkd) J2.2.2.1
    rw [hzb] at hov
    have hgt := gotJ_any J2.1 (jn_of J2 hkd) J2.2.2.1
    rw [if_neg (by simpa using hz)] at hgt
    have HOV := Lib.hid hov
    have HGT := Lib.hid hgt
    clear f2 b2 J2 hov hgt hst
    go_wp2_with fail
    ((with_reducible refine HOV.out.mono ?_); rintro e4 w4 ⟨rfl, rfl⟩)
    go_wp2_with fail
    ((with_reducible refine HGT.out.mono ?_); rintro e4 w4 ⟨rfl, rfl⟩)
    go_wp2_with fail
    go_ret
    exact ⟨rfl, HX.out.trans HF2.out, HB2.out, x, x.sub_refl _, o', HJ2.out⟩
  · replace hz : o'.ln = 0 := by simpa using hz
    rw [hz] at c1
    have hzb : (o'.ln == 0) = true := by rw [hz]; rfl
    go_wp2_with fail
    have hst := hstep _ (Below.refl _ w1)
    unfold JDone at hst
    rw [hzb] at hst
    have HOWN := Lib.hid HJ.out.own
    clear hstep k1 k2 c1 c2 c3 d0 d1 d2 t0 t1
    ((with_reducible refine hst.mono ?_); rintro ee w2 ⟨rfl, f2, b2, J2⟩)
    have HF2 := Lib.hid f2
    have HB2 := Lib.hid b2
    have HJ2 := Lib.hid J2
    obtain ⟨d0, d1, d2⟩ := (fxl_box f2 HB.out HOWN.out HKa.out rfl).cells3
    obtain ⟨t0, t1⟩ := (fxl_box f2 HB.out HOWN.out HKb.out rfl).cells2
    have c2 := J2.2.2.2.1.c9.2.2.1
    have c3 := J2.2.2.2.1.c9.2.2.2.1
    have hov := overJ_any J2.1 (jn_of J2 hkd) J2.2.2.1
    rw [hzb] at hov
    have hgt := gotJ_any J2.1 (jn_of J2 hkd) J2.2.2.1
    rw [if_pos hz] at hgt
    have HOV := Lib.hid hov
    have HGT := Lib.hid hgt
    clear f2 b2 J2 hov hgt hst
    go_wp2_with fail
    ((with_reducible refine HOV.out.mono ?_); rintro e4 w4 ⟨rfl, rfl⟩)
    go_wp2_with fail
    ((with_reducible refine HGT.out.mono ?_); rintro e4 w4 ⟨rfl, rfl⟩)
    go_wp2_with fail
    go_ret
    exact ⟨rfl, HX.out.trans HF2.out, HB2.out, x, x.sub_refl _, o', HJ2.out⟩
set_option maxRecDepth 100000 in
set_option maxHeartbeats 4000000 in
theorem op_leave (hB : 1 < B) (hBm : B ≤ m) (hBw : B ≤ w.heap.size) (hc : c ≤ 900) (hb : Both p m b c w) (hl : Lay w) (hlm : LayM w) (J : JBk B x o w) (hkd : x.kd = 1) :
    Calls Tryz.prog 11 #[.agg #[.pointer none, .pointer (some ⟨x.q, 0, none⟩), .pointer (some ⟨x.K, 0, none⟩)], .agg #[.pointer (some ⟨p, 0, none⟩), .pointer (some ⟨b, 0, none⟩)]] w (StepS B p m b c x w) := by
  have hX : Below w.heap.size w ((w.alloc (.cells #[.pointer none, .pointer (some ⟨x.q, 0, none⟩), .pointer (some ⟨x.K, 0, none⟩)] 45)).alloc (.cells #[.pointer (some ⟨p, 0, none⟩), .pointer (some ⟨b, 0, none⟩)] 28)) := ((Below.refl _ _).alloc (Nat.le_refl _) _).alloc (by simp) _
  have k1 : Bq w.heap.size 45 [.pointer none, .pointer (some ⟨x.q, 0, none⟩), .pointer (some ⟨x.K, 0, none⟩)] ((w.alloc (.cells #[.pointer none, .pointer (some ⟨x.q, 0, none⟩), .pointer (some ⟨x.K, 0, none⟩)] 45)).alloc (.cells #[.pointer (some ⟨p, 0, none⟩), .pointer (some ⟨b, 0, none⟩)] 28)) := (Bq.new w [.pointer none, .pointer (some ⟨x.q, 0, none⟩), .pointer (some ⟨x.K, 0, none⟩)] _).below ((Below.refl _ _).alloc (by simp) _)
  have k2 : Bq (w.heap.size + 1) 28 [.pointer (some ⟨p, 0, none⟩), .pointer (some ⟨b, 0, none⟩)] ((w.alloc (.cells #[.pointer none, .pointer (some ⟨x.q, 0, none⟩), .pointer (some ⟨x.K, 0, none⟩)] 45)).alloc (.cells #[.pointer (some ⟨p, 0, none⟩), .pointer (some ⟨b, 0, none⟩)] 28)) := by
    have := Bq.new (w.alloc (.cells #[.pointer none, .pointer (some ⟨x.q, 0, none⟩), .pointer (some ⟨x.K, 0, none⟩)] 45)) [.pointer (some ⟨p, 0, none⟩), .pointer (some ⟨b, 0, none⟩)] 28
    simpa using this
  have HJ := Lib.hid (J.below hX)
  have HB := Lib.hid (hb.below hX)
  have HX := Lib.hid (show FxL B p b x.fp w _ from .of_below hX hBw)
  have HL := Lib.hid (hl.below hX)
  have HM := Lib.hid (hlm.below hX)
  have HS := Lib.hid hX.size
  have HKa := Lib.hid k1
  have HKb := Lib.hid k2
  clear J hb hl hlm hX k1 k2
  go_enter Tryz.func11, Tryz.ntmps11
  go_upto_region 1 with (fail)
  revert HJ HB HX HL HM HS HKa HKb
  generalize ((w.alloc (.cells #[.pointer none, .pointer (some ⟨x.q, 0, none⟩), .pointer (some ⟨x.K, 0, none⟩)] 45)).alloc (.cells #[.pointer (some ⟨p, 0, none⟩), .pointer (some ⟨b, 0, none⟩)] 28)) = w0
  intro HJ HB HX HL HM HS HKa HKb
  obtain ⟨d0, d1, d2⟩ := HKa.out.cells3
  obtain ⟨t0, t1⟩ := HKb.out.cells2
  obtain ⟨o', hlv, hj⟩ := joint hB hBm hc HB.out HL.out HM.out HJ.out
  go_wp2_with fail
  ((with_reducible refine hj.mono ?_); rintro ee w1 ⟨rfl, f1, c1, c2, c3, hstep⟩)
  have k1 := fxl_box f1 HB.out HJ.out.own HKa.out (by decide)
  have k2 := fxl_box f1 HB.out HJ.out.own HKb.out (by decide)
  clear hj f1 d0 d1 d2 t0 t1
  obtain ⟨d0, d1, d2⟩ := k1.cells3
  obtain ⟨t0, t1⟩ := k2.cells2
  rw [show fnS o'.lv = 23 from by rw [hlv, lv_of HJ.out hkd]; rfl] at hstep
  cases hz : (o'.ln == 0)
  · skip
    go_upto_region 4 with (fail)
    have hzb : (o'.ln == 0) = false := hz
    have hst := hstep _ (Below.refl _ w1).drew
    unfold JDone at hst
    rw [hzb] at hst
    have HST := Lib.hid hst
    have HK1 := Lib.hid (k1.below (Below.refl _ w1).drew)
    have HK2 := Lib.hid (k2.below (Below.refl _ w1).drew)
    have hs0 := Lib.hid (held_L HK1.out HK2.out (show w1.drew.cell? ⟨x.K, 3, none⟩ = _ from c3))
    have HOWN := Lib.hid HJ.out.own
    clear hst hstep k1 k2 d0 d1 d2 t0 t1 c1 c2 c3
    go_region_held3 (fun w9 => w9.cell? ⟨w.heap.size, 1, none⟩ = some (.pointer (some ⟨x.q, 0, none⟩)) ∧ w9.cell? ⟨w.heap.size, 2, none⟩ = some (.pointer (some ⟨x.K, 0, none⟩)) ∧ w9.cell? ⟨w.heap.size + 1, 0, none⟩ = some (.pointer (some ⟨p, 0, none⟩)) ∧ w9.cell? ⟨w.heap.size + 1, 1, none⟩ = some (.pointer (some ⟨b, 0, none⟩)) ∧ w9.cell? ⟨x.K, 3, none⟩ = some (.int .i64 o'.e))
      (first | exact hs0.out | exact hs2.out | fail)
      (first
        | (go_at_call 23; with_reducible refine HST.out.mono ?_; rintro ee w2 ⟨rfl, f2, b2, J2⟩; have HF2 := Lib.hid f2; have HB2 := Lib.hid b2; have HJ2 := Lib.hid J2; have HA := Lib.hid (fxl_box f2 HB.out HOWN.out HKa.out rfl); have HA2 := Lib.hid (fxl_box f2 HB.out HOWN.out HKb.out rfl); have hs2 := Lib.hid (held_L HA.out HA2.out (jl_e J2)); have hov := jl_over J2 hkd; rw [hzb] at hov; have HOV := Lib.hid hov; have HGT := Lib.hid (jl_got J2 hkd); clear f2 b2 J2 hov)
        | (go_at_call 24; with_reducible refine HOV.out.mono ?_; rintro e4 w4 ⟨rfl, rfl⟩)
        | (go_at_call 25; with_reducible refine HGT.out.mono ?_; rintro e4 w4 ⟨rfl, rfl⟩)
        | fail)
    all_goals
      go_wp2_with fail
      go_ret
      exact ⟨rfl, HX.out.trans HF2.out, HB2.out, x, x.sub_refl _, o', HJ2.out⟩
  · replace hz : o'.ln = 0 := by simpa using hz
    rw [hz] at c1
    go_upto_region 4 with (fail)
    have hzb : (o'.ln == 0) = true := by rw [hz]; rfl
    have hst := hstep _ (Below.refl _ w1).drew
    unfold JDone at hst
    rw [hzb] at hst
    have HST := Lib.hid hst
    have HK1 := Lib.hid (k1.below (Below.refl _ w1).drew)
    have HK2 := Lib.hid (k2.below (Below.refl _ w1).drew)
    have hs0 := Lib.hid (held_L HK1.out HK2.out (show w1.drew.cell? ⟨x.K, 3, none⟩ = _ from c3))
    have HOWN := Lib.hid HJ.out.own
    clear hst hstep k1 k2 d0 d1 d2 t0 t1 c1 c2 c3
    go_region_held3 (fun w9 => w9.cell? ⟨w.heap.size, 1, none⟩ = some (.pointer (some ⟨x.q, 0, none⟩)) ∧ w9.cell? ⟨w.heap.size, 2, none⟩ = some (.pointer (some ⟨x.K, 0, none⟩)) ∧ w9.cell? ⟨w.heap.size + 1, 0, none⟩ = some (.pointer (some ⟨p, 0, none⟩)) ∧ w9.cell? ⟨w.heap.size + 1, 1, none⟩ = some (.pointer (some ⟨b, 0, none⟩)) ∧ w9.cell? ⟨x.K, 3, none⟩ = some (.int .i64 o'.e))
      (first | exact hs0.out | exact hs2.out | fail)
      (first
        | (go_at_call 23; with_reducible refine HST.out.mono ?_; rintro ee w2 ⟨rfl, f2, b2, J2⟩; have HF2 := Lib.hid f2; have HB2 := Lib.hid b2; have HJ2 := Lib.hid J2; have HA := Lib.hid (fxl_box f2 HB.out HOWN.out HKa.out rfl); have HA2 := Lib.hid (fxl_box f2 HB.out HOWN.out HKb.out rfl); have hs2 := Lib.hid (held_L HA.out HA2.out (jl_e J2)); have hov := jl_over J2 hkd; rw [hzb] at hov; have HOV := Lib.hid hov; have HGT := Lib.hid (jl_got J2 hkd); clear f2 b2 J2 hov)
        | (go_at_call 24; with_reducible refine HOV.out.mono ?_; rintro e4 w4 ⟨rfl, rfl⟩)
        | (go_at_call 25; with_reducible refine HGT.out.mono ?_; rintro e4 w4 ⟨rfl, rfl⟩)
        | fail)
    all_goals
      go_wp2_with fail
      go_ret
      exact ⟨rfl, HX.out.trans HF2.out, HB2.out, x, x.sub_refl _, o', HJ2.out⟩
end
end Go.Proofs.YtodfjnpnfalioaaGreatDoor
