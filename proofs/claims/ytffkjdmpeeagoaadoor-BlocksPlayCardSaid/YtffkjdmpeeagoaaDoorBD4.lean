/-
  A step of the law's operation of layer 11, of both: they are one; condition: both memories lie as they say and say the same, the operation and the document's as they say.
-/
import Derived.Test.YtffkjdmpeeagoaaDoorBD3
import Derived.Test.YtffkjdmpeeagoaaDoorD6
import Derived.Deep.DeepCutAuto
namespace Go.Proofs.YtffkjdmpeeagoaaDoor
open Go.RowKit Go.Maps

section
variable {B p m b c n : Nat} {x x' : JO} {o : BO} {q : Nat} {D : DataW Unit} {s : Acc8} {L : List (Ad × Int)} {w w' : World}
theorem Both.below (h : Both p m b c w) (hb : Below w.heap.size w w') : Both p m b c w' := by
  obtain ⟨n, D, s, L, hP, h2⟩ := h
  exact ⟨n, D, s, L, hP.below hb, h2⟩
theorem Both.mono {c' : Nat} (h : Both p m b c w) (hc : c ≤ c') : Both p m b c' w := by
  obtain ⟨n, D, s, L, hP, hr, h2, h3, h4, h5⟩ := h
  exact ⟨n, D, s, L, hP, hr, by omega, h3, h4, by omega⟩
theorem both_same (h : Both p m b c w) : Calls Tryd.prog 15 #[.agg #[.pointer (some ⟨p, 0, none⟩), .pointer (some ⟨b, 0, none⟩)]] w fun e W' => e = .returned (.bool true) ∧ Below w.heap.size w W' := by
  obtain ⟨n, D, s, L, hP, _⟩ := h
  exact pair_same hP
/-- A block of a type that no operation has. -/
def isBx (t : TypeId) : Bool := t == 28 || t == 46 || t == 39
theorem isBx_no {t : TypeId} (h : isBx t = true) : okT t = false ∧ t ≠ 106 ∧ t ≠ 109 ∧ t ≠ 97 := by
  simp only [isBx, Bool.or_eq_true, beq_iff_eq] at h
  rcases h with (rfl | rfl) | rfl <;> decide
theorem fxl_box {E : List Nat} {z : Nat} {t : TypeId} {cs : List Value} (f : FxL B p b E w w') (h : Both p m b c w) (ho : ∀ y ∈ E, OwnX B y w) (hz : Bq z t cs w) (ht : isBx t = true) : Bq z t cs w' := by
  obtain ⟨n, D, s, L, hP, _⟩ := h
  obtain ⟨⟨cp, kp⟩, ⟨cb, kb⟩, _⟩ := Pr.blocks (M := ⟨vals L, s⟩) hP
  obtain ⟨t1, t3, t4, t5⟩ := isBx_no ht
  exact f.far z _ _ _ hz t3 (hz.ne kp t4) (hz.ne kb t5) fun hx => (ho z hx).ne hz t1 rfl
theorem Bq.cells2 {z : Nat} {t : TypeId} {u v : Value} (k : Bq z t [u, v] w) : w.cell? ⟨z, 0, none⟩ = some u ∧ w.cell? ⟨z, 1, none⟩ = some v := ⟨k.cell 0, k.cell 1⟩
theorem Bq.cells3 {z : Nat} {t : TypeId} {v0 v1 v2 : Value} (k : Bq z t [v0, v1, v2] w) : w.cell? ⟨z, 0, none⟩ = some v0 ∧ w.cell? ⟨z, 1, none⟩ = some v1 ∧ w.cell? ⟨z, 2, none⟩ = some v2 := ⟨k.cell 0, k.cell 1, k.cell 2⟩
/-- What a step of an operation of the law's leaves. -/
def StepS (B p m b c : Nat) (x : JO) (w : World) (e : Ending) (w' : World) : Prop := e = .returned (.bool true) ∧ FxL B p b x.fp w w' ∧ Both p m b (c + 1) w' ∧ ∃ x', x.sub x' w.heap.size ∧ JAt B x' w'
theorem held_L {X q K p b : Nat} {e : Value} (ka : Bq X 46 [.pointer none, .pointer (some ⟨q, 0, none⟩), .pointer (some ⟨K, 0, none⟩)] w) (kb : Bq (X + 1) 28 [.pointer (some ⟨p, 0, none⟩), .pointer (some ⟨b, 0, none⟩)] w) (h : w.cell? ⟨K, 2, none⟩ = some e) :
    w.cell? ⟨X, 1, none⟩ = some (.pointer (some ⟨q, 0, none⟩)) ∧ w.cell? ⟨X, 2, none⟩ = some (.pointer (some ⟨K, 0, none⟩)) ∧ w.cell? ⟨X + 1, 0, none⟩ = some (.pointer (some ⟨p, 0, none⟩)) ∧ w.cell? ⟨X + 1, 1, none⟩ = some (.pointer (some ⟨b, 0, none⟩)) ∧ w.cell? ⟨K, 2, none⟩ = some e :=
  ⟨ka.cell 1, ka.cell 2, kb.cell 0, kb.cell 1, h⟩
theorem lv_of (J : JBk B x o w) (hk : x.kd = 1) : o.lv = true := by
  rcases J.2.1 with h | h
  · omega
  · exact h.2
theorem jn_of (J : JBk B x o w) (hk : x.kd = 0) : o.lv = false := by
  rcases J.2.1 with h | h
  · exact h.2
  · omega
theorem jl_over (J : JBk B x o w) (hk : x.kd = 1) : Calls Tryd.prog 22 #[.pointer (some ⟨x.q, 0, none⟩)] w fun e w' => e = .returned (.bool (o.ln == 0)) ∧ w' = w := overS_any J.1 (lv_of J hk) J.2.2.1
theorem jl_got (J : JBk B x o w) (hk : x.kd = 1) : Calls Tryd.prog 23 #[.pointer (some ⟨x.q, 0, none⟩)] w fun e w' => e = .returned (.int .i64 o.e) ∧ w' = w := gotS_any J.1 (lv_of J hk) J.2.2.1
theorem jm_over (J : JBk B x o w) (hk : x.kd = 0) : Calls Tryd.prog 19 #[.pointer (some ⟨x.q, 0, none⟩)] w fun e w' => e = .returned (.bool (o.ln == 0)) ∧ w' = w := overM_any J.1 (jn_of J hk) J.2.2.1
theorem jm_got (J : JBk B x o w) (hk : x.kd = 0) : Calls Tryd.prog 20 #[.pointer (some ⟨x.q, 0, none⟩)] w fun e w' => e = .returned (.int .i64 o.e) ∧ w' = w := gotM_any J.1 (jn_of J hk) J.2.2.1
theorem jl_e (J : JBk B x o w) : w.cell? ⟨x.K, 2, none⟩ = some (.int .i64 o.e) := J.2.2.2.1.c4.2.2.1
theorem held_M {X q K p b : Nat} {e : Value} (ka : Bq X 46 [.pointer (some ⟨q, 0, none⟩), .pointer none, .pointer (some ⟨K, 0, none⟩)] w) (kb : Bq (X + 1) 28 [.pointer (some ⟨p, 0, none⟩), .pointer (some ⟨b, 0, none⟩)] w) (h : w.cell? ⟨K, 2, none⟩ = some e) :
    w.cell? ⟨X, 0, none⟩ = some (.pointer (some ⟨q, 0, none⟩)) ∧ w.cell? ⟨X, 2, none⟩ = some (.pointer (some ⟨K, 0, none⟩)) ∧ w.cell? ⟨X + 1, 0, none⟩ = some (.pointer (some ⟨p, 0, none⟩)) ∧ w.cell? ⟨X + 1, 1, none⟩ = some (.pointer (some ⟨b, 0, none⟩)) ∧ w.cell? ⟨K, 2, none⟩ = some e :=
  ⟨ka.cell 0, ka.cell 2, kb.cell 0, kb.cell 1, h⟩
set_option maxRecDepth 100000 in
set_option maxHeartbeats 4000000 in
theorem op_more (hB : 1 < B) (hBm : B ≤ m) (hBw : B ≤ w.heap.size) (hc : c ≤ 900) (hb : Both p m b c w) (hl : Lay w) (hlm : LayM w) (J : JBk B x o w) (hkd : x.kd = 0) :
    Calls Tryd.prog 14 #[.agg #[.pointer (some ⟨x.q, 0, none⟩), .pointer none, .pointer (some ⟨x.K, 0, none⟩)], .agg #[.pointer (some ⟨p, 0, none⟩), .pointer (some ⟨b, 0, none⟩)]] w (StepS B p m b c x w) := by
  have hX : Below w.heap.size w ((w.alloc (.cells #[.pointer (some ⟨x.q, 0, none⟩), .pointer none, .pointer (some ⟨x.K, 0, none⟩)] 46)).alloc (.cells #[.pointer (some ⟨p, 0, none⟩), .pointer (some ⟨b, 0, none⟩)] 28)) := ((Below.refl _ _).alloc (Nat.le_refl _) _).alloc (by simp) _
  have k1 : Bq w.heap.size 46 [.pointer (some ⟨x.q, 0, none⟩), .pointer none, .pointer (some ⟨x.K, 0, none⟩)] ((w.alloc (.cells #[.pointer (some ⟨x.q, 0, none⟩), .pointer none, .pointer (some ⟨x.K, 0, none⟩)] 46)).alloc (.cells #[.pointer (some ⟨p, 0, none⟩), .pointer (some ⟨b, 0, none⟩)] 28)) := (Bq.new w [.pointer (some ⟨x.q, 0, none⟩), .pointer none, .pointer (some ⟨x.K, 0, none⟩)] _).below ((Below.refl _ _).alloc (by simp) _)
  have k2 : Bq (w.heap.size + 1) 28 [.pointer (some ⟨p, 0, none⟩), .pointer (some ⟨b, 0, none⟩)] ((w.alloc (.cells #[.pointer (some ⟨x.q, 0, none⟩), .pointer none, .pointer (some ⟨x.K, 0, none⟩)] 46)).alloc (.cells #[.pointer (some ⟨p, 0, none⟩), .pointer (some ⟨b, 0, none⟩)] 28)) := by
    have := Bq.new (w.alloc (.cells #[.pointer (some ⟨x.q, 0, none⟩), .pointer none, .pointer (some ⟨x.K, 0, none⟩)] 46)) [.pointer (some ⟨p, 0, none⟩), .pointer (some ⟨b, 0, none⟩)] 28
    simpa using this
  have HJ := Lib.hid (J.below hX)
  have HB := Lib.hid (hb.below hX)
  have HX := Lib.hid (show FxL B p b x.fp w _ from .of_below hX hBw)
  have HL := Lib.hid (hl.below hX)
  have HM := Lib.hid (hlm.below hX)
  have HS := Lib.hid hX.size
  have HKa := Lib.hid k1
  have HKb := Lib.hid k2
  clear J hb hl hlm hX k1 k2
  go_enter Tryd.func14, Tryd.ntmps14
  go_upto_region 1 with (fail)
  revert HJ HB HX HL HM HS HKa HKb
  generalize ((w.alloc (.cells #[.pointer (some ⟨x.q, 0, none⟩), .pointer none, .pointer (some ⟨x.K, 0, none⟩)] 46)).alloc (.cells #[.pointer (some ⟨p, 0, none⟩), .pointer (some ⟨b, 0, none⟩)] 28)) = w0
  intro HJ HB HX HL HM HS HKa HKb
  obtain ⟨d0, d1, d2⟩ := HKa.out.cells3
  obtain ⟨t0, t1⟩ := HKb.out.cells2
  obtain ⟨o', hlv, hj⟩ := joint hB hBm hc HB.out HL.out HM.out HJ.out
  go_wp2_with fail
  ((with_reducible refine hj.mono ?_); rintro ee w1 ⟨rfl, f1, c1, c3, hstep⟩)
  have k1 := fxl_box f1 HB.out HJ.out.own HKa.out (by decide)
  have k2 := fxl_box f1 HB.out HJ.out.own HKb.out (by decide)
  clear hj f1 d0 d1 d2 t0 t1
  obtain ⟨d0, d1, d2⟩ := k1.cells3
  obtain ⟨t0, t1⟩ := k2.cells2
  rw [show fnK o'.lv = 18 from by rw [hlv, jn_of HJ.out hkd]; rfl] at hstep
  cases hz : (o'.ln == 0)
  · skip
    go_upto_region 5 with (fail)
    have hzb : (o'.ln == 0) = false := hz
    have hst := hstep _ (Below.refl _ w1).drew
    unfold JDone at hst
    rw [hzb] at hst
    have HST := Lib.hid hst
    have HK1 := Lib.hid (k1.below (Below.refl _ w1).drew)
    have HK2 := Lib.hid (k2.below (Below.refl _ w1).drew)
    have hs0 := Lib.hid (held_M HK1.out HK2.out (show w1.drew.cell? ⟨x.K, 2, none⟩ = _ from c3))
    have HOWN := Lib.hid HJ.out.own
    clear hst hstep k1 k2 d0 d1 d2 t0 t1 c1 c3
    go_region_held3 (fun w9 => w9.cell? ⟨w.heap.size, 0, none⟩ = some (.pointer (some ⟨x.q, 0, none⟩)) ∧ w9.cell? ⟨w.heap.size, 2, none⟩ = some (.pointer (some ⟨x.K, 0, none⟩)) ∧ w9.cell? ⟨w.heap.size + 1, 0, none⟩ = some (.pointer (some ⟨p, 0, none⟩)) ∧ w9.cell? ⟨w.heap.size + 1, 1, none⟩ = some (.pointer (some ⟨b, 0, none⟩)) ∧ w9.cell? ⟨x.K, 2, none⟩ = some (.int .i64 o'.e))
      (first | exact hs0.out | exact hs2.out | fail)
      (first
        | (go_at_call 18; with_reducible refine HST.out.mono ?_; rintro ee w2 ⟨rfl, f2, b2, J2⟩; have HF2 := Lib.hid f2; have HB2 := Lib.hid b2; have HJ2 := Lib.hid J2; have HA := Lib.hid (fxl_box f2 HB.out HOWN.out HKa.out rfl); have HA2 := Lib.hid (fxl_box f2 HB.out HOWN.out HKb.out rfl); have hs2 := Lib.hid (held_M HA.out HA2.out (jl_e J2)); have hov := jm_over J2 hkd; rw [hzb] at hov; have HOV := Lib.hid hov; have HGT := Lib.hid (jm_got J2 hkd); clear f2 b2 J2 hov)
        | (go_at_call 19; with_reducible refine HOV.out.mono ?_; rintro e4 w4 ⟨rfl, rfl⟩)
        | (go_at_call 20; with_reducible refine HGT.out.mono ?_; rintro e4 w4 ⟨rfl, rfl⟩)
        | fail)
    all_goals
      go_wp2_with fail
      go_ret
      exact ⟨rfl, HX.out.trans HF2.out, HB2.out, x, x.sub_refl _, o', HJ2.out⟩
  · replace hz : o'.ln = 0 := by simpa using hz
    rw [hz] at c1
    go_upto_region 5 with (fail)
    have hzb : (o'.ln == 0) = true := by rw [hz]; rfl
    have hst := hstep _ (Below.refl _ w1).drew
    unfold JDone at hst
    rw [hzb] at hst
    have HST := Lib.hid hst
    have HK1 := Lib.hid (k1.below (Below.refl _ w1).drew)
    have HK2 := Lib.hid (k2.below (Below.refl _ w1).drew)
    have hs0 := Lib.hid (held_M HK1.out HK2.out (show w1.drew.cell? ⟨x.K, 2, none⟩ = _ from c3))
    have HOWN := Lib.hid HJ.out.own
    clear hst hstep k1 k2 d0 d1 d2 t0 t1 c1 c3
    go_region_held3 (fun w9 => w9.cell? ⟨w.heap.size, 0, none⟩ = some (.pointer (some ⟨x.q, 0, none⟩)) ∧ w9.cell? ⟨w.heap.size, 2, none⟩ = some (.pointer (some ⟨x.K, 0, none⟩)) ∧ w9.cell? ⟨w.heap.size + 1, 0, none⟩ = some (.pointer (some ⟨p, 0, none⟩)) ∧ w9.cell? ⟨w.heap.size + 1, 1, none⟩ = some (.pointer (some ⟨b, 0, none⟩)) ∧ w9.cell? ⟨x.K, 2, none⟩ = some (.int .i64 o'.e))
      (first | exact hs0.out | exact hs2.out | fail)
      (first
        | (go_at_call 18; with_reducible refine HST.out.mono ?_; rintro ee w2 ⟨rfl, f2, b2, J2⟩; have HF2 := Lib.hid f2; have HB2 := Lib.hid b2; have HJ2 := Lib.hid J2; have HA := Lib.hid (fxl_box f2 HB.out HOWN.out HKa.out rfl); have HA2 := Lib.hid (fxl_box f2 HB.out HOWN.out HKb.out rfl); have hs2 := Lib.hid (held_M HA.out HA2.out (jl_e J2)); have hov := jm_over J2 hkd; rw [hzb] at hov; have HOV := Lib.hid hov; have HGT := Lib.hid (jm_got J2 hkd); clear f2 b2 J2 hov)
        | (go_at_call 19; with_reducible refine HOV.out.mono ?_; rintro e4 w4 ⟨rfl, rfl⟩)
        | (go_at_call 20; with_reducible refine HGT.out.mono ?_; rintro e4 w4 ⟨rfl, rfl⟩)
        | fail)
    all_goals
      go_wp2_with fail
      go_ret
      exact ⟨rfl, HX.out.trans HF2.out, HB2.out, x, x.sub_refl _, o', HJ2.out⟩
set_option maxRecDepth 100000 in
set_option maxHeartbeats 4000000 in
theorem op_less (hB : 1 < B) (hBm : B ≤ m) (hBw : B ≤ w.heap.size) (hc : c ≤ 900) (hb : Both p m b c w) (hl : Lay w) (hlm : LayM w) (J : JBk B x o w) (hkd : x.kd = 1) :
    Calls Tryd.prog 14 #[.agg #[.pointer none, .pointer (some ⟨x.q, 0, none⟩), .pointer (some ⟨x.K, 0, none⟩)], .agg #[.pointer (some ⟨p, 0, none⟩), .pointer (some ⟨b, 0, none⟩)]] w (StepS B p m b c x w) := by
  have hX : Below w.heap.size w ((w.alloc (.cells #[.pointer none, .pointer (some ⟨x.q, 0, none⟩), .pointer (some ⟨x.K, 0, none⟩)] 46)).alloc (.cells #[.pointer (some ⟨p, 0, none⟩), .pointer (some ⟨b, 0, none⟩)] 28)) := ((Below.refl _ _).alloc (Nat.le_refl _) _).alloc (by simp) _
  have k1 : Bq w.heap.size 46 [.pointer none, .pointer (some ⟨x.q, 0, none⟩), .pointer (some ⟨x.K, 0, none⟩)] ((w.alloc (.cells #[.pointer none, .pointer (some ⟨x.q, 0, none⟩), .pointer (some ⟨x.K, 0, none⟩)] 46)).alloc (.cells #[.pointer (some ⟨p, 0, none⟩), .pointer (some ⟨b, 0, none⟩)] 28)) := (Bq.new w [.pointer none, .pointer (some ⟨x.q, 0, none⟩), .pointer (some ⟨x.K, 0, none⟩)] _).below ((Below.refl _ _).alloc (by simp) _)
  have k2 : Bq (w.heap.size + 1) 28 [.pointer (some ⟨p, 0, none⟩), .pointer (some ⟨b, 0, none⟩)] ((w.alloc (.cells #[.pointer none, .pointer (some ⟨x.q, 0, none⟩), .pointer (some ⟨x.K, 0, none⟩)] 46)).alloc (.cells #[.pointer (some ⟨p, 0, none⟩), .pointer (some ⟨b, 0, none⟩)] 28)) := by
    have := Bq.new (w.alloc (.cells #[.pointer none, .pointer (some ⟨x.q, 0, none⟩), .pointer (some ⟨x.K, 0, none⟩)] 46)) [.pointer (some ⟨p, 0, none⟩), .pointer (some ⟨b, 0, none⟩)] 28
    simpa using this
  have HJ := Lib.hid (J.below hX)
  have HB := Lib.hid (hb.below hX)
  have HX := Lib.hid (show FxL B p b x.fp w _ from .of_below hX hBw)
  have HL := Lib.hid (hl.below hX)
  have HM := Lib.hid (hlm.below hX)
  have HS := Lib.hid hX.size
  have HKa := Lib.hid k1
  have HKb := Lib.hid k2
  clear J hb hl hlm hX k1 k2
  go_enter Tryd.func14, Tryd.ntmps14
  go_upto_region 1 with (fail)
  revert HJ HB HX HL HM HS HKa HKb
  generalize ((w.alloc (.cells #[.pointer none, .pointer (some ⟨x.q, 0, none⟩), .pointer (some ⟨x.K, 0, none⟩)] 46)).alloc (.cells #[.pointer (some ⟨p, 0, none⟩), .pointer (some ⟨b, 0, none⟩)] 28)) = w0
  intro HJ HB HX HL HM HS HKa HKb
  obtain ⟨d0, d1, d2⟩ := HKa.out.cells3
  obtain ⟨t0, t1⟩ := HKb.out.cells2
  obtain ⟨o', hlv, hj⟩ := joint hB hBm hc HB.out HL.out HM.out HJ.out
  go_wp2_with fail
  ((with_reducible refine hj.mono ?_); rintro ee w1 ⟨rfl, f1, c1, c3, hstep⟩)
  have k1 := fxl_box f1 HB.out HJ.out.own HKa.out (by decide)
  have k2 := fxl_box f1 HB.out HJ.out.own HKb.out (by decide)
  clear hj f1 d0 d1 d2 t0 t1
  obtain ⟨d0, d1, d2⟩ := k1.cells3
  obtain ⟨t0, t1⟩ := k2.cells2
  rw [show fnK o'.lv = 21 from by rw [hlv, lv_of HJ.out hkd]; rfl] at hstep
  cases hz : (o'.ln == 0)
  · skip
    go_upto_region 4 with (fail)
    have hzb : (o'.ln == 0) = false := hz
    have hst := hstep _ (Below.refl _ w1).drew
    unfold JDone at hst
    rw [hzb] at hst
    have HST := Lib.hid hst
    have HK1 := Lib.hid (k1.below (Below.refl _ w1).drew)
    have HK2 := Lib.hid (k2.below (Below.refl _ w1).drew)
    have hs0 := Lib.hid (held_L HK1.out HK2.out (show w1.drew.cell? ⟨x.K, 2, none⟩ = _ from c3))
    have HOWN := Lib.hid HJ.out.own
    clear hst hstep k1 k2 d0 d1 d2 t0 t1 c1 c3
    go_region_held3 (fun w9 => w9.cell? ⟨w.heap.size, 1, none⟩ = some (.pointer (some ⟨x.q, 0, none⟩)) ∧ w9.cell? ⟨w.heap.size, 2, none⟩ = some (.pointer (some ⟨x.K, 0, none⟩)) ∧ w9.cell? ⟨w.heap.size + 1, 0, none⟩ = some (.pointer (some ⟨p, 0, none⟩)) ∧ w9.cell? ⟨w.heap.size + 1, 1, none⟩ = some (.pointer (some ⟨b, 0, none⟩)) ∧ w9.cell? ⟨x.K, 2, none⟩ = some (.int .i64 o'.e))
      (first | exact hs0.out | exact hs2.out | fail)
      (first
        | (go_at_call 21; with_reducible refine HST.out.mono ?_; rintro ee w2 ⟨rfl, f2, b2, J2⟩; have HF2 := Lib.hid f2; have HB2 := Lib.hid b2; have HJ2 := Lib.hid J2; have HA := Lib.hid (fxl_box f2 HB.out HOWN.out HKa.out rfl); have HA2 := Lib.hid (fxl_box f2 HB.out HOWN.out HKb.out rfl); have hs2 := Lib.hid (held_L HA.out HA2.out (jl_e J2)); have hov := jl_over J2 hkd; rw [hzb] at hov; have HOV := Lib.hid hov; have HGT := Lib.hid (jl_got J2 hkd); clear f2 b2 J2 hov)
        | (go_at_call 22; with_reducible refine HOV.out.mono ?_; rintro e4 w4 ⟨rfl, rfl⟩)
        | (go_at_call 23; with_reducible refine HGT.out.mono ?_; rintro e4 w4 ⟨rfl, rfl⟩)
        | fail)
    all_goals
      go_wp2_with fail
      go_ret
      exact ⟨rfl, HX.out.trans HF2.out, HB2.out, x, x.sub_refl _, o', HJ2.out⟩
  · replace hz : o'.ln = 0 := by simpa using hz
    rw [hz] at c1
    go_upto_region 4 with (fail)
    have hzb : (o'.ln == 0) = true := by rw [hz]; rfl
    have hst := hstep _ (Below.refl _ w1).drew
    unfold JDone at hst
    rw [hzb] at hst
    have HST := Lib.hid hst
    have HK1 := Lib.hid (k1.below (Below.refl _ w1).drew)
    have HK2 := Lib.hid (k2.below (Below.refl _ w1).drew)
    have hs0 := Lib.hid (held_L HK1.out HK2.out (show w1.drew.cell? ⟨x.K, 2, none⟩ = _ from c3))
    have HOWN := Lib.hid HJ.out.own
    clear hst hstep k1 k2 d0 d1 d2 t0 t1 c1 c3
    go_region_held3 (fun w9 => w9.cell? ⟨w.heap.size, 1, none⟩ = some (.pointer (some ⟨x.q, 0, none⟩)) ∧ w9.cell? ⟨w.heap.size, 2, none⟩ = some (.pointer (some ⟨x.K, 0, none⟩)) ∧ w9.cell? ⟨w.heap.size + 1, 0, none⟩ = some (.pointer (some ⟨p, 0, none⟩)) ∧ w9.cell? ⟨w.heap.size + 1, 1, none⟩ = some (.pointer (some ⟨b, 0, none⟩)) ∧ w9.cell? ⟨x.K, 2, none⟩ = some (.int .i64 o'.e))
      (first | exact hs0.out | exact hs2.out | fail)
      (first
        | (go_at_call 21; with_reducible refine HST.out.mono ?_; rintro ee w2 ⟨rfl, f2, b2, J2⟩; have HF2 := Lib.hid f2; have HB2 := Lib.hid b2; have HJ2 := Lib.hid J2; have HA := Lib.hid (fxl_box f2 HB.out HOWN.out HKa.out rfl); have HA2 := Lib.hid (fxl_box f2 HB.out HOWN.out HKb.out rfl); have hs2 := Lib.hid (held_L HA.out HA2.out (jl_e J2)); have hov := jl_over J2 hkd; rw [hzb] at hov; have HOV := Lib.hid hov; have HGT := Lib.hid (jl_got J2 hkd); clear f2 b2 J2 hov)
        | (go_at_call 22; with_reducible refine HOV.out.mono ?_; rintro e4 w4 ⟨rfl, rfl⟩)
        | (go_at_call 23; with_reducible refine HGT.out.mono ?_; rintro e4 w4 ⟨rfl, rfl⟩)
        | fail)
    all_goals
      go_wp2_with fail
      go_ret
      exact ⟨rfl, HX.out.trans HF2.out, HB2.out, x, x.sub_refl _, o', HJ2.out⟩
end
end Go.Proofs.YtffkjdmpeeagoaaDoor
