/-
  A step of the law's operation of layer 9, of both; conditions as each theorem says.
-/
import Derived.Test.YtmjcbjcnmgleaaaGreatDoorXP48
import Derived.Test.YtmjcbjcnmgleaaaGreatDoorXP07
import Derived.Deep.DeepCutAuto
namespace Go.Proofs.YtmjcbjcnmgleaaaGreatDoor
open Go.RowKit Go.Maps
section
variable {B p m b c n : Nat} {x x' : JO} {o : KX} {q r r1 : Nat} {kv : Value} {D : DataW Unit} {s : Acc8} {L : List (Ad × Int)} {w w' : World}
theorem Both.below (h : Both p m b c w) (hb : Below w.heap.size w w') : Both p m b c w' := by
  obtain ⟨n, D, s, L, hP, h2⟩ := h
  exact ⟨n, D, s, L, hP.below hb, h2⟩
theorem Both.mono {c' : Nat} (h : Both p m b c w) (hc : c ≤ c') : Both p m b c' w := by
  obtain ⟨n, D, s, L, hP, hr, h2, h3, h4, h5⟩ := h
  exact ⟨n, D, s, L, hP, hr, by omega, h3, h4, by omega⟩
theorem both_same (h : Both p m b c w) : Calls Tryz.prog 15 #[.agg #[.pointer (some ⟨p, 0, none⟩), .pointer (some ⟨b, 0, none⟩)]] w fun e W' => e = .returned (.bool true) ∧ Below w.heap.size w W' := by
  obtain ⟨n, D, s, L, hP, _⟩ := h
  exact pair_same hP
theorem JOk.below (h : JOk B x o w) (hb : Below w.heap.size w w') : JOk B x o w' := h.same fun y hy => hb.block y (h.2.2.2.1 y hy).lt
theorem JAt.below (h : JAt B x w) (hb : Below w.heap.size w w') : JAt B x w' := by obtain ⟨o, h⟩ := h; exact ⟨o, h.below hb⟩
def isBx (t : TypeId) : Bool := t == 28 || t == 45 || t == 38
theorem isBx_no {t : TypeId} (h : isBx t = true) : okT t = false ∧ t ≠ 118 ∧ t ≠ 121 ∧ t ≠ 103 := by
  simp only [isBx, Bool.or_eq_true, beq_iff_eq] at h
  rcases h with (rfl | rfl) | rfl <;> decide
theorem fxl_box {E : List Nat} {z : Nat} {t : TypeId} {cs : List Value} (f : FxL B p b E w w') (h : Both p m b c w) (ho : ∀ y ∈ E, OwnX B y w) (hz : Bq z t cs w) (ht : isBx t = true) : Bq z t cs w' := by
  obtain ⟨n, D, s, L, hP, _⟩ := h
  obtain ⟨⟨cp, kp⟩, ⟨cb, kb⟩, _⟩ := Pr.blocks (M := ⟨vals L, s⟩) hP
  obtain ⟨t1, t3, t4, t5⟩ := isBx_no ht
  exact f.far z _ _ _ hz t3 (hz.ne kp t4) (hz.ne kb t5) fun hx => (ho z hx).ne hz t1 rfl
theorem Bq.cells2 {z : Nat} {t : TypeId} {u v : Value} (k : Bq z t [u, v] w) : w.cell? ⟨z, 0, none⟩ = some u ∧ w.cell? ⟨z, 1, none⟩ = some v := ⟨k.cell 0, k.cell 1⟩
theorem Bq.cells3 {z : Nat} {t : TypeId} {v0 v1 v2 : Value} (k : Bq z t [v0, v1, v2] w) : w.cell? ⟨z, 0, none⟩ = some v0 ∧ w.cell? ⟨z, 1, none⟩ = some v1 ∧ w.cell? ⟨z, 2, none⟩ = some v2 := ⟨k.cell 0, k.cell 1, k.cell 2⟩
def StepS (B p m b c : Nat) (x : JO) (w : World) (e : Ending) (w' : World) : Prop := e = .returned (.bool true) ∧ FxL B p b x.fp w w' ∧ Both p m b (c + 1) w' ∧ ∃ x', x.sub x' w.heap.size ∧ JAt B x' w'
theorem nxL_beq {n : Int} (h : n ≠ 0) : (nxL n == 0) = (n == 0) := by
  have : nxL n ≠ 0 := by
    unfold nxL
    split
    · omega
    · split
      · omega
      · split <;> omega
  rw [beq_eq_false_iff_ne.2 this, beq_eq_false_iff_ne.2 h]
theorem gotE_nx {n en : Int} (h : n ≠ 0) : gotE (nxL n) en = 0 := by
  have h1 := nxL_beq h
  unfold gotE
  rw [if_neg]
  intro h2
  rw [h2, beq_eq_false_iff_ne.2 h] at h1
  cases h1
theorem gr_bq (h : GrRep q r o w) (ok : KNum o) : ∃ nx pt sg sl ws en tl, Bq q 60 (TC nx pt sg sl ws en tl) w ∧ (nx == 0) = (o.k.ln == 0) ∧ gotE nx en = o.err := by
  rcases h with ⟨h, pt, sg, sl, ws, k⟩ | ⟨_, h, pt, ws, _, k⟩ | ⟨_, h, pt, sl, ws, k, _⟩
  · exact ⟨_, _, _, _, _, _, _, k, by rw [h], by simp [gotE]⟩
  · refine ⟨_, _, _, _, _, _, _, k, rfl, ?_⟩
    unfold gotE
    rw [if_neg (by omega)]
    exact (ok.err (by omega)).symm
  · exact ⟨_, _, _, _, _, _, _, k, nxL_beq (by omega), by rw [gotE_nx (by omega)]; exact (ok.err (by omega)).symm⟩
theorem sh_bq (h : ShRep B q r r1 o kv w) (ok : KNum o) : ∃ nx pt sg sl ws en tl, Bq q 63 (TC nx pt sg sl ws en tl) w ∧ (nx == 0) = (o.k.ln == 0) ∧ gotE nx en = o.err := by
  rcases h with ⟨h, pt, sg, sl, ws, lk, k⟩ | ⟨_, h0, _, P⟩
  · exact ⟨_, _, _, _, _, _, _, k, by rw [h], by simp [gotE]⟩
  · have fin : ∀ {pt : Value} {sg sl ws en : Int} {tl : List Value}, Bq q 63 (TC (nxL o.k.ln) pt sg sl ws en tl) w → ∃ nx pt sg sl ws en tl, Bq q 63 (TC nx pt sg sl ws en tl) w ∧ (nx == 0) = (o.k.ln == 0) ∧ gotE nx en = o.err := fun k =>
      ⟨_, _, _, _, _, _, _, k, nxL_beq h0, by rw [gotE_nx h0]; exact (ok.err h0).symm⟩
    rcases P with ⟨_, pt, ws, _, k⟩ | ⟨_, ws, _, k, _⟩ | ⟨_, ws, _, k, _⟩ | ⟨_, ws, _, k, _⟩ | ⟨_, pt, sl, ws, k, _⟩
    · exact fin k
    · exact fin k
    · exact fin k
    · exact fin k
    · exact fin k
theorem jk_bq (J : JOk B x' o w) (hs : x.sub x' n) : (x.kd = 0 → ∃ nx pt sg sl ws en tl, Bq x.q 60 (TC nx pt sg sl ws en tl) w ∧ (nx == 0) = (o.k.ln == 0) ∧ gotE nx en = o.err) ∧ (x.kd = 1 → ∃ nx pt sg sl ws en tl, Bq x.q 63 (TC nx pt sg sl ws en tl) w ∧ (nx == 0) = (o.k.ln == 0) ∧ gotE nx en = o.err) := by
  rw [← hs.1, ← hs.2.1]
  rcases J.2.1 with ⟨hk, r, _, R⟩ | ⟨hk, r, r1, kv, _, _, R⟩
  · exact ⟨fun _ => gr_bq R J.1, fun h => by omega⟩
  · exact ⟨fun h => by omega, fun _ => sh_bq R J.1⟩
theorem gr_over (J : JOk B x' o w) (hs : x.sub x' n) (hk : x.kd = 0) : Calls Tryz.prog 39 #[.pointer (some ⟨x.q, 0, none⟩)] w fun e w' => e = .returned (.bool (o.k.ln == 0)) ∧ w' = w := by
  obtain ⟨nx, pt, sg, sl, ws, en, tl, k, h1, h2⟩ := (jk_bq J hs).1 hk
  rw [← h1]; exact overGrow k
theorem gr_got (J : JOk B x' o w) (hs : x.sub x' n) (hk : x.kd = 0) : Calls Tryz.prog 40 #[.pointer (some ⟨x.q, 0, none⟩)] w fun e w' => e = .returned (.int .i64 o.err) ∧ w' = w := by
  obtain ⟨nx, pt, sg, sl, ws, en, tl, k, h1, h2⟩ := (jk_bq J hs).1 hk
  rw [← h2]; exact gotGrow k
theorem sh_over (J : JOk B x' o w) (hs : x.sub x' n) (hk : x.kd = 1) : Calls Tryz.prog 36 #[.pointer (some ⟨x.q, 0, none⟩)] w fun e w' => e = .returned (.bool (o.k.ln == 0)) ∧ w' = w := by
  obtain ⟨nx, pt, sg, sl, ws, en, tl, k, h1, h2⟩ := (jk_bq J hs).2 hk
  rw [← h1]; exact overShrink k
theorem sh_got (J : JOk B x' o w) (hs : x.sub x' n) (hk : x.kd = 1) : Calls Tryz.prog 37 #[.pointer (some ⟨x.q, 0, none⟩)] w fun e w' => e = .returned (.int .i64 o.err) ∧ w' = w := by
  obtain ⟨nx, pt, sg, sl, ws, en, tl, k, h1, h2⟩ := (jk_bq J hs).2 hk
  rw [← h2]; exact gotShrink k
theorem JOk.own (J : JOk B x o w) : ∀ y ∈ x.fp, OwnX B y w := J.2.2.2.1
theorem j_err (J : JOk B x' o w) (hs : x.sub x' n) : w.cell? ⟨x.K, 2, none⟩ = some (.int .i64 o.err) := by rw [← hs.2.2.1]; exact J.2.2.1.reads.2
theorem held_gr {X q K p b : Nat} {e : Value} (ka : Bq X 45 [.pointer (some ⟨q, 0, none⟩), .pointer none, .pointer (some ⟨K, 0, none⟩)] w) (kb : Bq (X + 1) 28 [.pointer (some ⟨p, 0, none⟩), .pointer (some ⟨b, 0, none⟩)] w) (h : w.cell? ⟨K, 2, none⟩ = some e) :
    w.cell? ⟨X, 0, none⟩ = some (.pointer (some ⟨q, 0, none⟩)) ∧ w.cell? ⟨X, 2, none⟩ = some (.pointer (some ⟨K, 0, none⟩)) ∧ w.cell? ⟨X + 1, 0, none⟩ = some (.pointer (some ⟨p, 0, none⟩)) ∧ w.cell? ⟨X + 1, 1, none⟩ = some (.pointer (some ⟨b, 0, none⟩)) ∧ w.cell? ⟨K, 2, none⟩ = some e :=
  ⟨ka.cell 0, ka.cell 2, kb.cell 0, kb.cell 1, h⟩
theorem held_sh {X q K p b : Nat} {e : Value} (ka : Bq X 45 [.pointer none, .pointer (some ⟨q, 0, none⟩), .pointer (some ⟨K, 0, none⟩)] w) (kb : Bq (X + 1) 28 [.pointer (some ⟨p, 0, none⟩), .pointer (some ⟨b, 0, none⟩)] w) (h : w.cell? ⟨K, 2, none⟩ = some e) :
    w.cell? ⟨X, 1, none⟩ = some (.pointer (some ⟨q, 0, none⟩)) ∧ w.cell? ⟨X, 2, none⟩ = some (.pointer (some ⟨K, 0, none⟩)) ∧ w.cell? ⟨X + 1, 0, none⟩ = some (.pointer (some ⟨p, 0, none⟩)) ∧ w.cell? ⟨X + 1, 1, none⟩ = some (.pointer (some ⟨b, 0, none⟩)) ∧ w.cell? ⟨K, 2, none⟩ = some e :=
  ⟨ka.cell 1, ka.cell 2, kb.cell 0, kb.cell 1, h⟩
set_option maxRecDepth 100000 in
set_option maxHeartbeats 4000000 in
theorem op_grow (hB : 1 < B) (hBm : B ≤ m) (hBw : B ≤ w.heap.size) (hc : c ≤ 4900) (hb : Both p m b c w) (hl : Lay w) (hlm : LayM w) (J : JOk B x o w) (hkd : x.kd = 0) :
    Calls Tryz.prog 14 #[.agg #[.pointer (some ⟨x.q, 0, none⟩), .pointer none, .pointer (some ⟨x.K, 0, none⟩)], .agg #[.pointer (some ⟨p, 0, none⟩), .pointer (some ⟨b, 0, none⟩)]] w (StepS B p m b c x w) := by
  have hX : Below w.heap.size w ((w.alloc (.cells #[.pointer (some ⟨x.q, 0, none⟩), .pointer none, .pointer (some ⟨x.K, 0, none⟩)] 45)).alloc (.cells #[.pointer (some ⟨p, 0, none⟩), .pointer (some ⟨b, 0, none⟩)] 28)) := ((Below.refl _ _).alloc (Nat.le_refl _) _).alloc (by simp) _
  have k1 : Bq w.heap.size 45 [.pointer (some ⟨x.q, 0, none⟩), .pointer none, .pointer (some ⟨x.K, 0, none⟩)] ((w.alloc (.cells #[.pointer (some ⟨x.q, 0, none⟩), .pointer none, .pointer (some ⟨x.K, 0, none⟩)] 45)).alloc (.cells #[.pointer (some ⟨p, 0, none⟩), .pointer (some ⟨b, 0, none⟩)] 28)) := (Bq.new w [.pointer (some ⟨x.q, 0, none⟩), .pointer none, .pointer (some ⟨x.K, 0, none⟩)] _).below ((Below.refl _ _).alloc (by simp) _)
  have k2 : Bq (w.heap.size + 1) 28 [.pointer (some ⟨p, 0, none⟩), .pointer (some ⟨b, 0, none⟩)] ((w.alloc (.cells #[.pointer (some ⟨x.q, 0, none⟩), .pointer none, .pointer (some ⟨x.K, 0, none⟩)] 45)).alloc (.cells #[.pointer (some ⟨p, 0, none⟩), .pointer (some ⟨b, 0, none⟩)] 28)) := by
    have := Bq.new (w.alloc (.cells #[.pointer (some ⟨x.q, 0, none⟩), .pointer none, .pointer (some ⟨x.K, 0, none⟩)] 45)) [.pointer (some ⟨p, 0, none⟩), .pointer (some ⟨b, 0, none⟩)] 28
    simpa using this
  have HJ := Lib.hid (J.below hX)
  have HB := Lib.hid (hb.below hX)
  have HX := Lib.hid (show FxL B p b x.fp w _ from .of_below hX hBw)
  have HL := Lib.hid (hl.below hX)
  have HM := Lib.hid (hlm.below hX)
  have HS := Lib.hid hX.size
  have HKa := Lib.hid k1
  have HKb := Lib.hid k2
  clear J hb hl hlm hX k1 k2
  go_enter Tryz.func14, Tryz.ntmps14
  go_upto_region 1 with (fail)
  revert HJ HB HX HL HM HS HKa HKb
  generalize ((w.alloc (.cells #[.pointer (some ⟨x.q, 0, none⟩), .pointer none, .pointer (some ⟨x.K, 0, none⟩)] 45)).alloc (.cells #[.pointer (some ⟨p, 0, none⟩), .pointer (some ⟨b, 0, none⟩)] 28)) = w0
  intro HJ HB HX HL HM HS HKa HKb
  obtain ⟨d0, d1, d2⟩ := HKa.out.cells3
  obtain ⟨t0, t1⟩ := HKb.out.cells2
  obtain ⟨o', hj⟩ := joint hB hBm hc HB.out HL.out HM.out HJ.out
  go_wp2_with fail
  ((with_reducible refine hj.mono ?_); rintro ee w1 ⟨rfl, f1, c1, c2, hstep⟩)
  have k1 := fxl_box f1 HB.out HJ.out.2.2.2.1 HKa.out (by decide)
  have k2 := fxl_box f1 HB.out HJ.out.2.2.2.1 HKb.out (by decide)
  rw [show fnP x.kd = 38 from by rw [hkd]; rfl] at hstep
  clear hj f1 d0 d1 d2 t0 t1
  obtain ⟨d0, d1, d2⟩ := k1.cells3
  obtain ⟨t0, t1⟩ := k2.cells2
  cases hz : (o'.k.ln == 0)
  · skip
    go_upto_region 5 with (fail)
    have hzb : (o'.k.ln == 0) = false := hz
    have hst := hstep _ (Below.refl _ w1).drew
    unfold JDone at hst
    rw [hzb] at hst
    have HST := Lib.hid hst
    have HK1 := Lib.hid (k1.below (Below.refl _ w1).drew)
    have HK2 := Lib.hid (k2.below (Below.refl _ w1).drew)
    have hs0 := Lib.hid (held_gr HK1.out HK2.out (show w1.drew.cell? ⟨x.K, 2, none⟩ = _ from c2))
    have HOWN := Lib.hid HJ.out.own
    clear hst hstep k1 k2 d0 d1 d2 t0 t1 c1 c2
    go_region_held3 (fun w9 => w9.cell? ⟨w.heap.size, 0, none⟩ = some (.pointer (some ⟨x.q, 0, none⟩)) ∧ w9.cell? ⟨w.heap.size, 2, none⟩ = some (.pointer (some ⟨x.K, 0, none⟩)) ∧ w9.cell? ⟨w.heap.size + 1, 0, none⟩ = some (.pointer (some ⟨p, 0, none⟩)) ∧ w9.cell? ⟨w.heap.size + 1, 1, none⟩ = some (.pointer (some ⟨b, 0, none⟩)) ∧ w9.cell? ⟨x.K, 2, none⟩ = some (.int .i64 o'.err))
      (first | exact hs0.out | exact hs2.out | exact hs4.out | fail)
      (first
        | (go_at_call 38; with_reducible refine HST.out.mono ?_; rintro ee w2 ⟨rfl, f2, b2, x', xs, J2⟩; have HF2 := Lib.hid f2; have HB2 := Lib.hid b2; have HXS := Lib.hid xs; have HJ2 := Lib.hid J2; have HA := Lib.hid (fxl_box f2 HB.out HOWN.out HKa.out rfl); have HA2 := Lib.hid (fxl_box f2 HB.out HOWN.out HKb.out rfl); have hs2 := Lib.hid (held_gr HA.out HA2.out (j_err J2 xs)); have hov := gr_over J2 xs hkd; rw [hzb] at hov; have HOV := Lib.hid hov; have HGT := Lib.hid (gr_got J2 xs hkd); clear f2 b2 xs J2 hov)
        | (go_at_call 39; with_reducible refine HOV.out.mono ?_; rintro e4 w4 ⟨rfl, rfl⟩)
        | (go_at_call 40; with_reducible refine HGT.out.mono ?_; rintro e4 w4 ⟨rfl, rfl⟩)
        | (go_at_call 15; with_reducible refine (both_same HB2.out).mono ?_; rintro e4 w4 ⟨rfl, hb4⟩; have HB4 := Lib.hid hb4; have hs4 := Lib.hid (held_gr (HA.out.below hb4) (HA2.out.below hb4) (j_err (HJ2.out.below hb4) HXS.out)); clear hb4)
        | fail)
    all_goals
      go_wp2_with fail
      go_ret
      exact ⟨rfl, (HX.out.trans HF2.out).trans (.of_below HB4.out (by have := HS.out; have := HF2.out.low.size; omega)), HB2.out.below HB4.out, x', ⟨HXS.out.1, HXS.out.2.1, HXS.out.2.2.1, fun y hy => (HXS.out.2.2.2 y hy).imp id fun h => Nat.le_trans HS.out h⟩, o', HJ2.out.below HB4.out⟩
  · replace hz : o'.k.ln = 0 := by simpa using hz
    rw [hz] at c1
    go_upto_region 5 with (fail)
    have hzb : (o'.k.ln == 0) = true := by rw [hz]; rfl
    have hst := hstep _ (Below.refl _ w1).drew
    unfold JDone at hst
    rw [hzb] at hst
    have HST := Lib.hid hst
    have HK1 := Lib.hid (k1.below (Below.refl _ w1).drew)
    have HK2 := Lib.hid (k2.below (Below.refl _ w1).drew)
    have hs0 := Lib.hid (held_gr HK1.out HK2.out (show w1.drew.cell? ⟨x.K, 2, none⟩ = _ from c2))
    have HOWN := Lib.hid HJ.out.own
    clear hst hstep k1 k2 d0 d1 d2 t0 t1 c1 c2
    go_region_held3 (fun w9 => w9.cell? ⟨w.heap.size, 0, none⟩ = some (.pointer (some ⟨x.q, 0, none⟩)) ∧ w9.cell? ⟨w.heap.size, 2, none⟩ = some (.pointer (some ⟨x.K, 0, none⟩)) ∧ w9.cell? ⟨w.heap.size + 1, 0, none⟩ = some (.pointer (some ⟨p, 0, none⟩)) ∧ w9.cell? ⟨w.heap.size + 1, 1, none⟩ = some (.pointer (some ⟨b, 0, none⟩)) ∧ w9.cell? ⟨x.K, 2, none⟩ = some (.int .i64 o'.err))
      (first | exact hs0.out | exact hs2.out | exact hs4.out | fail)
      (first
        | (go_at_call 38; with_reducible refine HST.out.mono ?_; rintro ee w2 ⟨rfl, f2, b2, x', xs, J2⟩; have HF2 := Lib.hid f2; have HB2 := Lib.hid b2; have HXS := Lib.hid xs; have HJ2 := Lib.hid J2; have HA := Lib.hid (fxl_box f2 HB.out HOWN.out HKa.out rfl); have HA2 := Lib.hid (fxl_box f2 HB.out HOWN.out HKb.out rfl); have hs2 := Lib.hid (held_gr HA.out HA2.out (j_err J2 xs)); have hov := gr_over J2 xs hkd; rw [hzb] at hov; have HOV := Lib.hid hov; have HGT := Lib.hid (gr_got J2 xs hkd); clear f2 b2 xs J2 hov)
        | (go_at_call 39; with_reducible refine HOV.out.mono ?_; rintro e4 w4 ⟨rfl, rfl⟩)
        | (go_at_call 40; with_reducible refine HGT.out.mono ?_; rintro e4 w4 ⟨rfl, rfl⟩)
        | (go_at_call 15; with_reducible refine (both_same HB2.out).mono ?_; rintro e4 w4 ⟨rfl, hb4⟩; have HB4 := Lib.hid hb4; have hs4 := Lib.hid (held_gr (HA.out.below hb4) (HA2.out.below hb4) (j_err (HJ2.out.below hb4) HXS.out)); clear hb4)
        | fail)
    all_goals
      go_wp2_with fail
      go_ret
      exact ⟨rfl, (HX.out.trans HF2.out).trans (.of_below HB4.out (by have := HS.out; have := HF2.out.low.size; omega)), HB2.out.below HB4.out, x', ⟨HXS.out.1, HXS.out.2.1, HXS.out.2.2.1, fun y hy => (HXS.out.2.2.2 y hy).imp id fun h => Nat.le_trans HS.out h⟩, o', HJ2.out.below HB4.out⟩
set_option maxRecDepth 100000 in
set_option maxHeartbeats 4000000 in
theorem op_shrink (hB : 1 < B) (hBm : B ≤ m) (hBw : B ≤ w.heap.size) (hc : c ≤ 4900) (hb : Both p m b c w) (hl : Lay w) (hlm : LayM w) (J : JOk B x o w) (hkd : x.kd = 1) :
    Calls Tryz.prog 14 #[.agg #[.pointer none, .pointer (some ⟨x.q, 0, none⟩), .pointer (some ⟨x.K, 0, none⟩)], .agg #[.pointer (some ⟨p, 0, none⟩), .pointer (some ⟨b, 0, none⟩)]] w (StepS B p m b c x w) := by
  have hX : Below w.heap.size w ((w.alloc (.cells #[.pointer none, .pointer (some ⟨x.q, 0, none⟩), .pointer (some ⟨x.K, 0, none⟩)] 45)).alloc (.cells #[.pointer (some ⟨p, 0, none⟩), .pointer (some ⟨b, 0, none⟩)] 28)) := ((Below.refl _ _).alloc (Nat.le_refl _) _).alloc (by simp) _
  have k1 : Bq w.heap.size 45 [.pointer none, .pointer (some ⟨x.q, 0, none⟩), .pointer (some ⟨x.K, 0, none⟩)] ((w.alloc (.cells #[.pointer none, .pointer (some ⟨x.q, 0, none⟩), .pointer (some ⟨x.K, 0, none⟩)] 45)).alloc (.cells #[.pointer (some ⟨p, 0, none⟩), .pointer (some ⟨b, 0, none⟩)] 28)) := (Bq.new w [.pointer none, .pointer (some ⟨x.q, 0, none⟩), .pointer (some ⟨x.K, 0, none⟩)] _).below ((Below.refl _ _).alloc (by simp) _)
  have k2 : Bq (w.heap.size + 1) 28 [.pointer (some ⟨p, 0, none⟩), .pointer (some ⟨b, 0, none⟩)] ((w.alloc (.cells #[.pointer none, .pointer (some ⟨x.q, 0, none⟩), .pointer (some ⟨x.K, 0, none⟩)] 45)).alloc (.cells #[.pointer (some ⟨p, 0, none⟩), .pointer (some ⟨b, 0, none⟩)] 28)) := by
    have := Bq.new (w.alloc (.cells #[.pointer none, .pointer (some ⟨x.q, 0, none⟩), .pointer (some ⟨x.K, 0, none⟩)] 45)) [.pointer (some ⟨p, 0, none⟩), .pointer (some ⟨b, 0, none⟩)] 28
    simpa using this
  have HJ := Lib.hid (J.below hX)
  have HB := Lib.hid (hb.below hX)
  have HX := Lib.hid (show FxL B p b x.fp w _ from .of_below hX hBw)
  have HL := Lib.hid (hl.below hX)
  have HM := Lib.hid (hlm.below hX)
  have HS := Lib.hid hX.size
  have HKa := Lib.hid k1
  have HKb := Lib.hid k2
  clear J hb hl hlm hX k1 k2
  go_enter Tryz.func14, Tryz.ntmps14
  go_upto_region 1 with (fail)
  revert HJ HB HX HL HM HS HKa HKb
  generalize ((w.alloc (.cells #[.pointer none, .pointer (some ⟨x.q, 0, none⟩), .pointer (some ⟨x.K, 0, none⟩)] 45)).alloc (.cells #[.pointer (some ⟨p, 0, none⟩), .pointer (some ⟨b, 0, none⟩)] 28)) = w0
  intro HJ HB HX HL HM HS HKa HKb
  obtain ⟨d0, d1, d2⟩ := HKa.out.cells3
  obtain ⟨t0, t1⟩ := HKb.out.cells2
  obtain ⟨o', hj⟩ := joint hB hBm hc HB.out HL.out HM.out HJ.out
  go_wp2_with fail
  ((with_reducible refine hj.mono ?_); rintro ee w1 ⟨rfl, f1, c1, c2, hstep⟩)
  have k1 := fxl_box f1 HB.out HJ.out.2.2.2.1 HKa.out (by decide)
  have k2 := fxl_box f1 HB.out HJ.out.2.2.2.1 HKb.out (by decide)
  rw [show fnP x.kd = 35 from by rw [hkd]; rfl] at hstep
  clear hj f1 d0 d1 d2 t0 t1
  obtain ⟨d0, d1, d2⟩ := k1.cells3
  obtain ⟨t0, t1⟩ := k2.cells2
  cases hz : (o'.k.ln == 0)
  · skip
    go_upto_region 4 with (fail)
    have hzb : (o'.k.ln == 0) = false := hz
    have hst := hstep _ (Below.refl _ w1).drew
    unfold JDone at hst
    rw [hzb] at hst
    have HST := Lib.hid hst
    have HK1 := Lib.hid (k1.below (Below.refl _ w1).drew)
    have HK2 := Lib.hid (k2.below (Below.refl _ w1).drew)
    have hs0 := Lib.hid (held_sh HK1.out HK2.out (show w1.drew.cell? ⟨x.K, 2, none⟩ = _ from c2))
    have HOWN := Lib.hid HJ.out.own
    clear hst hstep k1 k2 d0 d1 d2 t0 t1 c1 c2
    go_region_held3 (fun w9 => w9.cell? ⟨w.heap.size, 1, none⟩ = some (.pointer (some ⟨x.q, 0, none⟩)) ∧ w9.cell? ⟨w.heap.size, 2, none⟩ = some (.pointer (some ⟨x.K, 0, none⟩)) ∧ w9.cell? ⟨w.heap.size + 1, 0, none⟩ = some (.pointer (some ⟨p, 0, none⟩)) ∧ w9.cell? ⟨w.heap.size + 1, 1, none⟩ = some (.pointer (some ⟨b, 0, none⟩)) ∧ w9.cell? ⟨x.K, 2, none⟩ = some (.int .i64 o'.err))
      (first | exact hs0.out | exact hs2.out | exact hs4.out | fail)
      (first
        | (go_at_call 35; with_reducible refine HST.out.mono ?_; rintro ee w2 ⟨rfl, f2, b2, x', xs, J2⟩; have HF2 := Lib.hid f2; have HB2 := Lib.hid b2; have HXS := Lib.hid xs; have HJ2 := Lib.hid J2; have HA := Lib.hid (fxl_box f2 HB.out HOWN.out HKa.out rfl); have HA2 := Lib.hid (fxl_box f2 HB.out HOWN.out HKb.out rfl); have hs2 := Lib.hid (held_sh HA.out HA2.out (j_err J2 xs)); have hov := sh_over J2 xs hkd; rw [hzb] at hov; have HOV := Lib.hid hov; have HGT := Lib.hid (sh_got J2 xs hkd); clear f2 b2 xs J2 hov)
        | (go_at_call 36; with_reducible refine HOV.out.mono ?_; rintro e4 w4 ⟨rfl, rfl⟩)
        | (go_at_call 37; with_reducible refine HGT.out.mono ?_; rintro e4 w4 ⟨rfl, rfl⟩)
        | (go_at_call 15; with_reducible refine (both_same HB2.out).mono ?_; rintro e4 w4 ⟨rfl, hb4⟩; have HB4 := Lib.hid hb4; have hs4 := Lib.hid (held_sh (HA.out.below hb4) (HA2.out.below hb4) (j_err (HJ2.out.below hb4) HXS.out)); clear hb4)
        | fail)
    all_goals
      go_wp2_with fail
      go_ret
      exact ⟨rfl, (HX.out.trans HF2.out).trans (.of_below HB4.out (by have := HS.out; have := HF2.out.low.size; omega)), HB2.out.below HB4.out, x', ⟨HXS.out.1, HXS.out.2.1, HXS.out.2.2.1, fun y hy => (HXS.out.2.2.2 y hy).imp id fun h => Nat.le_trans HS.out h⟩, o', HJ2.out.below HB4.out⟩
  · replace hz : o'.k.ln = 0 := by simpa using hz
    rw [hz] at c1
    go_upto_region 4 with (fail)
    have hzb : (o'.k.ln == 0) = true := by rw [hz]; rfl
    have hst := hstep _ (Below.refl _ w1).drew
    unfold JDone at hst
    rw [hzb] at hst
    have HST := Lib.hid hst
    have HK1 := Lib.hid (k1.below (Below.refl _ w1).drew)
    have HK2 := Lib.hid (k2.below (Below.refl _ w1).drew)
    have hs0 := Lib.hid (held_sh HK1.out HK2.out (show w1.drew.cell? ⟨x.K, 2, none⟩ = _ from c2))
    have HOWN := Lib.hid HJ.out.own
    clear hst hstep k1 k2 d0 d1 d2 t0 t1 c1 c2
    go_region_held3 (fun w9 => w9.cell? ⟨w.heap.size, 1, none⟩ = some (.pointer (some ⟨x.q, 0, none⟩)) ∧ w9.cell? ⟨w.heap.size, 2, none⟩ = some (.pointer (some ⟨x.K, 0, none⟩)) ∧ w9.cell? ⟨w.heap.size + 1, 0, none⟩ = some (.pointer (some ⟨p, 0, none⟩)) ∧ w9.cell? ⟨w.heap.size + 1, 1, none⟩ = some (.pointer (some ⟨b, 0, none⟩)) ∧ w9.cell? ⟨x.K, 2, none⟩ = some (.int .i64 o'.err))
      (first | exact hs0.out | exact hs2.out | exact hs4.out | fail)
      (first
        | (go_at_call 35; with_reducible refine HST.out.mono ?_; rintro ee w2 ⟨rfl, f2, b2, x', xs, J2⟩; have HF2 := Lib.hid f2; have HB2 := Lib.hid b2; have HXS := Lib.hid xs; have HJ2 := Lib.hid J2; have HA := Lib.hid (fxl_box f2 HB.out HOWN.out HKa.out rfl); have HA2 := Lib.hid (fxl_box f2 HB.out HOWN.out HKb.out rfl); have hs2 := Lib.hid (held_sh HA.out HA2.out (j_err J2 xs)); have hov := sh_over J2 xs hkd; rw [hzb] at hov; have HOV := Lib.hid hov; have HGT := Lib.hid (sh_got J2 xs hkd); clear f2 b2 xs J2 hov)
        | (go_at_call 36; with_reducible refine HOV.out.mono ?_; rintro e4 w4 ⟨rfl, rfl⟩)
        | (go_at_call 37; with_reducible refine HGT.out.mono ?_; rintro e4 w4 ⟨rfl, rfl⟩)
        | (go_at_call 15; with_reducible refine (both_same HB2.out).mono ?_; rintro e4 w4 ⟨rfl, hb4⟩; have HB4 := Lib.hid hb4; have hs4 := Lib.hid (held_sh (HA.out.below hb4) (HA2.out.below hb4) (j_err (HJ2.out.below hb4) HXS.out)); clear hb4)
        | fail)
    all_goals
      go_wp2_with fail
      go_ret
      exact ⟨rfl, (HX.out.trans HF2.out).trans (.of_below HB4.out (by have := HS.out; have := HF2.out.low.size; omega)), HB2.out.below HB4.out, x', ⟨HXS.out.1, HXS.out.2.1, HXS.out.2.2.1, fun y hy => (HXS.out.2.2.2 y hy).imp id fun h => Nat.le_trans HS.out h⟩, o', HJ2.out.below HB4.out⟩
end
end Go.Proofs.YtmjcbjcnmgleaaaGreatDoor
