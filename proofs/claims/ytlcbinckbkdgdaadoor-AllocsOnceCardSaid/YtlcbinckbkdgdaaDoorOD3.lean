/-
  A step of a thread, with a block of the caller's own that stands through it; condition: all lies as it says.
-/
import Derived.Test.YtlcbinckbkdgdaaDoorOA3
namespace Go.Proofs.YtlcbinckbkdgdaaDoor
open Go.RowKit Go.Maps

section
variable {B p b G k n H : Nat} {ob : Array Value} {ly : Nat → LY} {th : Nat → TA} {M : MV} {Mp : MA} {w w' w0 : World}
theorem Bq.fill3O {e r0 : Nat} {t : TypeId} {cs : List Value} {d0 d1 d2 : Value} (h : Bq e t cs w) (hn : e ≠ r0) : Bq e t cs (Go.Proofs.YtlcbinckbkdgdaaDoor.fill3 r0 d0 d1 d2 w) := ((h.setO hn 0 d0).setO hn 1 d1).setO hn 2 d2
set_option maxRecDepth 100000 in
set_option maxHeartbeats 8000000 in
theorem step_anyR (bb : Bool) (mo : Int) (hB : 1 < B) (hBw : B ≤ w0.heap.size) (hk : k < 5) (off : Nat) (hoff : off = 3 * k) (hn : n < 900000) {r9 : Nat} {cs9 : List Value} (W : TR B p b G H ob n r9 cs9 th Mp w0 w) (hmo : 0 ≤ mo ∧ mo < 4294967296) (hin : ∀ x ∈ (th k).held, 0 ≤ x.1 ∧ x.1 < 256) (hlen : (beginA (th k) bb mo).held.length < 100000)
    (hpop : ∀ o, (beginA (th k) bb mo).op = .al o → o.ln = 1 → o.pop.nx = 2 → 0 ≤ wSlot o.pop.h) :
    Calls Tryd.prog 22 #[.pointer (some ⟨G, off, none⟩), .pointer (some ⟨p, 0, none⟩), .bool bb, .int .u32 mo] w fun e w' => ∃ s g : Int, e = .returned (.tuple #[.agg #[.int .i64 s, .int .u32 g, .bool false], .bool (!(gotTA th k bb mo Mp).isEmpty)]) ∧ (∀ z r, gotTA th k bb mo Mp = z :: r → s = z.1 ∧ g = z.2) ∧ TR B p b G H ob (n + 1) r9 cs9 (stepTA th k bb mo Mp).1 (stepTA th k bb mo Mp).2 w0 w' := by
  have HIN := Lib.hid hin
  have HK := Lib.hid hoff
  have HLEN0 := Lib.hid hlen
  have HMO := Lib.hid hmo
  have HPOP := Lib.hid hpop
  obtain ⟨ly, M, hM, hst, W, hlow, hq9, HB9, hN9⟩ := W
  have hr0 : Bq w.heap.size 34 [.int .i64 0, .int .u32 0, .bool false] (w.alloc (.cells #[.int .i64 0, .int .u32 0, .bool false] 34)) := Bq.new _ _ _
  have hN0 := W.fresh (Nat.le_refl w.heap.size)
  have hbe : Below w.heap.size w (w.alloc (.cells #[.int .i64 0, .int .u32 0, .bool false] 34)) := (Below.refl _ _).alloc (Nat.le_refl _) _
  have H9R := Lib.hid (show r9 ≠ w.heap.size from by have := hq9.lt; omega)
  have HB0 : B ≤ w.heap.size := Nat.le_trans hBw hlow.size
  have HW := Lib.hid (show TW B p b G ly th M (w.alloc (.cells #[.int .i64 0, .int .u32 0, .bool false] 34)) ∧ Lw B H ob w0 (w.alloc (.cells #[.int .i64 0, .int .u32 0, .bool false] 34)) ∧ Bq w.heap.size 34 [.int .i64 0, .int .u32 0, .bool false] (w.alloc (.cells #[.int .i64 0, .int .u32 0, .bool false] 34)) ∧ Bq r9 34 cs9 (w.alloc (.cells #[.int .i64 0, .int .u32 0, .bool false] 34)) from ⟨W.below hbe, hlow.below hBw hbe, hr0, hq9.below hbe⟩)
  have HX0 := Lib.hid hN0
  have HX9 := Lib.hid hN9
  clear hin hoff hlen W hlow hr0 hbe hmo hpop hq9 hN0 hN9
  have HM1 := Lib.hid hM
  clear hM
  go_enter Tryd.func22, Tryd.ntmps22
  go_upto_region 1 with (fail)
  revert HW H9R HB0 HX0
  generalize w.alloc (.cells #[.int .i64 0, .int .u32 0, .bool false] 34) = X
  generalize w.heap.size = r0
  intro H9R HB0 HW HX0
  obtain ⟨W, hlow, hq0, hq9⟩ := HW.out
  have hM := HM1.out
  have hN0 := HX0.out
  have hN9 := HX9.out
  clear HX0 HX9 HM1
  have HL0 := Lib.hid (W.tl hk)
  have HR := Lib.hid (W.row k hk)
  have HSR := Lib.hid (W.sr hk)
  have hop := W.op k hk
  have hown := W.own k hk
  have hso := W.so hk
  have HLOW := Lib.hid hlow
  have HQ0 := Lib.hid hq0
  have H90 := Lib.hid hq9
  have HNV := Lib.hid (hN0 k hk)
  have H9V := Lib.hid (hN9 k hk)
  have HN0 := Lib.hid (fun j (hj : j < 5) (_ : j ≠ k) => hN0 j hj)
  have H9N := Lib.hid (fun j (hj : j < 5) (_ : j ≠ k) => hN9 j hj)
  have HMM := Lib.hid hM
  clear W hlow hq0 hq9 hN0 hN9 hM HW
  generalize (ly k).h = vh at *
  generalize (ly k).a = va at *
  generalize (ly k).f = vf at *
  generalize (ly k).fp = fp at *
  cases ho : (th k).op with
  | no =>
    rw [ho] at hop
    obtain ⟨rfl, rfl, rfl⟩ := hop
    clear hown hso
    by_cases hb : bb = true ∧ (th k).held ≠ []
    · obtain ⟨rfl, hne⟩ := hb
      obtain ⟨x, hl, hh⟩ : ∃ x r, (th k).held = x :: r := by
        cases hh : (th k).held with
        | nil => exact absurd hh hne
        | cons x r => exact ⟨x, r, rfl⟩
      have hx := HIN.out x (by rw [hh]; simp)
      obtain ⟨fx, hfx⟩ : ∃ fx, fx = (⟨newFr x.1 mo, 0⟩ : FX) := ⟨_, rfl⟩
      have HFX := Lib.hid hfx
      have HBG := Lib.hid (show beginA (th k) true mo = ⟨hl, .fr fx.o⟩ by rw [hfx]; simp [beginA, ho, hh])
      have HR0 := HR.out
      rw [hh] at HR0
      clear hh hne HR HIN HPOP HLEN0 ho hfx
      obtain ⟨A, c, rfl, hc1, hc2⟩ : ∃ A c, vh = .slice A (hl.length + 1) c ∧ hl.length + 1 ≤ c ∧ c ≤ 9223372036854775807 := by
        obtain ⟨A, c, e, h2, h3, _⟩ := HR0
        exact ⟨A, c, by simpa using e, by simpa using h2, h3⟩
      obtain ⟨_, g, o2, rfl, gB, y0, _, _⟩ := HR0.at_ (j := 0) (by omega)
      simp only [List.getD_cons_zero, Nat.add_zero, Nat.mul_zero] at y0
      have HT := Lib.hid HR0.tail
      clear HR0
      obtain ⟨m, hm⟩ : ∃ m, hl.length = m := ⟨_, rfl⟩
      rw [hm] at HT hc1 HL0 HSR HNV
      have HM := Lib.hid hm
      clear hm
      obtain ⟨hx0, hx1⟩ := hx
      obtain ⟨hm0, hm1⟩ := HMO.out
      have hcells := HL0.out.cells
      obtain ⟨c0, c1, c2, cf⟩ := hcells
      rw [← HK.out] at c0 c1 c2
      have z0 := cf off
      have z2 := cf (off + 2)
      clear cf
      go_wp2_with fail
      ((with_reducible refine (newFree_yes mo hx0 hx1 X).mono ?_); rintro e w1 ⟨q, r, rfl, hr, hq, kq, kr, hb1⟩)
      have HL1 := Lib.hid (HL0.out.below hb1)
      have HT1 := Lib.hid (HT.out.below hb1)
      have HLOW1 := Lib.hid (HLOW.out.below hBw hb1)
      have HQ1 := Lib.hid (HQ0.out.below hb1)
      have H91 := Lib.hid (H90.out.below hb1)
      have hBX : B ≤ X.heap.size := Nat.le_trans hBw HLOW.out.size
      have HSO := Lib.hid (show SepO k ly [q, r, r] from HL0.out.so_new (fun y hy => by
        simp only [List.mem_cons, List.not_mem_nil, or_false] at hy
        omega))
      have HREP1 := Lib.hid (show FrRep q r r fx w1 from by rw [HFX.out]; exact .inr (.inl ⟨_, _, _, .l1 rfl, kq, kr⟩))
      have HNUM := Lib.hid (show FrNum fx from by rw [HFX.out]; exact FrNum.new ⟨hx0, hx1⟩ ⟨hm0, hm1⟩)
      have HLN := Lib.hid (show fx.o.ln ≠ 0 from by rw [HFX.out]; exact (by decide : (1 : Int) ≠ 0))
      have HOWN1 := Lib.hid (show ∀ y ∈ [q, r, r], Own B y w1 from by
        intro y hy
        simp only [List.mem_cons, List.not_mem_nil, or_false] at hy
        rcases hy with rfl | rfl | rfl
        · exact ⟨by omega, _, _, kq, by decide, by decide, by decide, by decide⟩
        · exact ⟨by omega, _, _, kr, by decide, by decide, by decide, by decide⟩
        · exact ⟨by omega, _, _, kr, by decide, by decide, by decide, by decide⟩)
      have HNE := Lib.hid (⟨HNV.out, HSR.out⟩ : _ ∧ _)
      have H9E := Lib.hid H9V.out
      clear hr hq kq kr hb1 hBX c0 c1 c2 z0 z2 y0 HL0 HT HLOW HQ0 H90 HSR HNV H9V hm0 hm1
      have hcells := HL1.out.cells
      obtain ⟨c0, c1, c2, cf⟩ := hcells
      rw [← HK.out] at c0 c1 c2
      have z0 := cf off
      have z2 := cf (off + 2)
      clear cf
      have HL2 := Lib.hid (HL1.out.set2 hB hk (.pointer (some ⟨q, 0, none⟩)) (a := ⟨G, off + 2, none⟩) (by rw [HK.out]))
      have hN2 : ∀ v, hblk v = some r0 → hblk (.slice (some ⟨g, o2, none⟩) (m + 1) c) = some r0 → False := fun v _ h => HNE.out.1 h
      clear hN2
      by_cases hc : c = 1
      · subst hc
        obtain rfl : m = 0 := by omega
        have HV := Lib.hid (show hl = [] from List.eq_nil_of_length_eq_zero HM.out)
        go_upto_region 6 with (fail)
        have HL := Lib.hid (HL2.out.set0 hB hk (.slice (some ⟨g, o2, none⟩) 0 0) (a := ⟨G, off, none⟩) (by rw [HK.out]))
        have hT2 : HRow w1 B (.slice (some ⟨g, o2, none⟩) 0 0) hl := by
          have := HT1.out
          rw [HV.out] at this ⊢
          simpa using this
        have HR := Lib.hid ((hT2.setG HL1.out (a := ⟨G, off + 2, none⟩) rfl (.pointer (some ⟨q, 0, none⟩))).setG HL2.out (a := ⟨G, off, none⟩) rfl (.slice (some ⟨g, o2, none⟩) 0 0))
        have HSR := Lib.hid (show SepR k ly (.slice (some ⟨g, o2, none⟩) 0 0) from fun j hj hjk g' hg' => by simp [hblk] at hg')
        have HNV := Lib.hid (show hblk (.slice (some ⟨g, o2, none⟩) 0 0) ≠ some r0 from by simp [hblk])
        have H9V := Lib.hid (show hblk (.slice (some ⟨g, o2, none⟩) 0 0) ≠ some r9 from by simp [hblk])
        have HLOW := Lib.hid ((HLOW1.out.setG HL1.out (a := ⟨G, off + 2, none⟩) rfl (.pointer (some ⟨q, 0, none⟩))).setG HL2.out (a := ⟨G, off, none⟩) rfl (.slice (some ⟨g, o2, none⟩) 0 0))
        have hsame : ∀ y, Own B y w1 → ((w1.setCell ⟨G, off + 2, none⟩ (.pointer (some ⟨q, 0, none⟩))).setCell ⟨G, off, none⟩ (.slice (some ⟨g, o2, none⟩) 0 0)).heap[y]? = w1.heap[y]? := fun y hy => ((hy.same (hy.setG HL1.out (a := ⟨G, off + 2, none⟩) rfl _)).setG HL2.out (a := ⟨G, off, none⟩) rfl _).trans (hy.setG HL1.out (a := ⟨G, off + 2, none⟩) rfl _)
        have HREP := Lib.hid (HREP1.out.same (hsame q (HOWN1.out q (by simp))) (hsame r (HOWN1.out r (by simp))) (hsame r (HOWN1.out r (by simp))))
        have HOWN := Lib.hid (fun y hy => (HOWN1.out y hy).same (hsame y (HOWN1.out y hy)))
        have HQ0 := Lib.hid (show Bq r0 34 [.int .i64 0, .int .u32 0, .bool false] ((w1.setCell ⟨G, off + 2, none⟩ (.pointer (some ⟨q, 0, none⟩))).setCell ⟨G, off, none⟩ (.slice (some ⟨g, o2, none⟩) 0 0)) from by
          obtain ⟨gcs, gb⟩ := HL1.out.gb
          have h := HQ1.out.ne gb (by decide)
          exact (HQ1.out.setO h _ _).setO h _ _)
        have H90 := Lib.hid (show Bq r9 34 cs9 ((w1.setCell ⟨G, off + 2, none⟩ (.pointer (some ⟨q, 0, none⟩))).setCell ⟨G, off, none⟩ (.slice (some ⟨g, o2, none⟩) 0 0)) from by
          obtain ⟨gcs, gb⟩ := HL1.out.gb
          have h := H91.out.ne gb (by decide)
          exact (H91.out.setO h _ _).setO h _ _)
        clear hsame hT2 c0 c1 c2 z0 z2 HL1 HL2 HREP1 HOWN1 HQ1 H91 HLOW1 HT1 HNE H9E hc1 hc2 hx0 hx1
        revert HL HR HLOW HREP HOWN HQ0 H90
        generalize (w1.setCell ⟨G, off + 2, none⟩ (.pointer (some ⟨q, 0, none⟩))).setCell ⟨G, off, none⟩ (.slice (some ⟨g, o2, none⟩) 0 0) = X9
        intro HL HR HLOW HREP HOWN HQ0 H90
        generalize Value.slice (some ⟨g, o2, none⟩) 0 0 = vh at *
        have hcells := HL.out.cells
        obtain ⟨c0, c1, c2, cf⟩ := hcells
        rw [← HK.out] at c0 c1 c2
        have z0 := cf off
        have z1 := cf (off + 1)
        have z2 := cf (off + 2)
        have hq3 := Bq.s3 HQ0.out
        obtain ⟨f0, f1, f2, y0, y1, y2⟩ := hq3
        clear cf
        have hBr : B ≤ q ∧ B ≤ r ∧ B ≤ r := ⟨(HOWN.out q (by simp)).1, (HOWN.out r (by simp)).1, (HOWN.out r (by simp)).1⟩
        have hBr' := Lib.hid hBr
        obtain ⟨b1, b2, b3⟩ := hBr
        go_wp2_with fail
        ((with_reducible refine (free_stepX (by omega) (by omega) (by omega) HL.out.fm (by omega) HNUM.out HREP.out).mono ?_); rintro e w2 ⟨rfl, r', r1', k1, k2, k3, k4, k5⟩)
        have HL2 := Lib.hid (HL.out.step k2 k3 HOWN.out HSO.out)
        have HR2 := Lib.hid (HR.out.step HL.out.fm k3 HOWN.out)
        have HLOW2 := Lib.hid (HLOW.out.onl hBw HL.out k3 HOWN.out)
        have HQ2 := Lib.hid (HQ0.out.onl k3 (HL.out.fm.ne (by decide) HQ0.out).1 (HL.out.fm.ne (by decide) HQ0.out).2 (fun hx => (HOWN.out r0 hx).neB HQ0.out (.inl rfl) rfl))
        have H92 := Lib.hid (H90.out.onl k3 (HL.out.fm.ne (by decide) H90.out).1 (HL.out.fm.ne (by decide) H90.out).2 (fun hx => (HOWN.out r9 hx).neB H90.out (.inl rfl) rfl))
        have hXs : B ≤ X9.heap.size := Nat.le_trans hBw HLOW.out.size
        have hBs : B ≤ r' ∧ B ≤ r1' := ⟨by omega, by omega⟩
        have HBS := Lib.hid hBs
        have HNUM2 := Lib.hid (HNUM.out.step HL.out.fm.u64)
        have HST2 := Lib.hid (frX_st fx M)
        have HGO := Lib.hid (fr_go (hl := hl) HMM.out HNUM.out)
        have HK1 := Lib.hid k1
        have HK45 := Lib.hid (⟨k4, k5⟩ : _ ∧ _)
        clear k1 k2 k3 k4 k5 hBs hXs c0 c1 c2 z0 z1 z2 f0 f1 f2 y0 y1 y2 HR HQ0 H90 HLOW b1 b2 b3
        have hcells := HL2.out.cells
        obtain ⟨c0, c1, c2, cf⟩ := hcells
        rw [← HK.out] at c0 c1 c2
        have z0 := cf off
        have z1 := cf (off + 1)
        have z2 := cf (off + 2)
        have hq3 := Bq.s3 HQ2.out
        obtain ⟨f0, f1, f2, y0, y1, y2⟩ := hq3
        clear cf
        by_cases hz : (frX fx M).1.o.ln = 0
        · rw [hz]
          have HZ := Lib.hid hz
          clear hz
          have hL3 := HL2.out.set2 hB hk (.pointer none) (a := ⟨G, off + 2, none⟩) (by rw [HK.out])
          have HL3 := Lib.hid hL3
          have HQ3 := Lib.hid (show Bq r0 34 [.int .i64 0, .int .u32 0, .bool false] (w2.setCell ⟨G, off + 2, none⟩ (.pointer none)) from by
            obtain ⟨gcs, gb⟩ := HL2.out.gb
            exact HQ2.out.setO (HQ2.out.ne gb (by decide)) _ _)
          have H93 := Lib.hid (show Bq r9 34 cs9 (w2.setCell ⟨G, off + 2, none⟩ (.pointer none)) from by
            obtain ⟨gcs, gb⟩ := HL2.out.gb
            exact H92.out.setO (H92.out.ne gb (by decide)) _ _)
          have HF := Lib.hid (hL3.tw hk (t := ⟨hl, .no⟩) (fp := []) (HR2.out.setG HL2.out rfl _) ⟨rfl, rfl, rfl⟩ (by simp) HSR.out (fun j _ _ x hx => by cases hx))
          have hq3 := Bq.s3 HQ3.out
          obtain ⟨f0', f1', f2', y0', y1', y2'⟩ := hq3
          clear hL3
          go_wp2_with fail
          ((try simp only [Exit.inBlock, Exit.then]); refine bodyPost_ret (results_two rfl _ _ _ _ _ _ _ rfl (HQ3.out.fill3 (d0 := .int .i64 0) (d1 := .int .u32 0) (d2 := .bool false)) rfl rfl rfl) rfl ?_)
          obtain ⟨e1, e2⟩ := step_eq (Mp := Mp) HBG.out
          obtain ⟨e3, e4⟩ := HGO.out
          rw [if_pos HZ.out] at e3
          refine ⟨0, 0, ?_, ?_, ?_⟩
          · rw [e2, e4]; rfl
          · rw [e2, e4]; intro z r h; cases h
          · rw [e1, e3]
            exact ⟨_, _, rfl, by have := HST2.out; push_cast; omega, HF.out.fill hB HB0 HQ3.out (SepR.n0 HN0.out HNV.out _), (HLOW2.out.setG HL2.out rfl _).fill HB0 HQ3.out, H93.out.fill3O H9R.out, HB9, SepR.n0 H9N.out H9V.out _⟩
        · have HZ := Lib.hid hz
          have hzb := fls hz
          rw [hzb]
          clear hz hzb
          obtain ⟨r2, hr2, hrep2, o1, o2, o3⟩ := HK1.out.tidy HZ.out HNUM2.out hBr'.out.1 HBS.out.1 HBS.out.2
          have HF := Lib.hid (HL2.out.tw hk (t := ⟨hl, .fr (frX fx M).1.o⟩) (fp := [q, r', r2]) HR2.out ⟨(frX fx M).1, q, r', r2, rfl, rfl, HZ.out, HNUM2.out, hrep2, rfl, rfl⟩ (fun x hx => by
            simp only [List.mem_cons, List.not_mem_nil, or_false] at hx
            rcases hx with rfl | rfl | rfl
            · exact o1
            · exact o2
            · exact o3) HSR.out (HL.out.so_step HSO.out HK45.out.1 HK45.out.2 hr2))
          clear hr2 hrep2 o1 o2 o3
          go_wp2_with fail
          ((try simp only [Exit.inBlock, Exit.then]); refine bodyPost_ret (results_two rfl _ _ _ _ _ _ _ rfl (HQ2.out.fill3 (d0 := .int .i64 0) (d1 := .int .u32 0) (d2 := .bool false)) rfl rfl rfl) rfl ?_)
          obtain ⟨e1, e2⟩ := step_eq (Mp := Mp) HBG.out
          obtain ⟨e3, e4⟩ := HGO.out
          rw [if_neg HZ.out] at e3
          refine ⟨0, 0, ?_, ?_, ?_⟩
          · rw [e2, e4]; rfl
          · rw [e2, e4]; intro z r h; cases h
          · rw [e1, e3]
            exact ⟨_, _, rfl, by have := HST2.out; push_cast; omega, HF.out.fill hB HB0 HQ2.out (SepR.n0 HN0.out HNV.out _), HLOW2.out.fill HB0 HQ2.out, H92.out.fill3O H9R.out, HB9, SepR.n0 H9N.out H9V.out _⟩
      · have hmc : m + 1 < c ∨ m + 1 = c := by omega
        go_upto_region 6 with (fail)
        have HL := Lib.hid (HL2.out.set0 hB hk (.slice (some ⟨g, o2 + 3, none⟩) m (c - 1)) (a := ⟨G, off, none⟩) (by rw [HK.out]))
        have hT2 : HRow w1 B (.slice (some ⟨g, o2 + 3, none⟩) m (c - 1)) hl := by
          have := HT1.out
          simpa [hc] using this
        have htl : ∀ g', hblk (.slice (some ⟨g, o2 + 3, none⟩) m (c - 1)) = some g' → hblk (.slice (some ⟨g, o2, none⟩) (m + 1) c) = some g' := fun g' hg' => hblk_tail (off := o2) (by rw [if_neg hc]; exact hg') (by omega)
        have HR := Lib.hid ((hT2.setG HL1.out (a := ⟨G, off + 2, none⟩) rfl (.pointer (some ⟨q, 0, none⟩))).setG HL2.out (a := ⟨G, off, none⟩) rfl (.slice (some ⟨g, o2 + 3, none⟩) m (c - 1)))
        have HSR := Lib.hid (show SepR k ly (.slice (some ⟨g, o2 + 3, none⟩) m (c - 1)) from fun j hj hjk g' hg' => HNE.out.2 j hj hjk g' (htl g' hg'))
        have HNV := Lib.hid (show hblk (.slice (some ⟨g, o2 + 3, none⟩) m (c - 1)) ≠ some r0 from fun e => HNE.out.1 (htl r0 e))
        have H9V := Lib.hid (show hblk (.slice (some ⟨g, o2 + 3, none⟩) m (c - 1)) ≠ some r9 from fun e => H9E.out (htl r9 e))
        clear htl hmc
        have HLOW := Lib.hid ((HLOW1.out.setG HL1.out (a := ⟨G, off + 2, none⟩) rfl (.pointer (some ⟨q, 0, none⟩))).setG HL2.out (a := ⟨G, off, none⟩) rfl (.slice (some ⟨g, o2 + 3, none⟩) m (c - 1)))
        have hsame : ∀ y, Own B y w1 → ((w1.setCell ⟨G, off + 2, none⟩ (.pointer (some ⟨q, 0, none⟩))).setCell ⟨G, off, none⟩ (.slice (some ⟨g, o2 + 3, none⟩) m (c - 1))).heap[y]? = w1.heap[y]? := fun y hy => ((hy.same (hy.setG HL1.out (a := ⟨G, off + 2, none⟩) rfl _)).setG HL2.out (a := ⟨G, off, none⟩) rfl _).trans (hy.setG HL1.out (a := ⟨G, off + 2, none⟩) rfl _)
        have HREP := Lib.hid (HREP1.out.same (hsame q (HOWN1.out q (by simp))) (hsame r (HOWN1.out r (by simp))) (hsame r (HOWN1.out r (by simp))))
        have HOWN := Lib.hid (fun y hy => (HOWN1.out y hy).same (hsame y (HOWN1.out y hy)))
        have HQ0 := Lib.hid (show Bq r0 34 [.int .i64 0, .int .u32 0, .bool false] ((w1.setCell ⟨G, off + 2, none⟩ (.pointer (some ⟨q, 0, none⟩))).setCell ⟨G, off, none⟩ (.slice (some ⟨g, o2 + 3, none⟩) m (c - 1))) from by
          obtain ⟨gcs, gb⟩ := HL1.out.gb
          have h := HQ1.out.ne gb (by decide)
          exact (HQ1.out.setO h _ _).setO h _ _)
        have H90 := Lib.hid (show Bq r9 34 cs9 ((w1.setCell ⟨G, off + 2, none⟩ (.pointer (some ⟨q, 0, none⟩))).setCell ⟨G, off, none⟩ (.slice (some ⟨g, o2 + 3, none⟩) m (c - 1))) from by
          obtain ⟨gcs, gb⟩ := HL1.out.gb
          have h := H91.out.ne gb (by decide)
          exact (H91.out.setO h _ _).setO h _ _)
        clear hsame hT2 c0 c1 c2 z0 z2 HL1 HL2 HREP1 HOWN1 HQ1 H91 HLOW1 HT1 HNE H9E hc1 hc2 hx0 hx1
        revert HL HR HLOW HREP HOWN HQ0 H90
        generalize (w1.setCell ⟨G, off + 2, none⟩ (.pointer (some ⟨q, 0, none⟩))).setCell ⟨G, off, none⟩ (.slice (some ⟨g, o2 + 3, none⟩) m (c - 1)) = X9
        intro HL HR HLOW HREP HOWN HQ0 H90
        generalize Value.slice (some ⟨g, o2 + 3, none⟩) m (c - 1) = vh at *
        have hcells := HL.out.cells
        obtain ⟨c0, c1, c2, cf⟩ := hcells
        rw [← HK.out] at c0 c1 c2
        have z0 := cf off
        have z1 := cf (off + 1)
        have z2 := cf (off + 2)
        have hq3 := Bq.s3 HQ0.out
        obtain ⟨f0, f1, f2, y0, y1, y2⟩ := hq3
        clear cf
        have hBr : B ≤ q ∧ B ≤ r ∧ B ≤ r := ⟨(HOWN.out q (by simp)).1, (HOWN.out r (by simp)).1, (HOWN.out r (by simp)).1⟩
        have hBr' := Lib.hid hBr
        obtain ⟨b1, b2, b3⟩ := hBr
        go_wp2_with fail
        ((with_reducible refine (free_stepX (by omega) (by omega) (by omega) HL.out.fm (by omega) HNUM.out HREP.out).mono ?_); rintro e w2 ⟨rfl, r', r1', k1, k2, k3, k4, k5⟩)
        have HL2 := Lib.hid (HL.out.step k2 k3 HOWN.out HSO.out)
        have HR2 := Lib.hid (HR.out.step HL.out.fm k3 HOWN.out)
        have HLOW2 := Lib.hid (HLOW.out.onl hBw HL.out k3 HOWN.out)
        have HQ2 := Lib.hid (HQ0.out.onl k3 (HL.out.fm.ne (by decide) HQ0.out).1 (HL.out.fm.ne (by decide) HQ0.out).2 (fun hx => (HOWN.out r0 hx).neB HQ0.out (.inl rfl) rfl))
        have H92 := Lib.hid (H90.out.onl k3 (HL.out.fm.ne (by decide) H90.out).1 (HL.out.fm.ne (by decide) H90.out).2 (fun hx => (HOWN.out r9 hx).neB H90.out (.inl rfl) rfl))
        have hXs : B ≤ X9.heap.size := Nat.le_trans hBw HLOW.out.size
        have hBs : B ≤ r' ∧ B ≤ r1' := ⟨by omega, by omega⟩
        have HBS := Lib.hid hBs
        have HNUM2 := Lib.hid (HNUM.out.step HL.out.fm.u64)
        have HST2 := Lib.hid (frX_st fx M)
        have HGO := Lib.hid (fr_go (hl := hl) HMM.out HNUM.out)
        have HK1 := Lib.hid k1
        have HK45 := Lib.hid (⟨k4, k5⟩ : _ ∧ _)
        clear k1 k2 k3 k4 k5 hBs hXs c0 c1 c2 z0 z1 z2 f0 f1 f2 y0 y1 y2 HR HQ0 H90 HLOW b1 b2 b3
        have hcells := HL2.out.cells
        obtain ⟨c0, c1, c2, cf⟩ := hcells
        rw [← HK.out] at c0 c1 c2
        have z0 := cf off
        have z1 := cf (off + 1)
        have z2 := cf (off + 2)
        have hq3 := Bq.s3 HQ2.out
        obtain ⟨f0, f1, f2, y0, y1, y2⟩ := hq3
        clear cf
        by_cases hz : (frX fx M).1.o.ln = 0
        · rw [hz]
          have HZ := Lib.hid hz
          clear hz
          have hL3 := HL2.out.set2 hB hk (.pointer none) (a := ⟨G, off + 2, none⟩) (by rw [HK.out])
          have HL3 := Lib.hid hL3
          have HQ3 := Lib.hid (show Bq r0 34 [.int .i64 0, .int .u32 0, .bool false] (w2.setCell ⟨G, off + 2, none⟩ (.pointer none)) from by
            obtain ⟨gcs, gb⟩ := HL2.out.gb
            exact HQ2.out.setO (HQ2.out.ne gb (by decide)) _ _)
          have H93 := Lib.hid (show Bq r9 34 cs9 (w2.setCell ⟨G, off + 2, none⟩ (.pointer none)) from by
            obtain ⟨gcs, gb⟩ := HL2.out.gb
            exact H92.out.setO (H92.out.ne gb (by decide)) _ _)
          have HF := Lib.hid (hL3.tw hk (t := ⟨hl, .no⟩) (fp := []) (HR2.out.setG HL2.out rfl _) ⟨rfl, rfl, rfl⟩ (by simp) HSR.out (fun j _ _ x hx => by cases hx))
          have hq3 := Bq.s3 HQ3.out
          obtain ⟨f0', f1', f2', y0', y1', y2'⟩ := hq3
          clear hL3
          go_wp2_with fail
          ((try simp only [Exit.inBlock, Exit.then]); refine bodyPost_ret (results_two rfl _ _ _ _ _ _ _ rfl (HQ3.out.fill3 (d0 := .int .i64 0) (d1 := .int .u32 0) (d2 := .bool false)) rfl rfl rfl) rfl ?_)
          obtain ⟨e1, e2⟩ := step_eq (Mp := Mp) HBG.out
          obtain ⟨e3, e4⟩ := HGO.out
          rw [if_pos HZ.out] at e3
          refine ⟨0, 0, ?_, ?_, ?_⟩
          · rw [e2, e4]; rfl
          · rw [e2, e4]; intro z r h; cases h
          · rw [e1, e3]
            exact ⟨_, _, rfl, by have := HST2.out; push_cast; omega, HF.out.fill hB HB0 HQ3.out (SepR.n0 HN0.out HNV.out _), (HLOW2.out.setG HL2.out rfl _).fill HB0 HQ3.out, H93.out.fill3O H9R.out, HB9, SepR.n0 H9N.out H9V.out _⟩
        · have HZ := Lib.hid hz
          have hzb := fls hz
          rw [hzb]
          clear hz hzb
          obtain ⟨r2, hr2, hrep2, o1, o2, o3⟩ := HK1.out.tidy HZ.out HNUM2.out hBr'.out.1 HBS.out.1 HBS.out.2
          have HF := Lib.hid (HL2.out.tw hk (t := ⟨hl, .fr (frX fx M).1.o⟩) (fp := [q, r', r2]) HR2.out ⟨(frX fx M).1, q, r', r2, rfl, rfl, HZ.out, HNUM2.out, hrep2, rfl, rfl⟩ (fun x hx => by
            simp only [List.mem_cons, List.not_mem_nil, or_false] at hx
            rcases hx with rfl | rfl | rfl
            · exact o1
            · exact o2
            · exact o3) HSR.out (HL.out.so_step HSO.out HK45.out.1 HK45.out.2 hr2))
          clear hr2 hrep2 o1 o2 o3
          go_wp2_with fail
          ((try simp only [Exit.inBlock, Exit.then]); refine bodyPost_ret (results_two rfl _ _ _ _ _ _ _ rfl (HQ2.out.fill3 (d0 := .int .i64 0) (d1 := .int .u32 0) (d2 := .bool false)) rfl rfl rfl) rfl ?_)
          obtain ⟨e1, e2⟩ := step_eq (Mp := Mp) HBG.out
          obtain ⟨e3, e4⟩ := HGO.out
          rw [if_neg HZ.out] at e3
          refine ⟨0, 0, ?_, ?_, ?_⟩
          · rw [e2, e4]; rfl
          · rw [e2, e4]; intro z r h; cases h
          · rw [e1, e3]
            exact ⟨_, _, rfl, by have := HST2.out; push_cast; omega, HF.out.fill hB HB0 HQ2.out (SepR.n0 HN0.out HNV.out _), HLOW2.out.fill HB0 HQ2.out, H92.out.fill3O H9R.out, HB9, SepR.n0 H9N.out H9V.out _⟩
    · obtain ⟨ox, hox⟩ : ∃ ox, ox = (⟨newAl, 0⟩ : AX) := ⟨_, rfl⟩
      have HOX := Lib.hid hox
      have HBG := Lib.hid (show beginA (th k) bb mo = ⟨(th k).held, .al ox.o⟩ by rw [hox]; simp only [beginA, ho, if_neg hb])
      have hb' : bb = false ∨ bb = true ∧ (th k).held.length = 0 := by
        by_cases h1 : bb = true
        · exact .inr ⟨h1, by simpa [h1] using hb⟩
        · exact .inl (by simpa using h1)
      have hlen : (th k).held.length < 100000 := by have h := HLEN0.out; rw [HBG.out] at h; exact h
      have HHL := Lib.hid hlen
      have HP2 := Lib.hid (HPOP.out ox.o (by rw [HBG.out]))
      clear hb hox hlen HLEN0 HIN HPOP ho
      obtain ⟨A, m, c, rfl, hm⟩ : ∃ A m c, vh = .slice A m c ∧ m = (th k).held.length := by
        obtain ⟨A, c, e, _⟩ := HR.out
        exact ⟨A, _, c, e, rfl⟩
      generalize (th k).held = hl at *
      obtain ⟨m', bb', hm', hbb⟩ : ∃ m' : Nat, ∃ bb' : Bool, m = m' ∧ bb = bb' ∧ (bb' = false ∨ bb' = true ∧ m' = 0) := ⟨m, bb, rfl, rfl, by rw [hm]; exact hb'⟩
      clear hb' hm
      subst hm'
      obtain ⟨rfl, hbb⟩ := hbb
      rcases hbb with rfl | ⟨rfl, rfl⟩
      all_goals
        have hcells := HL0.out.cells
        obtain ⟨c0, c1, c2, cf⟩ := hcells
        rw [← HK.out] at c0 c1 c2
        clear cf
        go_wp2_with fail
        ((with_reducible refine (newAlloc_any X).mono ?_); rintro e w1 ⟨q, r, rfl, hr, hq, kq, kr, hb1⟩)
        have HL1 := Lib.hid (HL0.out.below hb1)
        have HR1 := Lib.hid (HR.out.below hb1)
        have HLOW1 := Lib.hid (HLOW.out.below hBw hb1)
        have HQ1 := Lib.hid (HQ0.out.below hb1)
        have H91 := Lib.hid (H90.out.below hb1)
        have hBX : B ≤ X.heap.size := Nat.le_trans hBw HLOW.out.size
        have HSO := Lib.hid (show SepO k ly [q, r, r] from HL0.out.so_new (fun y hy => by
          simp only [List.mem_cons, List.not_mem_nil, or_false] at hy
          omega))
        have HREP1 := Lib.hid (show AlRep q r r ox w1 from by rw [HOX.out]; exact .inr (.inl ⟨_, _, _, _, _, .l1 rfl, fun hh => absurd rfl hh, fun hh => absurd (show (1 : Int) = 7 from hh) (by decide), kq, kr⟩))
        have HNUM := Lib.hid (show AlNum ox from by rw [HOX.out]; exact AlNum.new)
        have HLN := Lib.hid (show ox.o.ln ≠ 0 from by rw [HOX.out]; exact (by decide : (1 : Int) ≠ 0))
        have HOWN1 := Lib.hid (show ∀ y ∈ [q, r, r], Own B y w1 from by
          have o1 : Own B r w1 := ⟨by omega, _, [_, _, _], kr, by decide, by decide, by decide, by decide⟩
          intro y hy
          simp only [List.mem_cons, List.not_mem_nil, or_false] at hy
          rcases hy with rfl | rfl | rfl
          · exact ⟨by omega, _, _, kq, by decide, by decide, by decide, by decide⟩
          · exact o1
          · exact o1)
        clear hr hq kq kr hb1 hBX c0 c1 c2 HL0 HR HLOW HQ0 H90
        have hcells := HL1.out.cells
        obtain ⟨c0, c1, c2, cf⟩ := hcells
        rw [← HK.out] at c0 c1 c2
        have z1 := cf (off + 1)
        clear cf
        go_upto_region 6 with (fail)
        have HL := Lib.hid (HL1.out.set1 hB hk (.pointer (some ⟨q, 0, none⟩)) (a := ⟨G, off + 1, none⟩) (by rw [HK.out]))
        have HR := Lib.hid (HR1.out.setG HL1.out (a := ⟨G, off + 1, none⟩) rfl (.pointer (some ⟨q, 0, none⟩)))
        have HLOW := Lib.hid (HLOW1.out.setG HL1.out (a := ⟨G, off + 1, none⟩) rfl (.pointer (some ⟨q, 0, none⟩)))
        have hsame : ∀ y, Own B y w1 → (w1.setCell ⟨G, off + 1, none⟩ (.pointer (some ⟨q, 0, none⟩))).heap[y]? = w1.heap[y]? := fun y hy => hy.setG HL1.out (a := ⟨G, off + 1, none⟩) rfl _
        have HREP := Lib.hid (HREP1.out.same (hsame q (HOWN1.out q (by simp))) (hsame r (HOWN1.out r (by simp))) (hsame r (HOWN1.out r (by simp))))
        have HOWN := Lib.hid (fun y hy => (HOWN1.out y hy).same (hsame y (HOWN1.out y hy)))
        have HQ0 := Lib.hid (show Bq r0 34 [.int .i64 0, .int .u32 0, .bool false] (w1.setCell ⟨G, off + 1, none⟩ (.pointer (some ⟨q, 0, none⟩))) from by
          obtain ⟨gcs, gb⟩ := HL1.out.gb
          exact HQ1.out.setO (HQ1.out.ne gb (by decide)) _ _)
        have H90 := Lib.hid (show Bq r9 34 cs9 (w1.setCell ⟨G, off + 1, none⟩ (.pointer (some ⟨q, 0, none⟩))) from by
          obtain ⟨gcs, gb⟩ := HL1.out.gb
          exact H91.out.setO (H91.out.ne gb (by decide)) _ _)
        clear hsame c0 c1 c2 z1 HL1 HREP1 HOWN1 HQ1 H91 HLOW1 HR1
        revert HL HR HLOW HREP HOWN HQ0 H90
        generalize w1.setCell ⟨G, off + 1, none⟩ (.pointer (some ⟨q, 0, none⟩)) = X9
        intro HL HR HLOW HREP HOWN HQ0 H90
        generalize Value.slice A _ c = vh at *
        have hcells := HL.out.cells
        obtain ⟨c0, c1, c2, cf⟩ := hcells
        rw [← HK.out] at c0 c1 c2
        have z0 := cf off
        have z1 := cf (off + 1)
        have z2 := cf (off + 2)
        have hq3 := Bq.s3 HQ0.out
        obtain ⟨f0, f1, f2, y0, y1, y2⟩ := hq3
        clear cf
        have hBr : B ≤ q ∧ B ≤ r ∧ B ≤ r := ⟨(HOWN.out q (by simp)).1, (HOWN.out r (by simp)).1, (HOWN.out r (by simp)).1⟩
        have hBr' := Lib.hid hBr
        obtain ⟨b1, b2, b3⟩ := hBr
        go_wp2_with fail
        ((with_reducible refine (alloc_stepX (by omega) (by omega) (by omega) HL.out.fm (by omega) HNUM.out HREP.out).mono ?_); rintro e w2 ⟨rfl, r', r1', k1, k2, k3, k4, k5⟩)
        have HL2 := Lib.hid (HL.out.step k2 k3 HOWN.out HSO.out)
        have HR2 := Lib.hid (HR.out.step HL.out.fm k3 HOWN.out)
        have HLOW2 := Lib.hid (HLOW.out.onl hBw HL.out k3 HOWN.out)
        have HQ2 := Lib.hid (HQ0.out.onl k3 (HL.out.fm.ne (by decide) HQ0.out).1 (HL.out.fm.ne (by decide) HQ0.out).2 (fun hx => (HOWN.out r0 hx).neB HQ0.out (.inl rfl) rfl))
        have H92 := Lib.hid (H90.out.onl k3 (HL.out.fm.ne (by decide) H90.out).1 (HL.out.fm.ne (by decide) H90.out).2 (fun hx => (HOWN.out r9 hx).neB H90.out (.inl rfl) rfl))
        have hXs : B ≤ X9.heap.size := Nat.le_trans hBw HLOW.out.size
        have hBs : B ≤ r' ∧ B ≤ r1' := ⟨by omega, by omega⟩
        have HBS := Lib.hid hBs
        have HNUM2 := Lib.hid (HNUM.out.step HL.out.fm.u64)
        have HST2 := Lib.hid (alX_st ox M)
        have HGO := Lib.hid (al_go (hl := hl) HMM.out HNUM.out HP2.out)
        have HK1 := Lib.hid k1
        have HK45 := Lib.hid (⟨k4, k5⟩ : _ ∧ _)
        clear k1 k2 k3 k4 k5 hBs hXs c0 c1 c2 z0 z1 z2 f0 f1 f2 y0 y1 y2 HR HQ0 H90 HLOW b1 b2 b3
        have hcells := HL2.out.cells
        obtain ⟨c0, c1, c2, cf⟩ := hcells
        rw [← HK.out] at c0 c1 c2
        have z0 := cf off
        have z1 := cf (off + 1)
        have z2 := cf (off + 2)
        clear cf
        by_cases hz : (alX ox M).1.o.ln = 0
        · rw [hz]
          have HZ := Lib.hid hz
          have hgot := alGot HK1.out (fun _ => hz)
          clear hz
          by_cases hg : (alX ox M).1.o.got = true
          · have hrf : refV (alX ox M).1 = .agg #[.int .i64 (alX ox M).1.o.sl, .int .u32 (gW (alX ox M).1.o.w), .bool false] := by unfold refV; rw [if_pos hg]
            rw [hrf, hg] at hgot
            have HGE := Lib.hid (show goA ⟨hl, .al ox.o⟩ Mp = (⟨hl ++ [((alX ox M).1.o.sl, gW (alX ox M).1.o.w)], .no⟩, maV (alX ox M).2.V) ∧ gainA (.al ox.o) Mp = [((alX ox M).1.o.sl, gW (alX ox M).1.o.w)] from by
              obtain ⟨e3, e4⟩ := HGO.out
              rw [e3, e4, if_pos HZ.out, if_pos hg, if_pos ⟨HZ.out, hg⟩]
              exact ⟨rfl, rfl⟩)
            clear hg hrf HGO
            generalize (alX ox M).1.o.sl = s9 at *
            generalize gW (alX ox M).1.o.w = g9 at *
            go_wp2_with fail
            ((with_reducible refine hgot.mono ?_); rintro e w3 ⟨rfl, hb3⟩)
            have hbe := hb3.alloc hb3.size (.cells #[.int .i64 s9, .int .u32 g9, .bool false] 34)
            have hnb : Bq w3.heap.size 34 (rV (s9, g9)) (w3.alloc (.cells #[.int .i64 s9, .int .u32 g9, .bool false] 34)) := Bq.new _ _ _
            have HL3 := Lib.hid (HL2.out.below hbe)
            have HR3 := Lib.hid (HR2.out.below hbe)
            have HLOW3 := Lib.hid (HLOW2.out.below hBw hbe)
            have HQ3 := Lib.hid (HQ2.out.below hbe)
            have H93 := Lib.hid (H92.out.below hbe)
            have HNB := Lib.hid hnb
            have hB3 : B ≤ w3.heap.size := Nat.le_trans (Nat.le_trans hBw HLOW2.out.size) hb3.size
            have hN3 : ∀ j, j < 5 → j ≠ k → hblk (ly j).h ≠ some w3.heap.size := fun j hj hjk e => by
              have h1 := ((HL2.out.row j hj hjk).lt e).2.1
              have := hb3.size
              omega
            have hV3 : hblk vh ≠ some w3.heap.size := fun e => by
              have h1 := (HR2.out.lt e).2.1
              have := hb3.size
              omega
            have HN3 := Lib.hid hN3
            have HV3 := Lib.hid hV3
            have hs3 : r0 < w3.heap.size := Nat.lt_of_lt_of_le HQ2.out.lt hb3.size
            have HS3 := Lib.hid hs3
            clear hb3 hbe hnb hgot HL2 HR2 HLOW2 HQ2 H92 hN3 hV3 c0 c1 c2 z0 z1 z2 hs3
            go_upto_region 13 with (fail)
            revert HL3 HR3 HLOW3 HQ3 H93 HNB HN3 HV3 hB3 HS3
            generalize w3.alloc (.cells #[.int .i64 s9, .int .u32 g9, .bool false] 34) = w4
            generalize w3.heap.size = r10
            intro HL3 HR3 HLOW3 HQ3 H93 HNB hB3 HN3 HV3 HS3
            have hL4 := HL3.out.set1 hB hk (.pointer none) (a := ⟨G, off + 1, none⟩) (by rw [HK.out])
            have HL4 := Lib.hid hL4
            have HR4 := Lib.hid (HR3.out.setG HL3.out (a := ⟨G, off + 1, none⟩) rfl (.pointer none))
            have HQ4 := Lib.hid (show Bq r0 34 [.int .i64 0, .int .u32 0, .bool false] (w4.setCell ⟨G, off + 1, none⟩ (.pointer none)) from by
              obtain ⟨gcs, gb⟩ := HL3.out.gb
              exact HQ3.out.setO (HQ3.out.ne gb (by decide)) _ _)
            have H94 := Lib.hid (show Bq r9 34 cs9 (w4.setCell ⟨G, off + 1, none⟩ (.pointer none)) from by
              obtain ⟨gcs, gb⟩ := HL3.out.gb
              exact H93.out.setO (H93.out.ne gb (by decide)) _ _)
            have HNB4 := Lib.hid (show Bq r10 34 (rV (s9, g9)) (w4.setCell ⟨G, off + 1, none⟩ (.pointer none)) from by
              obtain ⟨gcs, gb⟩ := HL3.out.gb
              exact HNB.out.setO (HNB.out.ne gb (by decide)) _ _)
            have HLOW4 := Lib.hid (HLOW3.out.setG HL3.out (a := ⟨G, off + 1, none⟩) rfl (.pointer none))
            have hcells := HL3.out.cells
            obtain ⟨c0, c1, c2, cf⟩ := hcells
            rw [← HK.out] at c0 c1 c2
            have z0 := cf off
            have z1 := cf (off + 1)
            have z2 := cf (off + 2)
            have hcells := HL4.out.cells
            obtain ⟨c0', c1', c2', cf'⟩ := hcells
            rw [← HK.out] at c0' c1' c2'
            have z0' := cf' off
            have z1' := cf' (off + 1)
            have z2' := cf' (off + 2)
            have hq3 := Bq.s3 HNB4.out
            obtain ⟨x0, x1, x2, _, _, _⟩ := hq3
            have hq3 := Bq.s3 HNB.out
            obtain ⟨x0', x1', x2', _, _, _⟩ := hq3
            clear hL4 cf cf'
            go_upto_region 15 with (fail)
            have hB5 : B ≤ (w4.setCell ⟨G, off + 1, none⟩ (.pointer none)).heap.size := Nat.le_trans hBw HLOW4.out.size
            clear c0 c1 c2 z0 z1 z2 x0' x1' x2' HL3 HR3 HLOW3 HQ3 H93 HNB
            revert HL4 HR4 HQ4 H94 HNB4 HLOW4 hB5 c0' c1' c2' z0' z1' z2' x0 x1 x2
            generalize w4.setCell ⟨G, off + 1, none⟩ (.pointer none) = w5
            intro HL5 HR5 HQ5 H95 HNB5 HLOW5 c0 c1 c2 z0 z1 z2 x0 x1 x2 hB5
            have HA := Lib.hid (show Below w5.heap.size w5 (w5.alloc (.cells #[.int .i64 s9, .int .u32 g9, .bool false] 34)).drew from ((Below.refl _ _).alloc (Nat.le_refl _) _).drew)
            have HCA := Lib.hid (show Bq w5.heap.size 34 (rV (s9, g9)) (w5.alloc (.cells #[.int .i64 s9, .int .u32 g9, .bool false] 34)).drew from Bq.new _ _ _)
            have HRA := Lib.hid (HR5.out.below HA.out)
            have HLA := Lib.hid (HL5.out.below HA.out)
            have HQA := Lib.hid (HQ5.out.below HA.out)
            have H9A := Lib.hid (H95.out.below HA.out)
            have HNBA := Lib.hid (HNB5.out.below HA.out)
            have HLOWA := Lib.hid (HLOW5.out.below hBw HA.out)
            have hlen := HHL.out
            have hcA := (HL5.out.below ((Below.refl _ _).alloc (Nat.le_refl _) (.cells #[.int .i64 s9, .int .u32 g9, .bool false] 34))).cells.1
            rw [← HK.out] at hcA
            go_region_law ((refine step_append_held rfl (.tmp 96) (.tmp 98) rfl B vh hl (by simp [Act.eval]) HRA.out w5.heap.size 1 (s9, g9) (by simp [Act.eval]) HCA.out hlen (Nat.le_trans hB5 HA.out.size) ?_; intro A' n' c' w6 hr6 hg6 hb6; have HR6 := Lib.hid hr6; have HL6 := Lib.hid (HLA.out.grown hB HRA.out HSR.out hg6); have HSR6 := Lib.hid (HSR.out.grown HLA.out hb6); have HLOW6 := Lib.hid (HLOWA.out.grown hBw HRA.out hg6); have HQ6 := Lib.hid (HQA.out.same (hg6.block r0 HQA.out.lt (fun e => HNV.out e.symm))); have H96 := Lib.hid (H9A.out.same (hg6.block r9 H9A.out.lt (fun e => H9V.out e.symm))); have HNB6 := Lib.hid (HNBA.out.same (hg6.block r10 HNBA.out.lt (fun e => HV3.out e.symm))); have HNV6 := Lib.hid (show hblk (.slice A' n' c') ≠ some r0 from fun e => (hb6 r0 e).elim HNV.out (fun h => absurd HQA.out.lt (by omega))); have H9V6 := Lib.hid (show hblk (.slice A' n' c') ≠ some r9 from fun e => (hb6 r9 e).elim H9V.out (fun h => absurd H9A.out.lt (by omega))); have HL7 := Lib.hid (HL6.out.set0 hB hk (.slice A' n' c') (a := ⟨G, off, none⟩) (by rw [HK.out])); have HQ7 := Lib.hid (show Bq r0 34 [.int .i64 0, .int .u32 0, .bool false] (w6.setCell ⟨G, off, none⟩ (.slice A' n' c')) from (HL6.out.gb.elim fun gcs gb => HQ6.out.setO (HQ6.out.ne gb (by decide)) _ _)); have H97 := Lib.hid (show Bq r9 34 cs9 (w6.setCell ⟨G, off, none⟩ (.slice A' n' c')) from (HL6.out.gb.elim fun gcs gb => H96.out.setO (H96.out.ne gb (by decide)) _ _)); have HNB7 := Lib.hid (show Bq r10 34 (rV (s9, g9)) (w6.setCell ⟨G, off, none⟩ (.slice A' n' c')) from (HL6.out.gb.elim fun gcs gb => HNB6.out.setO (HNB6.out.ne gb (by decide)) _ _)); have hc6 := HL6.out.cells; rw [← HK.out] at hc6; have d0 := hc6.1; have e0 := hc6.2.2.2 off; have hq6 := Bq.s3 HNB7.out; have v0 := hq6.1; have v1 := hq6.2.1; have v2 := hq6.2.2.1; have hq7 := Bq.s3 HQ7.out; have u0 := hq7.1; have u1 := hq7.2.1; have u2 := hq7.2.2.1; have t0 := hq7.2.2.2.1; have t1 := hq7.2.2.2.2.1; have t2 := hq7.2.2.2.2.2; clear hr6 hg6 hb6 hc6 hq6 hq7))
            all_goals
              go_wp2_with fail
              ((try simp only [Exit.inBlock, Exit.then]); refine bodyPost_ret (results_two rfl _ _ _ _ _ _ _ rfl (HQ7.out.fill3 (d0 := .int .i64 s9) (d1 := .int .u32 g9) (d2 := .bool false)) rfl rfl rfl) rfl ?_)
              obtain ⟨e1, e2⟩ := step_eq (Mp := Mp) HBG.out
              obtain ⟨e3, e4⟩ := HGE.out
              refine ⟨s9, g9, ?_, ?_, ?_⟩
              · rw [e2, e4]; rfl
              · rw [e2, e4]; intro z r h h2; simp only [List.cons.injEq, Prod.mk.injEq] at h2; exact h2.1
              · rw [e1, e3]
                exact ⟨_, _, rfl, by have := HST2.out; push_cast; omega, (HL7.out.tw hk (t := ⟨hl ++ [(s9, g9)], .no⟩) (fp := []) (HR6.out.setG HL6.out rfl _) ⟨rfl, rfl, rfl⟩ (by simp) HSR6.out (fun j _ _ x hx => by cases hx)).fill hB HB0 HQ7.out (SepR.n0 HN0.out HNV6.out _), (HLOW6.out.setG HL6.out rfl _).fill HB0 HQ7.out, H97.out.fill3O H9R.out, HB9, SepR.n0 H9N.out H9V6.out _⟩
          · have hgf : (alX ox M).1.o.got = false := by simpa using hg
            have hrf : refV (alX ox M).1 = .agg #[.int .i64 (-1), .int .u32 0, .bool false] := by unfold refV; rw [if_neg hg]
            rw [hrf, hgf] at hgot
            have HGE := Lib.hid (show goA ⟨hl, .al ox.o⟩ Mp = (⟨hl, .no⟩, maV (alX ox M).2.V) ∧ gainA (.al ox.o) Mp = [] from by
              obtain ⟨e3, e4⟩ := HGO.out
              rw [e3, e4, if_pos HZ.out, if_neg hg, if_neg (fun h => hg h.2)]
              exact ⟨rfl, rfl⟩)
            clear hg hgf hrf HGO
            go_wp2_with fail
            ((with_reducible refine hgot.mono ?_); rintro e w3 ⟨rfl, hb3⟩)
            have hbe := hb3.alloc hb3.size (.cells #[.int .i64 (-1), .int .u32 0, .bool false] 34)
            have hnb : Bq w3.heap.size 34 [.int .i64 (-1), .int .u32 0, .bool false] (w3.alloc (.cells #[.int .i64 (-1), .int .u32 0, .bool false] 34)) := Bq.new _ _ _
            have HL3 := Lib.hid (HL2.out.below hbe)
            have HR3 := Lib.hid (HR2.out.below hbe)
            have HLOW3 := Lib.hid (HLOW2.out.below hBw hbe)
            have HQ3 := Lib.hid (HQ2.out.below hbe)
            have H93 := Lib.hid (H92.out.below hbe)
            have HNB := Lib.hid hnb
            clear hb3 hbe hnb hgot HL2 HR2 HLOW2 HQ2 H92 c0 c1 c2 z0 z1 z2
            go_upto_region 13 with (fail)
            revert HL3 HR3 HLOW3 HQ3 H93 HNB
            generalize w3.alloc (.cells #[.int .i64 (-1), .int .u32 0, .bool false] 34) = w4
            generalize w3.heap.size = r10
            intro HL3 HR3 HLOW3 HQ3 H93 HNB
            have hL4 := HL3.out.set1 hB hk (.pointer none) (a := ⟨G, off + 1, none⟩) (by rw [HK.out])
            have HL4 := Lib.hid hL4
            have HQ4 := Lib.hid (show Bq r0 34 [.int .i64 0, .int .u32 0, .bool false] (w4.setCell ⟨G, off + 1, none⟩ (.pointer none)) from by
              obtain ⟨gcs, gb⟩ := HL3.out.gb
              exact HQ3.out.setO (HQ3.out.ne gb (by decide)) _ _)
            have H94 := Lib.hid (show Bq r9 34 cs9 (w4.setCell ⟨G, off + 1, none⟩ (.pointer none)) from by
              obtain ⟨gcs, gb⟩ := HL3.out.gb
              exact H93.out.setO (H93.out.ne gb (by decide)) _ _)
            have HNB4 := Lib.hid (show Bq r10 34 [.int .i64 (-1), .int .u32 0, .bool false] (w4.setCell ⟨G, off + 1, none⟩ (.pointer none)) from by
              obtain ⟨gcs, gb⟩ := HL3.out.gb
              exact HNB.out.setO (HNB.out.ne gb (by decide)) _ _)
            have hcells := HL3.out.cells
            obtain ⟨c0, c1, c2, cf⟩ := hcells
            rw [← HK.out] at c0 c1 c2
            have z1 := cf (off + 1)
            have hq3 := Bq.s3 HNB4.out
            obtain ⟨x0, x1, x2, _, _, _⟩ := hq3
            have hq3 := Bq.s3 HQ4.out
            obtain ⟨u0, u1, u2, t0, t1, t2⟩ := hq3
            clear hL4 cf
            go_wp2_with fail
            ((try simp only [Exit.inBlock, Exit.then]); refine bodyPost_ret (results_two rfl _ _ _ _ _ _ _ rfl (HQ4.out.fill3 (d0 := .int .i64 (-1)) (d1 := .int .u32 0) (d2 := .bool false)) rfl rfl rfl) rfl ?_)
            obtain ⟨e1, e2⟩ := step_eq (Mp := Mp) HBG.out
            obtain ⟨e3, e4⟩ := HGE.out
            refine ⟨-1, 0, ?_, ?_, ?_⟩
            · rw [e2, e4]; rfl
            · rw [e2, e4]; intro z r h; cases h
            · rw [e1, e3]
              exact ⟨_, _, rfl, by have := HST2.out; push_cast; omega, (HL4.out.tw hk (t := ⟨hl, .no⟩) (fp := []) (HR3.out.setG HL3.out rfl _) ⟨rfl, rfl, rfl⟩ (by simp) HSR.out (fun j _ _ x hx => by cases hx)).fill hB HB0 HQ4.out (SepR.n0 HN0.out HNV.out _), (HLOW3.out.setG HL3.out rfl _).fill HB0 HQ4.out, H94.out.fill3O H9R.out, HB9, SepR.n0 H9N.out H9V.out _⟩
        · have HZ := Lib.hid hz
          have hzb := fls hz
          rw [hzb]
          clear hz hzb
          obtain ⟨r2, hr2, hrep2, o1, o2, o3⟩ := HK1.out.tidy HZ.out HNUM2.out hBr'.out.1 HBS.out.1 HBS.out.2
          have HF := Lib.hid (HL2.out.tw hk (t := ⟨hl, .al (alX ox M).1.o⟩) (fp := [q, r', r2]) HR2.out ⟨(alX ox M).1, q, r', r2, rfl, rfl, HZ.out, HNUM2.out, hrep2, rfl, rfl⟩ (fun x hx => by
            simp only [List.mem_cons, List.not_mem_nil, or_false] at hx
            rcases hx with rfl | rfl | rfl
            · exact o1
            · exact o2
            · exact o3) HSR.out (HL.out.so_step HSO.out HK45.out.1 HK45.out.2 hr2))
          clear hr2 hrep2 o1 o2 o3
          have hq3 := Bq.s3 HQ2.out
          obtain ⟨f0, f1, f2, y0, y1, y2⟩ := hq3
          go_wp2_with fail
          ((try simp only [Exit.inBlock, Exit.then]); refine bodyPost_ret (results_two rfl _ _ _ _ _ _ _ rfl (HQ2.out.fill3 (d0 := .int .i64 0) (d1 := .int .u32 0) (d2 := .bool false)) rfl rfl rfl) rfl ?_)
          obtain ⟨e1, e2⟩ := step_eq (Mp := Mp) HBG.out
          obtain ⟨e3, e4⟩ := HGO.out
          rw [if_neg HZ.out] at e3
          rw [if_neg (fun h => HZ.out h.1)] at e4
          refine ⟨0, 0, ?_, ?_, ?_⟩
          · rw [e2, e4]; rfl
          · rw [e2, e4]; intro z r h; cases h
          · rw [e1, e3]
            exact ⟨_, _, rfl, by have := HST2.out; push_cast; omega, HF.out.fill hB HB0 HQ2.out (SepR.n0 HN0.out HNV.out _), HLOW2.out.fill HB0 HQ2.out, H92.out.fill3O H9R.out, HB9, SepR.n0 H9N.out H9V.out _⟩
  | al o =>
    rw [ho] at hop
    obtain ⟨ox, q, r, r1, rfl, hox, hln, hnum, hrep, rfl, rfl⟩ := hop
    have HBG := Lib.hid (show beginA (th k) bb mo = ⟨(th k).held, .al ox.o⟩ by
      have : th k = ⟨(th k).held, .al ox.o⟩ := by rw [hox, ← ho]
      unfold beginA; rw [ho]; exact this)
    have HLN := Lib.hid (show ox.o.ln ≠ 0 by rw [hox]; exact hln)
    have HNUM := Lib.hid hnum
    have HREP := Lib.hid hrep
    have HOWN := Lib.hid hown
    have HSO := Lib.hid hso
    have HL := HL0
    have hlen : (th k).held.length < 100000 := by have h := HLEN0.out; rw [HBG.out] at h; exact h
    have HHL := Lib.hid hlen
    have HP2 := Lib.hid (HPOP.out ox.o (by rw [HBG.out]))
    clear HPOP
    clear HL0 hown hso hrep hnum hln hox hlen HLEN0 HIN ho
    generalize (th k).held = hl at *
    have hcells := HL.out.cells
    obtain ⟨c0, c1, c2, cf⟩ := hcells
    rw [← HK.out] at c0 c1 c2
    have z0 := cf off
    have z1 := cf (off + 1)
    have z2 := cf (off + 2)
    have hq3 := Bq.s3 HQ0.out
    obtain ⟨f0, f1, f2, y0, y1, y2⟩ := hq3
    clear cf
    have hBr : B ≤ q ∧ B ≤ r ∧ B ≤ r1 := ⟨(HOWN.out q (by simp)).1, (HOWN.out r (by simp)).1, (HOWN.out r1 (by simp)).1⟩
    have hBr' := Lib.hid hBr
    obtain ⟨b1, b2, b3⟩ := hBr
    go_wp2_with fail
    ((with_reducible refine (alloc_stepX (by omega) (by omega) (by omega) HL.out.fm (by omega) HNUM.out HREP.out).mono ?_); rintro e w2 ⟨rfl, r', r1', k1, k2, k3, k4, k5⟩)
    have HL2 := Lib.hid (HL.out.step k2 k3 HOWN.out HSO.out)
    have HR2 := Lib.hid (HR.out.step HL.out.fm k3 HOWN.out)
    have HLOW2 := Lib.hid (HLOW.out.onl hBw HL.out k3 HOWN.out)
    have HQ2 := Lib.hid (HQ0.out.onl k3 (HL.out.fm.ne (by decide) HQ0.out).1 (HL.out.fm.ne (by decide) HQ0.out).2 (fun hx => (HOWN.out r0 hx).neB HQ0.out (.inl rfl) rfl))
    have H92 := Lib.hid (H90.out.onl k3 (HL.out.fm.ne (by decide) H90.out).1 (HL.out.fm.ne (by decide) H90.out).2 (fun hx => (HOWN.out r9 hx).neB H90.out (.inl rfl) rfl))
    have hXs : B ≤ X.heap.size := Nat.le_trans hBw HLOW.out.size
    have hBs : B ≤ r' ∧ B ≤ r1' := ⟨by omega, by omega⟩
    have HBS := Lib.hid hBs
    have HNUM2 := Lib.hid (HNUM.out.step HL.out.fm.u64)
    have HST2 := Lib.hid (alX_st ox M)
    have HGO := Lib.hid (al_go (hl := hl) HMM.out HNUM.out HP2.out)
    have HK1 := Lib.hid k1
    have HK45 := Lib.hid (⟨k4, k5⟩ : _ ∧ _)
    clear k1 k2 k3 k4 k5 hBs hXs c0 c1 c2 z0 z1 z2 f0 f1 f2 y0 y1 y2 HR HQ0 H90 HLOW b1 b2 b3
    have hcells := HL2.out.cells
    obtain ⟨c0, c1, c2, cf⟩ := hcells
    rw [← HK.out] at c0 c1 c2
    have z0 := cf off
    have z1 := cf (off + 1)
    have z2 := cf (off + 2)
    clear cf
    by_cases hz : (alX ox M).1.o.ln = 0
    · rw [hz]
      have HZ := Lib.hid hz
      have hgot := alGot HK1.out (fun _ => hz)
      clear hz
      by_cases hg : (alX ox M).1.o.got = true
      · have hrf : refV (alX ox M).1 = .agg #[.int .i64 (alX ox M).1.o.sl, .int .u32 (gW (alX ox M).1.o.w), .bool false] := by unfold refV; rw [if_pos hg]
        rw [hrf, hg] at hgot
        have HGE := Lib.hid (show goA ⟨hl, .al ox.o⟩ Mp = (⟨hl ++ [((alX ox M).1.o.sl, gW (alX ox M).1.o.w)], .no⟩, maV (alX ox M).2.V) ∧ gainA (.al ox.o) Mp = [((alX ox M).1.o.sl, gW (alX ox M).1.o.w)] from by
          obtain ⟨e3, e4⟩ := HGO.out
          rw [e3, e4, if_pos HZ.out, if_pos hg, if_pos ⟨HZ.out, hg⟩]
          exact ⟨rfl, rfl⟩)
        clear hg hrf HGO
        generalize (alX ox M).1.o.sl = s9 at *
        generalize gW (alX ox M).1.o.w = g9 at *
        go_wp2_with fail
        ((with_reducible refine hgot.mono ?_); rintro e w3 ⟨rfl, hb3⟩)
        have hbe := hb3.alloc hb3.size (.cells #[.int .i64 s9, .int .u32 g9, .bool false] 34)
        have hnb : Bq w3.heap.size 34 (rV (s9, g9)) (w3.alloc (.cells #[.int .i64 s9, .int .u32 g9, .bool false] 34)) := Bq.new _ _ _
        have HL3 := Lib.hid (HL2.out.below hbe)
        have HR3 := Lib.hid (HR2.out.below hbe)
        have HLOW3 := Lib.hid (HLOW2.out.below hBw hbe)
        have HQ3 := Lib.hid (HQ2.out.below hbe)
        have H93 := Lib.hid (H92.out.below hbe)
        have HNB := Lib.hid hnb
        have hB3 : B ≤ w3.heap.size := Nat.le_trans (Nat.le_trans hBw HLOW2.out.size) hb3.size
        have hN3 : ∀ j, j < 5 → j ≠ k → hblk (ly j).h ≠ some w3.heap.size := fun j hj hjk e => by
          have h1 := ((HL2.out.row j hj hjk).lt e).2.1
          have := hb3.size
          omega
        have hV3 : hblk vh ≠ some w3.heap.size := fun e => by
          have h1 := (HR2.out.lt e).2.1
          have := hb3.size
          omega
        have HN3 := Lib.hid hN3
        have HV3 := Lib.hid hV3
        have hs3 : r0 < w3.heap.size := Nat.lt_of_lt_of_le HQ2.out.lt hb3.size
        have HS3 := Lib.hid hs3
        clear hb3 hbe hnb hgot HL2 HR2 HLOW2 HQ2 H92 hN3 hV3 c0 c1 c2 z0 z1 z2 hs3
        go_upto_region 13 with (fail)
        revert HL3 HR3 HLOW3 HQ3 H93 HNB HN3 HV3 hB3 HS3
        generalize w3.alloc (.cells #[.int .i64 s9, .int .u32 g9, .bool false] 34) = w4
        generalize w3.heap.size = r10
        intro HL3 HR3 HLOW3 HQ3 H93 HNB hB3 HN3 HV3 HS3
        have hL4 := HL3.out.set1 hB hk (.pointer none) (a := ⟨G, off + 1, none⟩) (by rw [HK.out])
        have HL4 := Lib.hid hL4
        have HR4 := Lib.hid (HR3.out.setG HL3.out (a := ⟨G, off + 1, none⟩) rfl (.pointer none))
        have HQ4 := Lib.hid (show Bq r0 34 [.int .i64 0, .int .u32 0, .bool false] (w4.setCell ⟨G, off + 1, none⟩ (.pointer none)) from by
          obtain ⟨gcs, gb⟩ := HL3.out.gb
          exact HQ3.out.setO (HQ3.out.ne gb (by decide)) _ _)
        have H94 := Lib.hid (show Bq r9 34 cs9 (w4.setCell ⟨G, off + 1, none⟩ (.pointer none)) from by
          obtain ⟨gcs, gb⟩ := HL3.out.gb
          exact H93.out.setO (H93.out.ne gb (by decide)) _ _)
        have HNB4 := Lib.hid (show Bq r10 34 (rV (s9, g9)) (w4.setCell ⟨G, off + 1, none⟩ (.pointer none)) from by
          obtain ⟨gcs, gb⟩ := HL3.out.gb
          exact HNB.out.setO (HNB.out.ne gb (by decide)) _ _)
        have HLOW4 := Lib.hid (HLOW3.out.setG HL3.out (a := ⟨G, off + 1, none⟩) rfl (.pointer none))
        have hcells := HL3.out.cells
        obtain ⟨c0, c1, c2, cf⟩ := hcells
        rw [← HK.out] at c0 c1 c2
        have z0 := cf off
        have z1 := cf (off + 1)
        have z2 := cf (off + 2)
        have hcells := HL4.out.cells
        obtain ⟨c0', c1', c2', cf'⟩ := hcells
        rw [← HK.out] at c0' c1' c2'
        have z0' := cf' off
        have z1' := cf' (off + 1)
        have z2' := cf' (off + 2)
        have hq3 := Bq.s3 HNB4.out
        obtain ⟨x0, x1, x2, _, _, _⟩ := hq3
        have hq3 := Bq.s3 HNB.out
        obtain ⟨x0', x1', x2', _, _, _⟩ := hq3
        clear hL4 cf cf'
        go_upto_region 15 with (fail)
        have hB5 : B ≤ (w4.setCell ⟨G, off + 1, none⟩ (.pointer none)).heap.size := Nat.le_trans hBw HLOW4.out.size
        clear c0 c1 c2 z0 z1 z2 x0' x1' x2' HL3 HR3 HLOW3 HQ3 H93 HNB
        revert HL4 HR4 HQ4 H94 HNB4 HLOW4 hB5 c0' c1' c2' z0' z1' z2' x0 x1 x2
        generalize w4.setCell ⟨G, off + 1, none⟩ (.pointer none) = w5
        intro HL5 HR5 HQ5 H95 HNB5 HLOW5 c0 c1 c2 z0 z1 z2 x0 x1 x2 hB5
        have HA := Lib.hid (show Below w5.heap.size w5 (w5.alloc (.cells #[.int .i64 s9, .int .u32 g9, .bool false] 34)).drew from ((Below.refl _ _).alloc (Nat.le_refl _) _).drew)
        have HCA := Lib.hid (show Bq w5.heap.size 34 (rV (s9, g9)) (w5.alloc (.cells #[.int .i64 s9, .int .u32 g9, .bool false] 34)).drew from Bq.new _ _ _)
        have HRA := Lib.hid (HR5.out.below HA.out)
        have HLA := Lib.hid (HL5.out.below HA.out)
        have HQA := Lib.hid (HQ5.out.below HA.out)
        have H9A := Lib.hid (H95.out.below HA.out)
        have HNBA := Lib.hid (HNB5.out.below HA.out)
        have HLOWA := Lib.hid (HLOW5.out.below hBw HA.out)
        have hlen := HHL.out
        have hcA := (HL5.out.below ((Below.refl _ _).alloc (Nat.le_refl _) (.cells #[.int .i64 s9, .int .u32 g9, .bool false] 34))).cells.1
        rw [← HK.out] at hcA
        go_region_law ((refine step_append_held rfl (.tmp 96) (.tmp 98) rfl B vh hl (by simp [Act.eval]) HRA.out w5.heap.size 1 (s9, g9) (by simp [Act.eval]) HCA.out hlen (Nat.le_trans hB5 HA.out.size) ?_; intro A' n' c' w6 hr6 hg6 hb6; have HR6 := Lib.hid hr6; have HL6 := Lib.hid (HLA.out.grown hB HRA.out HSR.out hg6); have HSR6 := Lib.hid (HSR.out.grown HLA.out hb6); have HLOW6 := Lib.hid (HLOWA.out.grown hBw HRA.out hg6); have HQ6 := Lib.hid (HQA.out.same (hg6.block r0 HQA.out.lt (fun e => HNV.out e.symm))); have H96 := Lib.hid (H9A.out.same (hg6.block r9 H9A.out.lt (fun e => H9V.out e.symm))); have HNB6 := Lib.hid (HNBA.out.same (hg6.block r10 HNBA.out.lt (fun e => HV3.out e.symm))); have HNV6 := Lib.hid (show hblk (.slice A' n' c') ≠ some r0 from fun e => (hb6 r0 e).elim HNV.out (fun h => absurd HQA.out.lt (by omega))); have H9V6 := Lib.hid (show hblk (.slice A' n' c') ≠ some r9 from fun e => (hb6 r9 e).elim H9V.out (fun h => absurd H9A.out.lt (by omega))); have HL7 := Lib.hid (HL6.out.set0 hB hk (.slice A' n' c') (a := ⟨G, off, none⟩) (by rw [HK.out])); have HQ7 := Lib.hid (show Bq r0 34 [.int .i64 0, .int .u32 0, .bool false] (w6.setCell ⟨G, off, none⟩ (.slice A' n' c')) from (HL6.out.gb.elim fun gcs gb => HQ6.out.setO (HQ6.out.ne gb (by decide)) _ _)); have H97 := Lib.hid (show Bq r9 34 cs9 (w6.setCell ⟨G, off, none⟩ (.slice A' n' c')) from (HL6.out.gb.elim fun gcs gb => H96.out.setO (H96.out.ne gb (by decide)) _ _)); have HNB7 := Lib.hid (show Bq r10 34 (rV (s9, g9)) (w6.setCell ⟨G, off, none⟩ (.slice A' n' c')) from (HL6.out.gb.elim fun gcs gb => HNB6.out.setO (HNB6.out.ne gb (by decide)) _ _)); have hc6 := HL6.out.cells; rw [← HK.out] at hc6; have d0 := hc6.1; have e0 := hc6.2.2.2 off; have hq6 := Bq.s3 HNB7.out; have v0 := hq6.1; have v1 := hq6.2.1; have v2 := hq6.2.2.1; have hq7 := Bq.s3 HQ7.out; have u0 := hq7.1; have u1 := hq7.2.1; have u2 := hq7.2.2.1; have t0 := hq7.2.2.2.1; have t1 := hq7.2.2.2.2.1; have t2 := hq7.2.2.2.2.2; clear hr6 hg6 hb6 hc6 hq6 hq7))
        all_goals
          go_wp2_with fail
          ((try simp only [Exit.inBlock, Exit.then]); refine bodyPost_ret (results_two rfl _ _ _ _ _ _ _ rfl (HQ7.out.fill3 (d0 := .int .i64 s9) (d1 := .int .u32 g9) (d2 := .bool false)) rfl rfl rfl) rfl ?_)
          obtain ⟨e1, e2⟩ := step_eq (Mp := Mp) HBG.out
          obtain ⟨e3, e4⟩ := HGE.out
          refine ⟨s9, g9, ?_, ?_, ?_⟩
          · rw [e2, e4]; rfl
          · rw [e2, e4]; intro z r h h2; simp only [List.cons.injEq, Prod.mk.injEq] at h2; exact h2.1
          · rw [e1, e3]
            exact ⟨_, _, rfl, by have := HST2.out; push_cast; omega, (HL7.out.tw hk (t := ⟨hl ++ [(s9, g9)], .no⟩) (fp := []) (HR6.out.setG HL6.out rfl _) ⟨rfl, rfl, rfl⟩ (by simp) HSR6.out (fun j _ _ x hx => by cases hx)).fill hB HB0 HQ7.out (SepR.n0 HN0.out HNV6.out _), (HLOW6.out.setG HL6.out rfl _).fill HB0 HQ7.out, H97.out.fill3O H9R.out, HB9, SepR.n0 H9N.out H9V6.out _⟩
      · have hgf : (alX ox M).1.o.got = false := by simpa using hg
        have hrf : refV (alX ox M).1 = .agg #[.int .i64 (-1), .int .u32 0, .bool false] := by unfold refV; rw [if_neg hg]
        rw [hrf, hgf] at hgot
        have HGE := Lib.hid (show goA ⟨hl, .al ox.o⟩ Mp = (⟨hl, .no⟩, maV (alX ox M).2.V) ∧ gainA (.al ox.o) Mp = [] from by
          obtain ⟨e3, e4⟩ := HGO.out
          rw [e3, e4, if_pos HZ.out, if_neg hg, if_neg (fun h => hg h.2)]
          exact ⟨rfl, rfl⟩)
        clear hg hgf hrf HGO
        go_wp2_with fail
        ((with_reducible refine hgot.mono ?_); rintro e w3 ⟨rfl, hb3⟩)
        have hbe := hb3.alloc hb3.size (.cells #[.int .i64 (-1), .int .u32 0, .bool false] 34)
        have hnb : Bq w3.heap.size 34 [.int .i64 (-1), .int .u32 0, .bool false] (w3.alloc (.cells #[.int .i64 (-1), .int .u32 0, .bool false] 34)) := Bq.new _ _ _
        have HL3 := Lib.hid (HL2.out.below hbe)
        have HR3 := Lib.hid (HR2.out.below hbe)
        have HLOW3 := Lib.hid (HLOW2.out.below hBw hbe)
        have HQ3 := Lib.hid (HQ2.out.below hbe)
        have H93 := Lib.hid (H92.out.below hbe)
        have HNB := Lib.hid hnb
        clear hb3 hbe hnb hgot HL2 HR2 HLOW2 HQ2 H92 c0 c1 c2 z0 z1 z2
        go_upto_region 13 with (fail)
        revert HL3 HR3 HLOW3 HQ3 H93 HNB
        generalize w3.alloc (.cells #[.int .i64 (-1), .int .u32 0, .bool false] 34) = w4
        generalize w3.heap.size = r10
        intro HL3 HR3 HLOW3 HQ3 H93 HNB
        have hL4 := HL3.out.set1 hB hk (.pointer none) (a := ⟨G, off + 1, none⟩) (by rw [HK.out])
        have HL4 := Lib.hid hL4
        have HQ4 := Lib.hid (show Bq r0 34 [.int .i64 0, .int .u32 0, .bool false] (w4.setCell ⟨G, off + 1, none⟩ (.pointer none)) from by
          obtain ⟨gcs, gb⟩ := HL3.out.gb
          exact HQ3.out.setO (HQ3.out.ne gb (by decide)) _ _)
        have H94 := Lib.hid (show Bq r9 34 cs9 (w4.setCell ⟨G, off + 1, none⟩ (.pointer none)) from by
          obtain ⟨gcs, gb⟩ := HL3.out.gb
          exact H93.out.setO (H93.out.ne gb (by decide)) _ _)
        have HNB4 := Lib.hid (show Bq r10 34 [.int .i64 (-1), .int .u32 0, .bool false] (w4.setCell ⟨G, off + 1, none⟩ (.pointer none)) from by
          obtain ⟨gcs, gb⟩ := HL3.out.gb
          exact HNB.out.setO (HNB.out.ne gb (by decide)) _ _)
        have hcells := HL3.out.cells
        obtain ⟨c0, c1, c2, cf⟩ := hcells
        rw [← HK.out] at c0 c1 c2
        have z1 := cf (off + 1)
        have hq3 := Bq.s3 HNB4.out
        obtain ⟨x0, x1, x2, _, _, _⟩ := hq3
        have hq3 := Bq.s3 HQ4.out
        obtain ⟨u0, u1, u2, t0, t1, t2⟩ := hq3
        clear hL4 cf
        go_wp2_with fail
        ((try simp only [Exit.inBlock, Exit.then]); refine bodyPost_ret (results_two rfl _ _ _ _ _ _ _ rfl (HQ4.out.fill3 (d0 := .int .i64 (-1)) (d1 := .int .u32 0) (d2 := .bool false)) rfl rfl rfl) rfl ?_)
        obtain ⟨e1, e2⟩ := step_eq (Mp := Mp) HBG.out
        obtain ⟨e3, e4⟩ := HGE.out
        refine ⟨-1, 0, ?_, ?_, ?_⟩
        · rw [e2, e4]; rfl
        · rw [e2, e4]; intro z r h; cases h
        · rw [e1, e3]
          exact ⟨_, _, rfl, by have := HST2.out; push_cast; omega, (HL4.out.tw hk (t := ⟨hl, .no⟩) (fp := []) (HR3.out.setG HL3.out rfl _) ⟨rfl, rfl, rfl⟩ (by simp) HSR.out (fun j _ _ x hx => by cases hx)).fill hB HB0 HQ4.out (SepR.n0 HN0.out HNV.out _), (HLOW3.out.setG HL3.out rfl _).fill HB0 HQ4.out, H94.out.fill3O H9R.out, HB9, SepR.n0 H9N.out H9V.out _⟩
    · have HZ := Lib.hid hz
      have hzb := fls hz
      rw [hzb]
      clear hz hzb
      obtain ⟨r2, hr2, hrep2, o1, o2, o3⟩ := HK1.out.tidy HZ.out HNUM2.out hBr'.out.1 HBS.out.1 HBS.out.2
      have HF := Lib.hid (HL2.out.tw hk (t := ⟨hl, .al (alX ox M).1.o⟩) (fp := [q, r', r2]) HR2.out ⟨(alX ox M).1, q, r', r2, rfl, rfl, HZ.out, HNUM2.out, hrep2, rfl, rfl⟩ (fun x hx => by
        simp only [List.mem_cons, List.not_mem_nil, or_false] at hx
        rcases hx with rfl | rfl | rfl
        · exact o1
        · exact o2
        · exact o3) HSR.out (HL.out.so_step HSO.out HK45.out.1 HK45.out.2 hr2))
      clear hr2 hrep2 o1 o2 o3
      have hq3 := Bq.s3 HQ2.out
      obtain ⟨f0, f1, f2, y0, y1, y2⟩ := hq3
      go_wp2_with fail
      ((try simp only [Exit.inBlock, Exit.then]); refine bodyPost_ret (results_two rfl _ _ _ _ _ _ _ rfl (HQ2.out.fill3 (d0 := .int .i64 0) (d1 := .int .u32 0) (d2 := .bool false)) rfl rfl rfl) rfl ?_)
      obtain ⟨e1, e2⟩ := step_eq (Mp := Mp) HBG.out
      obtain ⟨e3, e4⟩ := HGO.out
      rw [if_neg HZ.out] at e3
      rw [if_neg (fun h => HZ.out h.1)] at e4
      refine ⟨0, 0, ?_, ?_, ?_⟩
      · rw [e2, e4]; rfl
      · rw [e2, e4]; intro z r h; cases h
      · rw [e1, e3]
        exact ⟨_, _, rfl, by have := HST2.out; push_cast; omega, HF.out.fill hB HB0 HQ2.out (SepR.n0 HN0.out HNV.out _), HLOW2.out.fill HB0 HQ2.out, H92.out.fill3O H9R.out, HB9, SepR.n0 H9N.out H9V.out _⟩
  | fr o =>
    rw [ho] at hop
    obtain ⟨fx, q, r, r1, rfl, hox, hln, hnum, hrep, rfl, rfl⟩ := hop
    have HBG := Lib.hid (show beginA (th k) bb mo = ⟨(th k).held, .fr fx.o⟩ by
      have : th k = ⟨(th k).held, .fr fx.o⟩ := by rw [hox, ← ho]
      unfold beginA; rw [ho]; exact this)
    have HLN := Lib.hid (show fx.o.ln ≠ 0 by rw [hox]; exact hln)
    have HNUM := Lib.hid hnum
    have HREP := Lib.hid hrep
    have HOWN := Lib.hid hown
    have HSO := Lib.hid hso
    have HL := HL0
    clear HL0 hown hso hrep hnum hln hox HLEN0 HIN ho HPOP
    generalize (th k).held = hl at *
    have hcells := HL.out.cells
    obtain ⟨c0, c1, c2, cf⟩ := hcells
    rw [← HK.out] at c0 c1 c2
    have z0 := cf off
    have z1 := cf (off + 1)
    have z2 := cf (off + 2)
    have hq3 := Bq.s3 HQ0.out
    obtain ⟨f0, f1, f2, y0, y1, y2⟩ := hq3
    clear cf
    have hBr : B ≤ q ∧ B ≤ r ∧ B ≤ r1 := ⟨(HOWN.out q (by simp)).1, (HOWN.out r (by simp)).1, (HOWN.out r1 (by simp)).1⟩
    have hBr' := Lib.hid hBr
    obtain ⟨b1, b2, b3⟩ := hBr
    go_wp2_with fail
    ((with_reducible refine (free_stepX (by omega) (by omega) (by omega) HL.out.fm (by omega) HNUM.out HREP.out).mono ?_); rintro e w2 ⟨rfl, r', r1', k1, k2, k3, k4, k5⟩)
    have HL2 := Lib.hid (HL.out.step k2 k3 HOWN.out HSO.out)
    have HR2 := Lib.hid (HR.out.step HL.out.fm k3 HOWN.out)
    have HLOW2 := Lib.hid (HLOW.out.onl hBw HL.out k3 HOWN.out)
    have HQ2 := Lib.hid (HQ0.out.onl k3 (HL.out.fm.ne (by decide) HQ0.out).1 (HL.out.fm.ne (by decide) HQ0.out).2 (fun hx => (HOWN.out r0 hx).neB HQ0.out (.inl rfl) rfl))
    have H92 := Lib.hid (H90.out.onl k3 (HL.out.fm.ne (by decide) H90.out).1 (HL.out.fm.ne (by decide) H90.out).2 (fun hx => (HOWN.out r9 hx).neB H90.out (.inl rfl) rfl))
    have hXs : B ≤ X.heap.size := Nat.le_trans hBw HLOW.out.size
    have hBs : B ≤ r' ∧ B ≤ r1' := ⟨by omega, by omega⟩
    have HBS := Lib.hid hBs
    have HNUM2 := Lib.hid (HNUM.out.step HL.out.fm.u64)
    have HST2 := Lib.hid (frX_st fx M)
    have HGO := Lib.hid (fr_go (hl := hl) HMM.out HNUM.out)
    have HK1 := Lib.hid k1
    have HK45 := Lib.hid (⟨k4, k5⟩ : _ ∧ _)
    clear k1 k2 k3 k4 k5 hBs hXs c0 c1 c2 z0 z1 z2 f0 f1 f2 y0 y1 y2 HR HQ0 H90 HLOW b1 b2 b3
    have hcells := HL2.out.cells
    obtain ⟨c0, c1, c2, cf⟩ := hcells
    rw [← HK.out] at c0 c1 c2
    have z0 := cf off
    have z1 := cf (off + 1)
    have z2 := cf (off + 2)
    have hq3 := Bq.s3 HQ2.out
    obtain ⟨f0, f1, f2, y0, y1, y2⟩ := hq3
    clear cf
    by_cases hz : (frX fx M).1.o.ln = 0
    · rw [hz]
      have HZ := Lib.hid hz
      clear hz
      have hL3 := HL2.out.set2 hB hk (.pointer none) (a := ⟨G, off + 2, none⟩) (by rw [HK.out])
      have HL3 := Lib.hid hL3
      have HQ3 := Lib.hid (show Bq r0 34 [.int .i64 0, .int .u32 0, .bool false] (w2.setCell ⟨G, off + 2, none⟩ (.pointer none)) from by
        obtain ⟨gcs, gb⟩ := HL2.out.gb
        exact HQ2.out.setO (HQ2.out.ne gb (by decide)) _ _)
      have H93 := Lib.hid (show Bq r9 34 cs9 (w2.setCell ⟨G, off + 2, none⟩ (.pointer none)) from by
        obtain ⟨gcs, gb⟩ := HL2.out.gb
        exact H92.out.setO (H92.out.ne gb (by decide)) _ _)
      have HF := Lib.hid (hL3.tw hk (t := ⟨hl, .no⟩) (fp := []) (HR2.out.setG HL2.out rfl _) ⟨rfl, rfl, rfl⟩ (by simp) HSR.out (fun j _ _ x hx => by cases hx))
      have hq3 := Bq.s3 HQ3.out
      obtain ⟨f0', f1', f2', y0', y1', y2'⟩ := hq3
      clear hL3
      go_wp2_with fail
      ((try simp only [Exit.inBlock, Exit.then]); refine bodyPost_ret (results_two rfl _ _ _ _ _ _ _ rfl (HQ3.out.fill3 (d0 := .int .i64 0) (d1 := .int .u32 0) (d2 := .bool false)) rfl rfl rfl) rfl ?_)
      obtain ⟨e1, e2⟩ := step_eq (Mp := Mp) HBG.out
      obtain ⟨e3, e4⟩ := HGO.out
      rw [if_pos HZ.out] at e3
      refine ⟨0, 0, ?_, ?_, ?_⟩
      · rw [e2, e4]; rfl
      · rw [e2, e4]; intro z r h; cases h
      · rw [e1, e3]
        exact ⟨_, _, rfl, by have := HST2.out; push_cast; omega, HF.out.fill hB HB0 HQ3.out (SepR.n0 HN0.out HNV.out _), (HLOW2.out.setG HL2.out rfl _).fill HB0 HQ3.out, H93.out.fill3O H9R.out, HB9, SepR.n0 H9N.out H9V.out _⟩
    · have HZ := Lib.hid hz
      have hzb := fls hz
      rw [hzb]
      clear hz hzb
      obtain ⟨r2, hr2, hrep2, o1, o2, o3⟩ := HK1.out.tidy HZ.out HNUM2.out hBr'.out.1 HBS.out.1 HBS.out.2
      have HF := Lib.hid (HL2.out.tw hk (t := ⟨hl, .fr (frX fx M).1.o⟩) (fp := [q, r', r2]) HR2.out ⟨(frX fx M).1, q, r', r2, rfl, rfl, HZ.out, HNUM2.out, hrep2, rfl, rfl⟩ (fun x hx => by
        simp only [List.mem_cons, List.not_mem_nil, or_false] at hx
        rcases hx with rfl | rfl | rfl
        · exact o1
        · exact o2
        · exact o3) HSR.out (HL.out.so_step HSO.out HK45.out.1 HK45.out.2 hr2))
      clear hr2 hrep2 o1 o2 o3
      go_wp2_with fail
      ((try simp only [Exit.inBlock, Exit.then]); refine bodyPost_ret (results_two rfl _ _ _ _ _ _ _ rfl (HQ2.out.fill3 (d0 := .int .i64 0) (d1 := .int .u32 0) (d2 := .bool false)) rfl rfl rfl) rfl ?_)
      obtain ⟨e1, e2⟩ := step_eq (Mp := Mp) HBG.out
      obtain ⟨e3, e4⟩ := HGO.out
      rw [if_neg HZ.out] at e3
      refine ⟨0, 0, ?_, ?_, ?_⟩
      · rw [e2, e4]; rfl
      · rw [e2, e4]; intro z r h; cases h
      · rw [e1, e3]
        exact ⟨_, _, rfl, by have := HST2.out; push_cast; omega, HF.out.fill hB HB0 HQ2.out (SepR.n0 HN0.out HNV.out _), HLOW2.out.fill HB0 HQ2.out, H92.out.fill3O H9R.out, HB9, SepR.n0 H9N.out H9V.out _⟩
end
end Go.Proofs.YtlcbinckbkdgdaaDoor
