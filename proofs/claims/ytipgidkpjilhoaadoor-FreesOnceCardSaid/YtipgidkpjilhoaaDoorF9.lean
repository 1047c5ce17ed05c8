/-
  A step of a thread: it does what the plain one does; condition: all lies as it says.
-/
import Derived.Test.YtipgidkpjilhoaaDoorH7
import Derived.Test.YtipgidkpjilhoaaDoorF6
import Derived.Deep.DeepCutAuto
namespace Go.Proofs.YtipgidkpjilhoaaDoor
open Go.RowKit Go.Maps

theorem HRow.tail {w : World} {B g off c n : Nat} {x : Int} {r : List Int} (h : HRow w B (.slice (some ⟨g, off, none⟩) n c) (x :: r)) :
    HRow w B (.slice (if c = 1 then some ⟨g, off, none⟩ else some ⟨g, off + 1, none⟩) r.length (c - 1)) r := by
  obtain ⟨A, c', e, h2, h3, h4, h5⟩ := h
  injection e with e1 e2 e3
  subst e1 e3
  simp only [List.length_cons] at h2
  refine ⟨_, c - 1, rfl, by omega, by omega, by split <;> simp, fun hc => ?_⟩
  obtain ⟨g', off', cur, e1, h6, h7, h8, h9⟩ := h5 (by omega)
  injection e1 with e1
  injection e1 with e1 e3
  subst e1 e3
  rw [if_neg (by omega)]
  refine ⟨g, off + 1, cur, rfl, h6, h7, by omega, fun j hj => ?_⟩
  have := h9 (j + 1) (by simpa using hj)
  rw [show off + 1 + j = off + (j + 1) by omega, this]
  simp
/-- What the steps ask of an operation under way. -/
def Pre : TO → Prop
  | .no => False
  | .pop o => U64 o.h ∧ (1 ≤ o.nx ∧ o.nx ≤ 3) ∧ (o.nx = 2 → 0 ≤ wSlot o.h)
  | .push o => U64 o.h ∧ (1 ≤ o.nx ∧ o.nx ≤ 3) ∧ (o.nx = 2 → 0 ≤ o.to ∧ o.to < 256)
theorem updT_id (th : Nat → Th) (k : Nat) : updT th k (th k) = th := by
  funext j
  by_cases h : j = k
  · rw [h, updT_same]
  · rw [updT_ne _ _ h]
theorem updT_two (th : Nat → Th) (k : Nat) (a b : Th) : updT (updT th k a) k b = updT th k b := by
  funext j
  by_cases h : j = k
  · rw [h, updT_same, updT_same]
  · rw [updT_ne _ _ h, updT_ne _ _ h, updT_ne _ _ h]
/-- Threads, wherever their rows and operations lie. -/
def TS (B p b G n : Nat) (th : Nat → Th) (M : MS) (w0 w : World) : Prop := ∃ hv qs st, st ≤ n ∧ TW B p b G hv qs th st M w ∧ Below B w0 w
section
variable {B p b G k st n : Nat} {hv : Nat → Value} {qs : Nat → Nat} {th : Nat → Th} {M : MS} {vh vp vq : Value} {w w' w0 : World}
theorem TL.so_new (L : TL B p b G k hv qs th st M vh vp vq w) {q : Nat} (hq : w.heap.size ≤ q) : SepO k qs th q := by
  intro j hj hjk hn e
  have h := L.op j hj hjk
  cases ho : (th j).op with
  | no => exact hn ho
  | pop o => rw [ho] at h; have := h.1.lt; omega
  | push o => rw [ho] at h; have := h.1.lt; omega
theorem hblk_tail {g off c n : Nat} {g' : Nat} (h : hblk (.slice (if c = 1 then some ⟨g, off, none⟩ else some ⟨g, off + 1, none⟩) n (c - 1)) = some g') (hc : 0 < c) : hblk (.slice (some ⟨g, off, none⟩) (n + 1) c) = some g' := by
  by_cases h1 : c = 1
  · rw [if_pos h1, h1] at h
    simp [hblk] at h
  · rw [if_neg h1] at h
    have h2 : c - 1 ≠ 0 := by omega
    have h3 : c ≠ 0 := by omega
    simpa [hblk, h2, h3] using h
theorem TL.set0 (L : TL B p b G k hv qs th st M vh vp vq w) (hB : 1 < B) (hk : k < 6) (v : Value) {a : Addr} (ha : a = ⟨G, 3 * k, none⟩) : TL B p b G k hv qs th st M v vp vq (w.setCell a v) := by
  have := L.set hB hk 0 (by decide) v (a := a) (ha.trans (by simp))
  simpa using this
theorem TL.set1 (L : TL B p b G k hv qs th st M vh vp vq w) (hB : 1 < B) (hk : k < 6) (v : Value) {a : Addr} (ha : a = ⟨G, 3 * k + 1, none⟩) : TL B p b G k hv qs th st M vh v vq (w.setCell a v) := by
  have := L.set hB hk 1 (by decide) v ha
  simpa using this
theorem TL.set2 (L : TL B p b G k hv qs th st M vh vp vq w) (hB : 1 < B) (hk : k < 6) (v : Value) {a : Addr} (ha : a = ⟨G, 3 * k + 2, none⟩) : TL B p b G k hv qs th st M vh vp v (w.setCell a v) := by
  have := L.set hB hk 2 (by decide) v ha
  simpa using this
theorem SepR.grown (sr : SepR k hv vh) {vh' vp' vq' v' : Value} (L : TL B p b G k hv qs th st M vh' vp' vq' w) (h : ∀ g, hblk v' = some g → hblk vh = some g ∨ w.heap.size ≤ g) : SepR k hv v' := by
  intro j hj hjk g hg e
  rcases h g hg with h | h
  · exact sr j hj hjk g h e
  · have := ((L.row j hj hjk).lt e).2.1
    omega
theorem popF_h (o : OS) (M : MS) : (popF o M).1.h = o.h ∨ (popF o M).1.h = M.hd := by
  unfold popF swapF
  repeat' split
  all_goals first | exact .inl rfl | exact .inr rfl
theorem pushF_h (o : OS) (M : MS) : (pushF o M).1.h = o.h ∨ (pushF o M).1.h = M.hd := by
  unfold pushF swapF
  repeat' split
  all_goals first | exact .inl rfl | exact .inr rfl

set_option maxRecDepth 100000 in
set_option maxHeartbeats 8000000 in
theorem step_any (bb : Bool) (hB : 1 < B) (hBw : B ≤ w0.heap.size) (hk : k < 6) (off : Nat) (hoff : off = 3 * k) (hn : n < 900000) (W : TS B p b G n th M w0 w) (hpre : Pre (beginF (th k) bb).op) (hin : ∀ x ∈ (th k).held, 0 ≤ x ∧ x < 256) (hlen : (beginF (th k) bb).held.length < 100000) :
    Calls Tryd.prog 24 #[.pointer (some ⟨G, off, none⟩), .pointer (some ⟨p, 0, none⟩), .bool bb] w fun e w' => e = .returned (.tuple #[]) ∧ TS B p b G (n + 1) (updT th k (goF (beginF (th k) bb) M).1) (goF (beginF (th k) bb) M).2 w0 w' := by
  have HIN := Lib.hid hin
  have HK := Lib.hid hoff
  have HLEN0 := Lib.hid hlen
  clear hin hoff hlen
  cases hop : (th k).op with
  | no =>
    obtain ⟨hv, qs, st, hst, W, hlow⟩ := W
    have L := W.tl hk
    rw [hop] at L
    simp only [popP, pushP] at L
    obtain ⟨c0, c1, c2, cf⟩ := L.cells
    have z0 := cf off
    have z1 := cf (off + 1)
    have z2 := cf (off + 2)
    rw [← HK.out] at c0 c1 c2
    have HL := Lib.hid L
    have HR := Lib.hid (W.row k hk)
    have HSR := Lib.hid (W.sr hk)
    have HLOW := Lib.hid hlow
    have HOP0 := Lib.hid hop
    have HPRE := Lib.hid hpre
    generalize hvk : hv k = vh at *
    clear L cf W hlow hop hpre hvk
    go_enter Tryd.func24, Tryd.ntmps24
    go_upto_if 19 with (fail)
    go_cut [0, 1] (fun s0 s1 wx => s0 = .pointer (some ⟨G, off, none⟩) ∧ s1 = .pointer (some ⟨p, 0, none⟩) ∧ Hid (TS B p b G n (updT th k (beginF (th k) bb)) M w0 wx))
    case first =>
      by_cases hb : bb = true ∧ (th k).held ≠ []
      · obtain ⟨rfl, hne⟩ := hb
        obtain ⟨x, r, hh⟩ : ∃ x r, (th k).held = x :: r := by
          cases hh : (th k).held with
          | nil => exact absurd hh hne
          | cons x r => exact ⟨x, r, rfl⟩
        have hx := HIN.out x (by rw [hh]; simp)
        have HH := Lib.hid hh
        have HBG := Lib.hid (show beginF (th k) true = ⟨r, .push ⟨1, 0, x⟩⟩ by simp [beginF, HOP0.out, hh])
        have HR0 := HR.out
        rw [hh] at HR0
        clear hh hne HR HIN
        obtain ⟨A, c, rfl, hc1, hc2, hc3, hc4⟩ : ∃ A c, vh = .slice A (r.length + 1) c ∧ r.length + 1 ≤ c ∧ c ≤ 9223372036854775807 ∧ True ∧ True := by
          obtain ⟨A, c, e, h2, h3, _⟩ := HR0
          exact ⟨A, c, by simpa using e, by simpa using h2, h3, trivial, trivial⟩
        obtain ⟨_, g, o2, rfl, y0⟩ := HR0.at_ (j := 0) (by omega)
        simp only [List.getD_cons_zero, Nat.add_zero] at y0
        have HR := Lib.hid HR0
        have HT := Lib.hid HR0.tail
        clear HR0 hc3 hc4
        have hlr : r.length < 100000 := by have h := HLEN0.out; rw [HBG.out] at h; exact h
        obtain ⟨m, hm⟩ : ∃ m, r.length = m := ⟨_, rfl⟩
        rw [hm] at HT hlr hc1 HR HL HSR c0
        have HM := Lib.hid hm
        clear hm
        obtain ⟨hx0, hx1⟩ := hx
        go_wp2_with fail
        ((with_reducible refine (newPush_any x hx0 hx1 w).mono ?_); rintro e w1 ⟨rfl, o1, hb1, hs1⟩)
        have HL1 := Lib.hid (HL.out.below hB hb1)
        have HT1 := Lib.hid (HT.out.below hb1)
        have HLOW1 := Lib.hid (HLOW.out.trans (hb1.mono (by have := HLOW.out.size; omega)))
        have HSO1 := Lib.hid (HL.out.so_new (Nat.le_refl w.heap.size))
        have HO1 := Lib.hid o1
        have hBq : B ≤ w.heap.size := by have := HLOW.out.size; omega
        generalize w.heap.size = q at *
        clear o1 hb1 hs1 c0 c1 c2 z0 z1 z2 y0
        obtain ⟨c0, c1, c2, cf⟩ := HL1.out.cells
        have z0 := cf off
        have z2 := cf (off + 2)
        rw [← HK.out] at c0 c1 c2
        clear cf
        have hL2 := HL1.out.set2 hB hk (.pointer (some ⟨q, 0, none⟩)) (a := ⟨G, off + 2, none⟩) (by rw [HK.out])
        have HL2 := Lib.hid hL2
        clear hL2
        by_cases hc : c = 1
        · subst hc
          have HT2 := HT1.out
          rw [← HM.out] at HT2
          have hL3 := HL2.out.set0 hB hk (.slice (some ⟨g, o2, none⟩) r.length 0) (a := ⟨G, off, none⟩) (by rw [HK.out])
          have hfin := hL3.tw hk (q := q) (t := ⟨r, .push ⟨1, 0, x⟩⟩) ((by simpa using HT2 : HRow w1 B (.slice (some ⟨g, o2, none⟩) r.length 0) r).setG HL1.out rfl _ |>.setG HL2.out rfl _) ⟨(HO1.out.setG HL1.out (by decide) rfl _).setG HL2.out (by decide) rfl _, hBq⟩ rfl rfl (fun j hj hjk g' hg' => by simp [hblk] at hg') (fun _ => HSO1.out)
          obtain rfl : m = 0 := by omega
          rw [HM.out] at hfin
          have HF := Lib.hid hfin
          clear hL3 hfin HT2
          go_wp2_with fail
          go_meet
          exact ⟨rfl, rfl, Lib.hid (by rw [HBG.out]; exact ⟨_, _, st, hst, HF.out, (HLOW1.out.setCell HL1.out.GB _).setCell HL1.out.GB _⟩)⟩
        · have HT2 := HT1.out
          rw [← HM.out] at HT2
          have hL3 := HL2.out.set0 hB hk (.slice (some ⟨g, o2 + 1, none⟩) r.length (c - 1)) (a := ⟨G, off, none⟩) (by rw [HK.out])
          have hfin := hL3.tw hk (q := q) (t := ⟨r, .push ⟨1, 0, x⟩⟩) ((by simpa [hc] using HT2 : HRow w1 B (.slice (some ⟨g, o2 + 1, none⟩) r.length (c - 1)) r).setG HL1.out rfl _ |>.setG HL2.out rfl _) ⟨(HO1.out.setG HL1.out (by decide) rfl _).setG HL2.out (by decide) rfl _, hBq⟩ rfl rfl (fun j hj hjk g' hg' => HSR.out j hj hjk g' (by rw [← HM.out]; exact hblk_tail (g := g) (off := o2) (n := r.length) (by rw [if_neg hc]; exact hg') (by omega))) (fun _ => HSO1.out)
          rw [HM.out] at hfin
          have HF := Lib.hid hfin
          have hc' : 1 < c := by omega
          clear hL3 hfin HT2
          go_wp2_with fail
          go_meet
          exact ⟨rfl, rfl, Lib.hid (by rw [HBG.out]; exact ⟨_, _, st, hst, HF.out, (HLOW1.out.setCell HL1.out.GB _).setCell HL1.out.GB _⟩)⟩
      · have HBG := Lib.hid (show beginF (th k) bb = ⟨(th k).held, .pop ⟨1, 0, 0⟩⟩ by simp only [beginF, HOP0.out, if_neg hb])
        have hb' : bb = false ∨ bb = true ∧ (th k).held.length = 0 := by
          by_cases h1 : bb = true
          · exact .inr ⟨h1, by simpa [h1] using hb⟩
          · exact .inl (by simpa using h1)
        clear hb
        obtain ⟨A, m, c, rfl, hm⟩ : ∃ A m c, vh = .slice A m c ∧ m = (th k).held.length := by
          obtain ⟨A, c, e, _⟩ := HR.out
          exact ⟨A, _, c, e, rfl⟩
        obtain ⟨m', bb', hm', hbb⟩ : ∃ m' : Nat, ∃ bb' : Bool, m = m' ∧ bb = bb' ∧ (bb' = false ∨ bb' = true ∧ m' = 0) := ⟨m, bb, rfl, rfl, by rw [hm]; exact hb'⟩
        clear hb' hm
        subst hm'
        obtain ⟨rfl, hbb⟩ := hbb
        rcases hbb with rfl | ⟨rfl, rfl⟩
        all_goals
          go_wp2_with fail
          ((with_reducible refine (newPop_any w).mono ?_); rintro e w1 ⟨rfl, o1, hb1, hs1⟩)
          have HL1 := Lib.hid (HL.out.below hB hb1)
          have HR1 := Lib.hid (HR.out.below hb1)
          have HLOW1 := Lib.hid (HLOW.out.trans (hb1.mono (by have := HLOW.out.size; omega)))
          have HSO1 := Lib.hid (HL.out.so_new (Nat.le_refl w.heap.size))
          have HO1 := Lib.hid o1
          have hBq : B ≤ w.heap.size := by have := HLOW.out.size; omega
          generalize w.heap.size = q at *
          clear o1 hb1 hs1 c0 c1 c2 z0 z1 z2
          obtain ⟨c0, c1, c2, cf⟩ := HL1.out.cells
          have z1 := cf (off + 1)
          rw [← HK.out] at c0 c1 c2
          clear cf
          have hfin := (HL1.out.set1 hB hk (.pointer (some ⟨q, 0, none⟩)) (a := ⟨G, off + 1, none⟩) (by rw [HK.out])).tw hk (q := q) (t := ⟨(th k).held, .pop ⟨1, 0, 0⟩⟩) (HR1.out.setG HL1.out rfl _) ⟨HO1.out.setG HL1.out (by decide) rfl _, hBq⟩ rfl rfl HSR.out (fun _ => HSO1.out)
          have HF := Lib.hid hfin
          clear hfin
          go_wp2_with fail
          go_meet
          exact ⟨rfl, rfl, Lib.hid (by rw [HBG.out]; exact ⟨_, _, st, hst, HF.out, HLOW1.out.setCell HL1.out.GB _⟩)⟩
    case rest =>
      obtain ⟨rfl, rfl, hW⟩ := hcut
      clear c0 c1 c2 z0 z1 z2 HL HR HSR HLOW HOP0 HIN hst hv qs st vh
      obtain ⟨th1, hth1⟩ : ∃ x, x = updT th k (beginF (th k) bb) := ⟨_, rfl⟩
      have hE : updT th k (goF (beginF (th k) bb) M).1 = updT th1 k (goF (th1 k) M).1 ∧ (goF (beginF (th k) bb) M).2 = (goF (th1 k) M).2 := by rw [hth1, updT_same, updT_two]; exact ⟨rfl, rfl⟩
      have hk1 : th1 k = beginF (th k) bb := by rw [hth1, updT_same]
      rw [← hth1] at hW
      rw [← hk1] at HPRE HLEN0
      have HE := Lib.hid (show TS B p b G (n + 1) (updT th k (goF (beginF (th k) bb) M).1) (goF (beginF (th k) bb) M).2 w0 = TS B p b G (n + 1) (updT th1 k (goF (th1 k) M).1) (goF (th1 k) M).2 w0 by rw [hE.1, hE.2])
      have HLEN := Lib.hid HLEN0.out
      clear hE hk1 hth1 HLEN0
      rename World => wx
      obtain ⟨hv, qs, st, hst, W, hlow⟩ := hW.out
      clear hW
      cases hop : (th1 k).op with
      | no => have h := HPRE.out; rw [hop] at h; exact h.elim
      | pop o =>
        have h := HPRE.out
        rw [hop] at h
        have HPR := Lib.hid h
        have HOP := Lib.hid hop
        clear hop HPRE h
        have L := W.tl hk
        have hr := W.row k hk
        have sr := W.sr hk
        have oq := W.op k hk
        have so := W.so hk (by rw [HOP.out]; exact TO.noConfusion)
        rw [HOP.out] at L oq
        simp only [popP, pushP] at L
        obtain ⟨oq, hqB⟩ := oq
        have hlen : (th1 k).held.length < 100000 := HLEN.out
        generalize qs k = q at *
        generalize hvk : hv k = vh at *
        obtain ⟨c0, c1, c2, cf⟩ := L.cells
        have z0 := cf off
        have z1 := cf (off + 1)
        have z2 := cf (off + 2)
        rw [← HK.out] at c0 c1 c2
        have HL := Lib.hid L
        have HR := Lib.hid hr
        have HSR := Lib.hid sr
        have HSO := Lib.hid so
        have HOQ := Lib.hid oq
        have HLOW := Lib.hid hlow
        obtain ⟨hu, hnx, h2⟩ := HPR.out
        have HH2 := Lib.hid h2
        clear L hr sr so oq cf hvk W hlow h2
        go_wp2_with fail
        ((with_reducible refine (pop_step (o := o) (by omega) HL.out.fm (by omega) hu (by omega) HH2.out HOQ.out).mono ?_); rintro e w2 ⟨rfl, hst2⟩)
        obtain ⟨o2, F2, k2⟩ := hst2
        have HL2 := Lib.hid (HL.out.step hB hqB HOQ.out (.inl rfl) HSO.out F2 k2)
        have HR2 := Lib.hid (HR.out.step HL.out.fm HOQ.out (.inl rfl) k2)
        have HLOW2 := Lib.hid (HLOW.out.trans (k2.below (B := B) (by have := HL.out.pB; omega) (by have := HL.out.bB; omega) hqB (by have := HLOW.out.size; omega)))
        have HO2 := Lib.hid o2
        have HUH := Lib.hid (show U64 (popF o M).1.h by rcases popF_h o M with e | e <;> rw [e]; exact hu; exact HL.out.fm.hd_u64)
        have hcost := cost_le o
        clear o2 F2 k2 c0 c1 c2 z0 z1 z2
        obtain ⟨c0, c1, c2, cf⟩ := HL2.out.cells
        have z0 := cf off
        have z1 := cf (off + 1)
        have z2 := cf (off + 2)
        rw [← HK.out] at c0 c1 c2
        clear cf

        by_cases hz : (popF o M).1.nx = 0
        · have hzb : ((popF o M).1.nx == 0) = true := by rw [hz]; rfl
          rw [hzb]
          have HO3 := HO2.out
          rw [hz] at HO3
          have HO2 := Lib.hid HO3
          have HZ := Lib.hid hz
          clear hz hzb HO3
          by_cases hs : wSlot (popF o M).1.h < 0
          · have HS := Lib.hid hs
            have hgot := got_none HL2.out.fm.lay HUH.out hs HO2.out
            clear hs
            go_wp2_with fail
            ((with_reducible refine hgot.mono ?_); rintro e w3 ⟨rfl, j, rfl⟩)
            have HX := Lib.hid (show Below w2.heap.size w2 (w2.drewN j) from below_drewN' (Below.refl _ _) j)
            have HL3 := Lib.hid (HL2.out.below hB HX.out)
            have HR3 := Lib.hid (HR2.out.below HX.out)
            have HLOW3 := Lib.hid (HLOW2.out.trans (HX.out.mono (by have := HLOW2.out.size; omega)))
            clear hgot HX c0 c1 c2 z0 z1 z2
            revert HL3 HR3 HLOW3
            generalize w2.drewN j = w3
            intro HL3 HR3 HLOW3
            obtain ⟨c0, c1, c2, cf⟩ := HL3.out.cells
            have z1 := cf (off + 1)
            rw [← HK.out] at c0 c1 c2
            clear cf
            go_wp2_with fail
            ((try simp only [Exit.inBlock, Exit.then]); refine bodyPost_ret (results_none rfl _ _ _) rfl ?_)
            have hg : goF (th1 k) M = (⟨(th1 k).held, .no⟩, (popF o M).2) := by unfold goF; rw [HOP.out]; simp only [HZ.out, if_true, if_pos HS.out]
            refine ⟨rfl, ?_⟩
            rw [HE.out, hg]
            exact ⟨_, _, _, by omega, (HL3.out.set1 hB hk (.pointer none) (by rw [HK.out])).tw hk (q := q) (t := ⟨(th1 k).held, .no⟩) (HR3.out.setG HL3.out rfl _) trivial rfl rfl HSR.out (fun h => absurd rfl h), HLOW3.out.setCell HL3.out.GB _⟩
          · have HS := Lib.hid hs
            have hgot := got_slot HL2.out.fm.lay HUH.out (by omega) HO2.out
            clear hs
            go_wp2_with fail
            ((with_reducible refine hgot.mono ?_); rintro e w3 ⟨rfl, j, rfl⟩)
            have HX := Lib.hid (show Below w2.heap.size w2 (w2.drewN j) from below_drewN' (Below.refl _ _) j)
            have HL3 := Lib.hid (HL2.out.below hB HX.out)
            have HR3 := Lib.hid (HR2.out.below HX.out)
            have HLOW3 := Lib.hid (HLOW2.out.trans (HX.out.mono (by have := HLOW2.out.size; omega)))
            clear hgot HX c0 c1 c2 z0 z1 z2
            revert HL3 HR3 HLOW3
            generalize w2.drewN j = w3
            intro HL3 HR3 HLOW3
            obtain ⟨c0, c1, c2, cf⟩ := HL3.out.cells
            rw [← HK.out] at c0 c1 c2
            clear cf
            have hBw3 : B ≤ w3.heap.size := by have := HL3.out.pB; have := HL3.out.fm.lt; omega
            generalize hze : wSlot (popF o M).1.h = z
            have HZE := Lib.hid hze
            clear hze
            have HA := Lib.hid (show Below w3.heap.size w3 (w3.alloc (.cells #[.int .i64 z] 3)) from (Below.refl _ _).alloc (Nat.le_refl _) _)
            have HRA := Lib.hid (HR3.out.below HA.out)
            have HLA := Lib.hid (HL3.out.below hB HA.out)
            have hca : (w3.alloc (.cells #[.int .i64 z] 3)).cell? ⟨w3.heap.size, 0, none⟩ = some (.int .i64 z) := by simp [go_sem]
            have HCA := Lib.hid hca
            clear hca
            go_wp2_with (at_builtin; go_loud (refine wpList_append_slice rfl (.tmp 75) (.tmp 77) rfl B vh (th1 k).held rfl HRA.out ⟨w3.heap.size, 0, none⟩ 1 z rfl HCA.out hlen (by have := HA.out.size; omega) ?_; intro A' n' c' w4 hr4 hg4 hb4; have HR4 := Lib.hid hr4; have HL4 := Lib.hid (HLA.out.grown hB HRA.out HSR.out hg4); have HSR4 := Lib.hid (HSR.out.grown HLA.out hb4); have HLOW4 := Lib.hid ((HLOW3.out.trans (HA.out.mono (by have := HLOW3.out.size; omega))).grown hg4 (by have := HLOW3.out.size; have := HA.out.size; omega) (fun g hg => (HRA.out.lt hg).1)); have hcc := HL4.out.cells; rw [← HK.out] at hcc; obtain ⟨d0, d1, d2, df⟩ := hcc; have y0 := df off; have y1 := df (off + 1); clear df hr4 hg4 hb4 c0 c1 c2))
            ((try simp only [Exit.inBlock, Exit.then]); refine bodyPost_ret (results_none rfl _ _ _) rfl ?_)
            have hg : goF (th1 k) M = (⟨(th1 k).held ++ [z], .no⟩, (popF o M).2) := by unfold goF; rw [HOP.out]; simp only [HZ.out, if_true, if_neg (Int.not_lt.2 HS.out)]; rw [HZE.out]
            refine ⟨rfl, ?_⟩
            rw [HE.out, hg]
            have hLs := HL4.out.set0 hB hk (.slice A' n' c') (a := ⟨G, off, none⟩) (by rw [HK.out])
            exact ⟨_, _, _, by omega, (hLs.set1 hB hk (.pointer none) (by rw [HK.out])).tw hk (q := q) (t := ⟨(th1 k).held ++ [z], .no⟩) ((HR4.out.setG HL4.out rfl _).setG hLs rfl _) trivial rfl rfl HSR4.out (fun h => absurd rfl h), (HLOW4.out.setCell HL4.out.GB _).setCell HL4.out.GB _⟩
        · have hzb : ((popF o M).1.nx == 0) = false := by simpa using hz
          rw [hzb]
          have HZ := Lib.hid hz
          clear hz hzb
          go_wp2_with fail
          ((try simp only [Exit.inBlock, Exit.then]); refine bodyPost_ret (results_none rfl _ _ _) rfl ?_)
          have hg : goF (th1 k) M = (⟨(th1 k).held, .pop (popF o M).1⟩, (popF o M).2) := by unfold goF; rw [HOP.out]; simp only [if_neg HZ.out]
          refine ⟨rfl, ?_⟩
          rw [HE.out, hg]
          exact ⟨_, _, _, by omega, HL2.out.tw hk (q := q) (t := ⟨(th1 k).held, .pop (popF o M).1⟩) HR2.out ⟨HO2.out, hqB⟩ rfl rfl HSR.out (fun _ => HSO.out), HLOW2.out⟩
      | push o =>
        have h := HPRE.out
        rw [hop] at h
        have HPR := Lib.hid h
        have HOP := Lib.hid hop
        clear hop HPRE h
        have L := W.tl hk
        have hr := W.row k hk
        have sr := W.sr hk
        have oq := W.op k hk
        have so := W.so hk (by rw [HOP.out]; exact TO.noConfusion)
        rw [HOP.out] at L oq
        simp only [popP, pushP] at L
        obtain ⟨oq, hqB⟩ := oq
        have hlen : (th1 k).held.length < 100000 := HLEN.out
        generalize qs k = q at *
        generalize hvk : hv k = vh at *
        obtain ⟨c0, c1, c2, cf⟩ := L.cells
        have z0 := cf off
        have z1 := cf (off + 1)
        have z2 := cf (off + 2)
        rw [← HK.out] at c0 c1 c2
        have HL := Lib.hid L
        have HR := Lib.hid hr
        have HSR := Lib.hid sr
        have HSO := Lib.hid so
        have HOQ := Lib.hid oq
        have HLOW := Lib.hid hlow
        obtain ⟨hu, hnx, h2⟩ := HPR.out
        have HH2 := Lib.hid h2
        clear L hr sr so oq cf hvk W hlow h2
        go_wp2_with fail
        ((with_reducible refine (push_step (o := o) (by omega) HL.out.fm (by omega) hu (by omega) HH2.out HOQ.out).mono ?_); rintro e w2 ⟨rfl, hst2⟩)
        obtain ⟨o2, F2, k2⟩ := hst2
        have HL2 := Lib.hid (HL.out.step hB hqB HOQ.out (.inr rfl) HSO.out F2 k2)
        have HR2 := Lib.hid (HR.out.step HL.out.fm HOQ.out (.inr rfl) k2)
        have HLOW2 := Lib.hid (HLOW.out.trans (k2.below (B := B) (by have := HL.out.pB; omega) (by have := HL.out.bB; omega) hqB (by have := HLOW.out.size; omega)))
        have HO2 := Lib.hid o2
        have HUH := Lib.hid (show U64 (pushF o M).1.h by rcases pushF_h o M with e | e <;> rw [e]; exact hu; exact HL.out.fm.hd_u64)
        have hcost := cost_le o
        clear o2 F2 k2 c0 c1 c2 z0 z1 z2
        obtain ⟨c0, c1, c2, cf⟩ := HL2.out.cells
        have z0 := cf off
        have z1 := cf (off + 1)
        have z2 := cf (off + 2)
        rw [← HK.out] at c0 c1 c2
        clear cf

        by_cases hz : (pushF o M).1.nx = 0
        · have hzb : ((pushF o M).1.nx == 0) = true := by rw [hz]; rfl
          rw [hzb]
          have HZ := Lib.hid hz
          clear hz hzb
          go_wp2_with fail
          go_end0
          have hg : goF (th1 k) M = (⟨(th1 k).held, .no⟩, (pushF o M).2) := by unfold goF; rw [HOP.out]; simp only [HZ.out, if_true]
          refine ⟨rfl, ?_⟩
          rw [HE.out, hg]
          exact ⟨_, _, _, by omega, (HL2.out.set2 hB hk (.pointer none) (by rw [HK.out])).tw hk (q := q) (t := ⟨(th1 k).held, .no⟩) (HR2.out.setG HL2.out rfl _) trivial rfl rfl HSR.out (fun h => absurd rfl h), HLOW2.out.setCell HL2.out.GB _⟩
        · have hzb : ((pushF o M).1.nx == 0) = false := by simpa using hz
          rw [hzb]
          have HZ := Lib.hid hz
          clear hz hzb
          go_wp2_with fail
          go_end0
          have hg : goF (th1 k) M = (⟨(th1 k).held, .push (pushF o M).1⟩, (pushF o M).2) := by unfold goF; rw [HOP.out]; simp only [if_neg HZ.out]
          refine ⟨rfl, ?_⟩
          rw [HE.out, hg]
          exact ⟨_, _, _, by omega, HL2.out.tw hk (q := q) (t := ⟨(th1 k).held, .push (pushF o M).1⟩) HR2.out ⟨HO2.out, hqB⟩ rfl rfl HSR.out (fun _ => HSO.out), HLOW2.out⟩
  | pop o =>
    have hbg : beginF (th k) bb = th k := by unfold beginF; rw [hop]
    rw [hbg] at hpre HLEN0 ⊢
    rw [hop] at hpre
    have HPR := Lib.hid hpre
    have HOP := Lib.hid hop
    have HLEN := Lib.hid HLEN0.out
    clear hop hpre hbg HLEN0
    obtain ⟨hv, qs, st, hst, W, hlow⟩ := W
    go_enter Tryd.func24, Tryd.ntmps24
    have L := W.tl hk
    have hr := W.row k hk
    have sr := W.sr hk
    have oq := W.op k hk
    have so := W.so hk (by rw [HOP.out]; exact TO.noConfusion)
    rw [HOP.out] at L oq
    simp only [popP, pushP] at L
    obtain ⟨oq, hqB⟩ := oq
    have hlen : (th k).held.length < 100000 := HLEN.out
    generalize qs k = q at *
    generalize hvk : hv k = vh at *
    obtain ⟨c0, c1, c2, cf⟩ := L.cells
    have z0 := cf off
    have z1 := cf (off + 1)
    have z2 := cf (off + 2)
    rw [← HK.out] at c0 c1 c2
    have HL := Lib.hid L
    have HR := Lib.hid hr
    have HSR := Lib.hid sr
    have HSO := Lib.hid so
    have HOQ := Lib.hid oq
    have HLOW := Lib.hid hlow
    obtain ⟨hu, hnx, h2⟩ := HPR.out
    have HH2 := Lib.hid h2
    clear L hr sr so oq cf hvk W hlow h2
    go_wp2_with fail
    ((with_reducible refine (pop_step (o := o) (by omega) HL.out.fm (by omega) hu (by omega) HH2.out HOQ.out).mono ?_); rintro e w2 ⟨rfl, hst2⟩)
    obtain ⟨o2, F2, k2⟩ := hst2
    have HL2 := Lib.hid (HL.out.step hB hqB HOQ.out (.inl rfl) HSO.out F2 k2)
    have HR2 := Lib.hid (HR.out.step HL.out.fm HOQ.out (.inl rfl) k2)
    have HLOW2 := Lib.hid (HLOW.out.trans (k2.below (B := B) (by have := HL.out.pB; omega) (by have := HL.out.bB; omega) hqB (by have := HLOW.out.size; omega)))
    have HO2 := Lib.hid o2
    have HUH := Lib.hid (show U64 (popF o M).1.h by rcases popF_h o M with e | e <;> rw [e]; exact hu; exact HL.out.fm.hd_u64)
    have hcost := cost_le o
    clear o2 F2 k2 c0 c1 c2 z0 z1 z2
    obtain ⟨c0, c1, c2, cf⟩ := HL2.out.cells
    have z0 := cf off
    have z1 := cf (off + 1)
    have z2 := cf (off + 2)
    rw [← HK.out] at c0 c1 c2
    clear cf

    by_cases hz : (popF o M).1.nx = 0
    · have hzb : ((popF o M).1.nx == 0) = true := by rw [hz]; rfl
      rw [hzb]
      have HO3 := HO2.out
      rw [hz] at HO3
      have HO2 := Lib.hid HO3
      have HZ := Lib.hid hz
      clear hz hzb HO3
      by_cases hs : wSlot (popF o M).1.h < 0
      · have HS := Lib.hid hs
        have hgot := got_none HL2.out.fm.lay HUH.out hs HO2.out
        clear hs
        go_wp2_with fail
        ((with_reducible refine hgot.mono ?_); rintro e w3 ⟨rfl, j, rfl⟩)
        have HX := Lib.hid (show Below w2.heap.size w2 (w2.drewN j) from below_drewN' (Below.refl _ _) j)
        have HL3 := Lib.hid (HL2.out.below hB HX.out)
        have HR3 := Lib.hid (HR2.out.below HX.out)
        have HLOW3 := Lib.hid (HLOW2.out.trans (HX.out.mono (by have := HLOW2.out.size; omega)))
        clear hgot HX c0 c1 c2 z0 z1 z2
        revert HL3 HR3 HLOW3
        generalize w2.drewN j = w3
        intro HL3 HR3 HLOW3
        obtain ⟨c0, c1, c2, cf⟩ := HL3.out.cells
        have z1 := cf (off + 1)
        rw [← HK.out] at c0 c1 c2
        clear cf
        go_wp2_with fail
        ((try simp only [Exit.inBlock, Exit.then]); refine bodyPost_ret (results_none rfl _ _ _) rfl ?_)
        have hg : goF (th k) M = (⟨(th k).held, .no⟩, (popF o M).2) := by unfold goF; rw [HOP.out]; simp only [HZ.out, if_true, if_pos HS.out]
        refine ⟨rfl, ?_⟩
        rw [hg]
        exact ⟨_, _, _, by omega, (HL3.out.set1 hB hk (.pointer none) (by rw [HK.out])).tw hk (q := q) (t := ⟨(th k).held, .no⟩) (HR3.out.setG HL3.out rfl _) trivial rfl rfl HSR.out (fun h => absurd rfl h), HLOW3.out.setCell HL3.out.GB _⟩
      · have HS := Lib.hid hs
        have hgot := got_slot HL2.out.fm.lay HUH.out (by omega) HO2.out
        clear hs
        go_wp2_with fail
        ((with_reducible refine hgot.mono ?_); rintro e w3 ⟨rfl, j, rfl⟩)
        have HX := Lib.hid (show Below w2.heap.size w2 (w2.drewN j) from below_drewN' (Below.refl _ _) j)
        have HL3 := Lib.hid (HL2.out.below hB HX.out)
        have HR3 := Lib.hid (HR2.out.below HX.out)
        have HLOW3 := Lib.hid (HLOW2.out.trans (HX.out.mono (by have := HLOW2.out.size; omega)))
        clear hgot HX c0 c1 c2 z0 z1 z2
        revert HL3 HR3 HLOW3
        generalize w2.drewN j = w3
        intro HL3 HR3 HLOW3
        obtain ⟨c0, c1, c2, cf⟩ := HL3.out.cells
        rw [← HK.out] at c0 c1 c2
        clear cf
        have hBw3 : B ≤ w3.heap.size := by have := HL3.out.pB; have := HL3.out.fm.lt; omega
        generalize hze : wSlot (popF o M).1.h = z
        have HZE := Lib.hid hze
        clear hze
        have HA := Lib.hid (show Below w3.heap.size w3 (w3.alloc (.cells #[.int .i64 z] 3)) from (Below.refl _ _).alloc (Nat.le_refl _) _)
        have HRA := Lib.hid (HR3.out.below HA.out)
        have HLA := Lib.hid (HL3.out.below hB HA.out)
        have hca : (w3.alloc (.cells #[.int .i64 z] 3)).cell? ⟨w3.heap.size, 0, none⟩ = some (.int .i64 z) := by simp [go_sem]
        have HCA := Lib.hid hca
        clear hca
        go_wp2_with (at_builtin; go_loud (refine wpList_append_slice rfl (.tmp 75) (.tmp 77) rfl B vh (th k).held rfl HRA.out ⟨w3.heap.size, 0, none⟩ 1 z rfl HCA.out hlen (by have := HA.out.size; omega) ?_; intro A' n' c' w4 hr4 hg4 hb4; have HR4 := Lib.hid hr4; have HL4 := Lib.hid (HLA.out.grown hB HRA.out HSR.out hg4); have HSR4 := Lib.hid (HSR.out.grown HLA.out hb4); have HLOW4 := Lib.hid ((HLOW3.out.trans (HA.out.mono (by have := HLOW3.out.size; omega))).grown hg4 (by have := HLOW3.out.size; have := HA.out.size; omega) (fun g hg => (HRA.out.lt hg).1)); have hcc := HL4.out.cells; rw [← HK.out] at hcc; obtain ⟨d0, d1, d2, df⟩ := hcc; have y0 := df off; have y1 := df (off + 1); clear df hr4 hg4 hb4 c0 c1 c2))
        ((try simp only [Exit.inBlock, Exit.then]); refine bodyPost_ret (results_none rfl _ _ _) rfl ?_)
        have hg : goF (th k) M = (⟨(th k).held ++ [z], .no⟩, (popF o M).2) := by unfold goF; rw [HOP.out]; simp only [HZ.out, if_true, if_neg (Int.not_lt.2 HS.out)]; rw [HZE.out]
        refine ⟨rfl, ?_⟩
        rw [hg]
        have hLs := HL4.out.set0 hB hk (.slice A' n' c') (a := ⟨G, off, none⟩) (by rw [HK.out])
        exact ⟨_, _, _, by omega, (hLs.set1 hB hk (.pointer none) (by rw [HK.out])).tw hk (q := q) (t := ⟨(th k).held ++ [z], .no⟩) ((HR4.out.setG HL4.out rfl _).setG hLs rfl _) trivial rfl rfl HSR4.out (fun h => absurd rfl h), (HLOW4.out.setCell HL4.out.GB _).setCell HL4.out.GB _⟩
    · have hzb : ((popF o M).1.nx == 0) = false := by simpa using hz
      rw [hzb]
      have HZ := Lib.hid hz
      clear hz hzb
      go_wp2_with fail
      ((try simp only [Exit.inBlock, Exit.then]); refine bodyPost_ret (results_none rfl _ _ _) rfl ?_)
      have hg : goF (th k) M = (⟨(th k).held, .pop (popF o M).1⟩, (popF o M).2) := by unfold goF; rw [HOP.out]; simp only [if_neg HZ.out]
      refine ⟨rfl, ?_⟩
      rw [hg]
      exact ⟨_, _, _, by omega, HL2.out.tw hk (q := q) (t := ⟨(th k).held, .pop (popF o M).1⟩) HR2.out ⟨HO2.out, hqB⟩ rfl rfl HSR.out (fun _ => HSO.out), HLOW2.out⟩
  | push o =>
    have hbg : beginF (th k) bb = th k := by unfold beginF; rw [hop]
    rw [hbg] at hpre HLEN0 ⊢
    rw [hop] at hpre
    have HPR := Lib.hid hpre
    have HOP := Lib.hid hop
    have HLEN := Lib.hid HLEN0.out
    clear hop hpre hbg HLEN0
    obtain ⟨hv, qs, st, hst, W, hlow⟩ := W
    go_enter Tryd.func24, Tryd.ntmps24
    have L := W.tl hk
    have hr := W.row k hk
    have sr := W.sr hk
    have oq := W.op k hk
    have so := W.so hk (by rw [HOP.out]; exact TO.noConfusion)
    rw [HOP.out] at L oq
    simp only [popP, pushP] at L
    obtain ⟨oq, hqB⟩ := oq
    have hlen : (th k).held.length < 100000 := HLEN.out
    generalize qs k = q at *
    generalize hvk : hv k = vh at *
    obtain ⟨c0, c1, c2, cf⟩ := L.cells
    have z0 := cf off
    have z1 := cf (off + 1)
    have z2 := cf (off + 2)
    rw [← HK.out] at c0 c1 c2
    have HL := Lib.hid L
    have HR := Lib.hid hr
    have HSR := Lib.hid sr
    have HSO := Lib.hid so
    have HOQ := Lib.hid oq
    have HLOW := Lib.hid hlow
    obtain ⟨hu, hnx, h2⟩ := HPR.out
    have HH2 := Lib.hid h2
    clear L hr sr so oq cf hvk W hlow h2
    go_wp2_with fail
    ((with_reducible refine (push_step (o := o) (by omega) HL.out.fm (by omega) hu (by omega) HH2.out HOQ.out).mono ?_); rintro e w2 ⟨rfl, hst2⟩)
    obtain ⟨o2, F2, k2⟩ := hst2
    have HL2 := Lib.hid (HL.out.step hB hqB HOQ.out (.inr rfl) HSO.out F2 k2)
    have HR2 := Lib.hid (HR.out.step HL.out.fm HOQ.out (.inr rfl) k2)
    have HLOW2 := Lib.hid (HLOW.out.trans (k2.below (B := B) (by have := HL.out.pB; omega) (by have := HL.out.bB; omega) hqB (by have := HLOW.out.size; omega)))
    have HO2 := Lib.hid o2
    have HUH := Lib.hid (show U64 (pushF o M).1.h by rcases pushF_h o M with e | e <;> rw [e]; exact hu; exact HL.out.fm.hd_u64)
    have hcost := cost_le o
    clear o2 F2 k2 c0 c1 c2 z0 z1 z2
    obtain ⟨c0, c1, c2, cf⟩ := HL2.out.cells
    have z0 := cf off
    have z1 := cf (off + 1)
    have z2 := cf (off + 2)
    rw [← HK.out] at c0 c1 c2
    clear cf

    by_cases hz : (pushF o M).1.nx = 0
    · have hzb : ((pushF o M).1.nx == 0) = true := by rw [hz]; rfl
      rw [hzb]
      have HZ := Lib.hid hz
      clear hz hzb
      go_wp2_with fail
      go_end0
      have hg : goF (th k) M = (⟨(th k).held, .no⟩, (pushF o M).2) := by unfold goF; rw [HOP.out]; simp only [HZ.out, if_true]
      refine ⟨rfl, ?_⟩
      rw [hg]
      exact ⟨_, _, _, by omega, (HL2.out.set2 hB hk (.pointer none) (by rw [HK.out])).tw hk (q := q) (t := ⟨(th k).held, .no⟩) (HR2.out.setG HL2.out rfl _) trivial rfl rfl HSR.out (fun h => absurd rfl h), HLOW2.out.setCell HL2.out.GB _⟩
    · have hzb : ((pushF o M).1.nx == 0) = false := by simpa using hz
      rw [hzb]
      have HZ := Lib.hid hz
      clear hz hzb
      go_wp2_with fail
      go_end0
      have hg : goF (th k) M = (⟨(th k).held, .push (pushF o M).1⟩, (pushF o M).2) := by unfold goF; rw [HOP.out]; simp only [if_neg HZ.out]
      refine ⟨rfl, ?_⟩
      rw [hg]
      exact ⟨_, _, _, by omega, HL2.out.tw hk (q := q) (t := ⟨(th k).held, .push (pushF o M).1⟩) HR2.out ⟨HO2.out, hqB⟩ rfl rfl HSR.out (fun _ => HSO.out), HLOW2.out⟩
end
end Go.Proofs.YtipgidkpjilhoaaDoor
