/-
  A step of an actor: it does what the plain one does, and leaves what is not its own; condition: all lies as it says.
-/
import Derived.Test.YtmjcbjcnmgleaaaGreatDoorAC1
import Derived.Deep.DeepCutAuto
namespace Go.Proofs.YtmjcbjcnmgleaaaGreatDoor
open Go.RowKit Go.Maps

section
variable {nt B p b G k n : Nat} {Q : List Nat} {ly : Nat → LY} {th : Nat → TA} {M : MV} {Mp : MA} {w w' w0 : World}
/-- What is low lies as it did, and so do the blocks of Q. -/
structure Lw (B : Nat) (Q : List Nat) (w0 w : World) : Prop where
  low : Below B w0 w
  keep : ∀ x ∈ Q, x < w.heap.size ∧ w.heap[x]? = w0.heap[x]?
theorem Lw.start (hQ : ∀ x ∈ Q, x < w.heap.size) : Lw B Q w w := ⟨.refl _ _, fun x hx => ⟨hQ x hx, rfl⟩⟩
theorem Lw.size (h : Lw B Q w0 w) : w0.heap.size ≤ w.heap.size := h.low.size
theorem Lw.below (h : Lw B Q w0 w) (hBw : B ≤ w0.heap.size) (hb : Below w.heap.size w w') : Lw B Q w0 w' :=
  ⟨h.low.trans (hb.mono (Nat.le_trans hBw h.size)), fun x hx => ⟨Nat.lt_of_lt_of_le (h.keep x hx).1 hb.size, (hb.block x (h.keep x hx).1).trans (h.keep x hx).2⟩⟩
theorem Lw.onl {vh vp vq : Value} {E : List Nat} (h : Lw B Q w0 w) (hBw : B ≤ w0.heap.size) (L : TL nt B p b G k ly th M vh vp vq w) (k3 : Onl p b E w w') (hE : ∀ x ∈ E, Own B x w) (hQ : ∀ x ∈ Q, x ≠ p ∧ x ≠ b ∧ x ≠ G) (hN : ∀ x ∈ Q, x ∉ E) : Lw B Q w0 w' :=
  ⟨h.low.trans (k3.below (B := B) L.pB L.bB (fun x hx => (hE x hx).1) (Nat.le_trans hBw h.size)), fun x hx => ⟨Nat.lt_of_lt_of_le (h.keep x hx).1 k3.size, (k3.block x (h.keep x hx).1 (hQ x hx).1 (hQ x hx).2.1 (hN x hx)).trans (h.keep x hx).2⟩⟩
theorem Lw.setG {vh vp vq : Value} (h : Lw B Q w0 w) (L : TL nt B p b G k ly th M vh vp vq w) {a : Addr} (ha : a.block = G) (hQ : ∀ x ∈ Q, x ≠ p ∧ x ≠ b ∧ x ≠ G) (u : Value) : Lw B Q w0 (w.setCell a u) :=
  ⟨h.low.setCell (p := a) (by rw [ha]; exact L.GB) u, fun x hx => ⟨by have := (h.keep x hx).1; simpa [World.setCell] using this, (Below.heap_setCell w a u x (by rw [ha]; exact (hQ x hx).2.2)).trans (h.keep x hx).2⟩⟩
theorem Lw.grown {v : Value} {xs : List (Int × Int)} (h : Lw B Q w0 w) (hBw : B ≤ w0.heap.size) (hr : HRow w B v xs) (hg : w.grownBy w' (hblk v)) (hQ : ∀ x ∈ Q, hblk v ≠ some x) : Lw B Q w0 w' :=
  ⟨h.low.grown hg (Nat.le_trans hBw h.size) (fun _ e => (hr.lt e).1), fun x hx => ⟨Nat.lt_of_lt_of_le (h.keep x hx).1 hg.size, (hg.block x (h.keep x hx).1 (fun e => hQ x hx e.symm)).trans (h.keep x hx).2⟩⟩
theorem Lw.fresh (h : Lw B Q w0 w) {fp : List Nat} (hq : ∀ y ∈ fp, w.heap.size ≤ y) : ∀ x ∈ Q, x ∉ fp := fun x hx e => by
  have h1 := (h.keep x hx).1
  have h2 := hq x e
  omega
theorem Lw.xo_step {q r r1 r' r1' r2 : Nat} (L : Lw B Q w0 w) (h : ∀ x ∈ Q, x ∉ [q, r, r1]) (h1 : r' = r ∨ w.heap.size ≤ r') (h2 : r1' = r1 ∨ w.heap.size ≤ r1') (h3 : r2 = r' ∨ r2 = r1') : ∀ x ∈ Q, x ∉ [q, r', r2] := fun x hx e => by
  have h4 := (L.keep x hx).1
  have h5 := h x hx
  simp only [List.mem_cons, List.not_mem_nil, or_false, not_or] at h5 e
  omega
theorem Lw.xh_grown {v v' : Value} (L : Lw B Q w0 w) (h : ∀ x ∈ Q, hblk v ≠ some x) (hb : ∀ g, hblk v' = some g → hblk v = some g ∨ w.heap.size ≤ g) : ∀ x ∈ Q, hblk v' ≠ some x := fun x hx e => by
  rcases hb x e with h1 | h1
  · exact h x hx h1
  · have := (L.keep x hx).1
    omega
/-- Blocks that are not the actors', nor the memory's. -/
structure Apx (Q : List Nat) (p b G nt : Nat) (ly : Nat → LY) : Prop where
  ne : ∀ x ∈ Q, x ≠ p ∧ x ≠ b ∧ x ≠ G
  h : ∀ j, j < nt → ∀ x ∈ Q, hblk (ly j).h ≠ some x
  o : ∀ j, j < nt → ∀ x ∈ Q, x ∉ (ly j).fp
theorem Apx.upd (A : Apx Q p b G nt ly) {vh vp vq : Value} {fp : List Nat} (h1 : ∀ x ∈ Q, hblk vh ≠ some x) (h2 : ∀ x ∈ Q, x ∉ fp) : Apx Q p b G nt (updN ly k ⟨vh, vp, vq, fp⟩) := by
  refine ⟨A.ne, fun j hj x hx => ?_, fun j hj x hx => ?_⟩
  · by_cases e : j = k
    · rw [e, updN_same]; exact h1 x hx
    · rw [updN_ne _ _ e]; exact A.h j hj x hx
  · by_cases e : j = k
    · rw [e, updN_same]; exact h2 x hx
    · rw [updN_ne _ _ e]; exact A.o j hj x hx
/-- Actors, wherever their rows and operations lie. -/
def TS (nt B p b G : Nat) (Q : List Nat) (n : Nat) (th : Nat → TA) (Mp : MA) (w0 w : World) : Prop := ∃ ly M, maV M.V = Mp ∧ M.s.st ≤ (n : Int) ∧ TW nt B p b G ly th M w ∧ Lw B Q w0 w ∧ Apx Q p b G nt ly
theorem TL.so_step {vh vp vq : Value} (L : TL nt B p b G k ly th M vh vp vq w) {q r r1 r' r1' r2 : Nat} (h : SepO nt k ly [q, r, r1]) (h1 : r' = r ∨ w.heap.size ≤ r') (h2 : r1' = r1 ∨ w.heap.size ≤ r1') (h3 : r2 = r' ∨ r2 = r1') : SepO nt k ly [q, r', r2] := by
  intro j hj hjk x hx e
  have hlt := (L.own j hj hjk x e).lt
  have key : x = q ∨ x = r ∨ x = r1 := by
    simp only [List.mem_cons, List.not_mem_nil, or_false] at hx
    omega
  exact h j hj hjk x (by simp only [List.mem_cons, List.not_mem_nil, or_false]; exact key) e
theorem al_go {ox : AX} {hl : List (Int × Int)} (hM : maV M.V = Mp) (ok : AlNum ox) (h2 : ox.o.ln = 1 → ox.o.pop.nx = 2 → 0 ≤ wSlot ox.o.pop.h) :
    goA ⟨hl, .al ox.o⟩ Mp = (if (alX ox M).1.o.ln = 0 then ⟨if (alX ox M).1.o.got then hl ++ [((alX ox M).1.o.sl, gW (alX ox M).1.o.w)] else hl, .no⟩ else ⟨hl, .al (alX ox M).1.o⟩, maV (alX ox M).2.V) := by
  subst hM
  have e := alX_ma ox M ok h2
  simp only [goA, e]
theorem fr_go {fx : FX} {hl : List (Int × Int)} (hM : maV M.V = Mp) (ok : FrNum fx) :
    goA ⟨hl, .fr fx.o⟩ Mp = (if (frX fx M).1.o.ln = 0 then ⟨hl, .no⟩ else ⟨hl, .fr (frX fx M).1.o⟩, maV (frX fx M).2.V) := by
  subst hM
  have e := frX_ma fx M ok
  simp only [goA, e]
theorem step_eq {t : TA} {bb : Bool} {mo : Int} (h : beginA (th k) bb mo = t) : stepTA th k bb mo Mp = (updA th k (goA t Mp).1, (goA t Mp).2) := by
  subst h
  rfl
set_option maxRecDepth 100000 in
set_option maxHeartbeats 8000000 in
theorem act_any (bb : Bool) (mo : Int) (hB : 1 < B) (hBw : B ≤ w0.heap.size) (hk : k < nt) (off : Nat) (hoff : off = 3 * k) (hn : n < 900000) (W : TS nt B p b G Q n th Mp w0 w) (hmo : 0 ≤ mo ∧ mo < 4294967296) (hin : ∀ x ∈ (th k).held, 0 ≤ x.1 ∧ x.1 < 256) (hlen : (beginA (th k) bb mo).held.length < 100000)
    (hpop : ∀ o, (beginA (th k) bb mo).op = .al o → o.ln = 1 → o.pop.nx = 2 → 0 ≤ wSlot o.pop.h) :
    Calls Tryz.prog 21 #[.pointer (some ⟨G, off, none⟩), .pointer (some ⟨p, 0, none⟩), .bool bb, .int .u32 mo] w fun e w' => e = .returned (.tuple #[]) ∧ TS nt B p b G Q (n + 1) (stepTA th k bb mo Mp).1 (stepTA th k bb mo Mp).2 w0 w' := by
  have HIN := Lib.hid hin
  have HK := Lib.hid hoff
  have HLEN0 := Lib.hid hlen
  have HMO := Lib.hid hmo
  have HPOP := Lib.hid hpop
  obtain ⟨ly, M, hM, hst, W, hlow, hap⟩ := W
  have HL0 := Lib.hid (W.tl hk)
  have HR := Lib.hid (W.row k hk)
  have HSR := Lib.hid (W.sr hk)
  have hop := W.op k hk
  have hown := W.own k hk
  have hso := W.so hk
  have HLOW := Lib.hid hlow
  have HXH := Lib.hid (hap.h k hk)
  have hxo := hap.o k hk
  have HAX := Lib.hid hap
  have HMM := Lib.hid hM
  clear hin hoff hlen W hlow hM hmo hpop hap
  generalize (ly k).h = vh at *
  generalize (ly k).a = va at *
  generalize (ly k).f = vf at *
  generalize (ly k).fp = fp at *
  go_enter Tryz.func21, Tryz.ntmps21
  cases ho : (th k).op with
  | no =>
    rw [ho] at hop
    obtain ⟨rfl, rfl, rfl⟩ := hop
    clear hown hso hxo
    by_cases hb : bb = true ∧ (th k).held ≠ []
    · obtain ⟨rfl, hne⟩ := hb
      obtain ⟨x, hl, hh⟩ : ∃ x r, (th k).held = x :: r := by
        cases hh : (th k).held with
        | nil => exact absurd hh hne
        | cons x r => exact ⟨x, r, rfl⟩
      have hx := HIN.out x (by rw [hh]; simp)
      obtain ⟨fx, hfx⟩ : ∃ fx, fx = (⟨newFr x.1 mo, 0⟩ : FX) := ⟨_, rfl⟩
      have HFX := Lib.hid hfx
      have HBG := Lib.hid (show beginA (th k) true mo = ⟨hl, .fr fx.o⟩ by rw [hfx]; simp [beginA, ho, hh])
      have HR0 := HR.out
      rw [hh] at HR0
      clear hh hne HR HIN HPOP HLEN0 ho hfx
      obtain ⟨A, c, rfl, hc1, hc2⟩ : ∃ A c, vh = .slice A (hl.length + 1) c ∧ hl.length + 1 ≤ c ∧ c ≤ 9223372036854775807 := by
        obtain ⟨A, c, e, h2, h3, _⟩ := HR0
        exact ⟨A, c, by simpa using e, by simpa using h2, h3⟩
      obtain ⟨_, g, o2, rfl, gB, y0, _, _⟩ := HR0.at_ (j := 0) (by omega)
      simp only [List.getD_cons_zero, Nat.add_zero, Nat.mul_zero] at y0
      have HT := Lib.hid HR0.tail
      clear HR0
      obtain ⟨m, hm⟩ : ∃ m, hl.length = m := ⟨_, rfl⟩
      rw [hm] at HT hc1 HL0 HSR HXH
      have HM := Lib.hid hm
      clear hm
      obtain ⟨hx0, hx1⟩ := hx
      obtain ⟨hm0, hm1⟩ := HMO.out
      have hcells := HL0.out.cells
      obtain ⟨c0, c1, c2, cf⟩ := hcells
      rw [← HK.out] at c0 c1 c2
      have z0 := cf off
      have z2 := cf (off + 2)
      clear cf
      go_wp2_with fail
      ((with_reducible refine (newFree_yes mo hx0 hx1 w).mono ?_); rintro e w1 ⟨q, r, rfl, hr, hq, kq, kr, hb1⟩)
      have HL1 := Lib.hid (HL0.out.below hb1)
      have HT1 := Lib.hid (HT.out.below hb1)
      have HLOW1 := Lib.hid (HLOW.out.below hBw hb1)
      have hBX : B ≤ w.heap.size := Nat.le_trans hBw HLOW.out.size
      have HSO := Lib.hid (show SepO nt k ly [q, r, r] from HL0.out.so_new (fun y hy => by
        simp only [List.mem_cons, List.not_mem_nil, or_false] at hy
        omega))
      have HXO := Lib.hid (show ∀ x ∈ Q, x ∉ [q, r, r] from HLOW.out.fresh (fun y hy => by
        simp only [List.mem_cons, List.not_mem_nil, or_false] at hy
        omega))
      have HREP1 := Lib.hid (show FrRep q r r fx w1 from by rw [HFX.out]; exact .inr (.inl ⟨_, _, _, .l1 rfl, kq, kr⟩))
      have HNUM := Lib.hid (show FrNum fx from by rw [HFX.out]; exact FrNum.new ⟨hx0, hx1⟩ ⟨hm0, hm1⟩)
      have HLN := Lib.hid (show fx.o.ln ≠ 0 from by rw [HFX.out]; exact (by decide : (1 : Int) ≠ 0))
      have HOWN1 := Lib.hid (show ∀ y ∈ [q, r, r], Own B y w1 from by
        intro y hy
        simp only [List.mem_cons, List.not_mem_nil, or_false] at hy
        rcases hy with rfl | rfl | rfl
        · exact ⟨by omega, _, _, kq, by decide, by decide, by decide, by decide⟩
        · exact ⟨by omega, _, _, kr, by decide, by decide, by decide, by decide⟩
        · exact ⟨by omega, _, _, kr, by decide, by decide, by decide, by decide⟩)
      have HNE := Lib.hid (⟨HXH.out, HSR.out⟩ : _ ∧ _)
      clear hr hq kq kr hb1 hBX c0 c1 c2 z0 z2 y0 HL0 HT HLOW HSR HXH hm0 hm1
      have hcells := HL1.out.cells
      obtain ⟨c0, c1, c2, cf⟩ := hcells
      rw [← HK.out] at c0 c1 c2
      have z0 := cf off
      have z2 := cf (off + 2)
      clear cf
      have HL2 := Lib.hid (HL1.out.set2 hB hk (.pointer (some ⟨q, 0, none⟩)) (a := ⟨G, off + 2, none⟩) (by rw [HK.out]))
      by_cases hc : c = 1
      · subst hc
        obtain rfl : m = 0 := by omega
        have HV := Lib.hid (show hl = [] from List.eq_nil_of_length_eq_zero HM.out)
        go_upto_region 5 with (fail)
        have HL := Lib.hid (HL2.out.set0 hB hk (.slice (some ⟨g, o2, none⟩) 0 0) (a := ⟨G, off, none⟩) (by rw [HK.out]))
        have hT2 : HRow w1 B (.slice (some ⟨g, o2, none⟩) 0 0) hl := by
          have := HT1.out
          rw [HV.out] at this ⊢
          simpa using this
        have HR := Lib.hid ((hT2.setG HL1.out (a := ⟨G, off + 2, none⟩) rfl (.pointer (some ⟨q, 0, none⟩))).setG HL2.out (a := ⟨G, off, none⟩) rfl (.slice (some ⟨g, o2, none⟩) 0 0))
        have HSR := Lib.hid (show SepR nt k ly (.slice (some ⟨g, o2, none⟩) 0 0) from fun j hj hjk g' hg' => by simp [hblk] at hg')
        have HXH := Lib.hid (show ∀ x ∈ Q, hblk (.slice (some ⟨g, o2, none⟩) 0 0) ≠ some x from fun x hx => by simp [hblk])
        have HLOW := Lib.hid ((HLOW1.out.setG HL1.out (a := ⟨G, off + 2, none⟩) rfl HAX.out.ne (.pointer (some ⟨q, 0, none⟩))).setG HL2.out (a := ⟨G, off, none⟩) rfl HAX.out.ne (.slice (some ⟨g, o2, none⟩) 0 0))
        have hsame : ∀ y, Own B y w1 → ((w1.setCell ⟨G, off + 2, none⟩ (.pointer (some ⟨q, 0, none⟩))).setCell ⟨G, off, none⟩ (.slice (some ⟨g, o2, none⟩) 0 0)).heap[y]? = w1.heap[y]? := fun y hy => ((hy.same (hy.setG HL1.out (a := ⟨G, off + 2, none⟩) rfl _)).setG HL2.out (a := ⟨G, off, none⟩) rfl _).trans (hy.setG HL1.out (a := ⟨G, off + 2, none⟩) rfl _)
        have HREP := Lib.hid (HREP1.out.same (hsame q (HOWN1.out q (by simp))) (hsame r (HOWN1.out r (by simp))) (hsame r (HOWN1.out r (by simp))))
        have HOWN := Lib.hid (fun y hy => (HOWN1.out y hy).same (hsame y (HOWN1.out y hy)))
        clear hsame hT2 c0 c1 c2 z0 z2 HL1 HL2 HREP1 HOWN1 HLOW1 HT1 HNE hc1 hc2 hx0 hx1
        revert HL HR HLOW HREP HOWN
        generalize (w1.setCell ⟨G, off + 2, none⟩ (.pointer (some ⟨q, 0, none⟩))).setCell ⟨G, off, none⟩ (.slice (some ⟨g, o2, none⟩) 0 0) = w9
        intro HL HR HLOW HREP HOWN
        generalize Value.slice (some ⟨g, o2, none⟩) 0 0 = vh at *
        have hcells := HL.out.cells
        obtain ⟨c0, c1, c2, cf⟩ := hcells
        rw [← HK.out] at c0 c1 c2
        have z0 := cf off
        have z1 := cf (off + 1)
        have z2 := cf (off + 2)
        clear cf
        have hBr : B ≤ q ∧ B ≤ r ∧ B ≤ r := ⟨(HOWN.out q (by simp)).1, (HOWN.out r (by simp)).1, (HOWN.out r (by simp)).1⟩
        have hBr' := Lib.hid hBr
        obtain ⟨b1, b2, b3⟩ := hBr
        go_wp2_with fail
        ((with_reducible refine (free_stepX (by omega) (by omega) (by omega) HL.out.fm (by omega) HNUM.out HREP.out).mono ?_); rintro e w2 ⟨rfl, r', r1', k1, k2, k3, k4, k5⟩)
        have HL2 := Lib.hid (HL.out.step k2 k3 HOWN.out HSO.out)
        have HR2 := Lib.hid (HR.out.step HL.out.fm k3 HOWN.out)
        have HLOW2 := Lib.hid (HLOW.out.onl hBw HL.out k3 HOWN.out HAX.out.ne HXO.out)
        have hXs : B ≤ w9.heap.size := Nat.le_trans hBw HLOW.out.size
        have hBs : B ≤ r' ∧ B ≤ r1' := ⟨by omega, by omega⟩
        have HBS := Lib.hid hBs
        have HNUM2 := Lib.hid (HNUM.out.step HL.out.fm.u64)
        have HST2 := Lib.hid (frX_st fx M)
        have HGO := Lib.hid (fr_go (hl := hl) HMM.out HNUM.out)
        have HK1 := Lib.hid k1
        have HK45 := Lib.hid (⟨k4, k5⟩ : _ ∧ _)
        clear k1 k2 k3 k4 k5 hBs hXs c0 c1 c2 z0 z1 z2 HR b1 b2 b3
        have hcells := HL2.out.cells
        obtain ⟨c0, c1, c2, cf⟩ := hcells
        rw [← HK.out] at c0 c1 c2
        have z0 := cf off
        have z1 := cf (off + 1)
        have z2 := cf (off + 2)
        clear cf
        by_cases hz : (frX fx M).1.o.ln = 0
        · rw [hz]
          have HZ := Lib.hid hz
          clear hz
          have hL3 := HL2.out.set2 hB hk (.pointer none) (a := ⟨G, off + 2, none⟩) (by rw [HK.out])
          have HF := Lib.hid (hL3.tw hk (t := ⟨hl, .no⟩) (fp := []) (HR2.out.setG HL2.out rfl _) ⟨rfl, rfl, rfl⟩ (by simp) HSR.out (fun j _ _ x hx => by cases hx))
          clear hL3
          go_wp2_with fail
          ((try simp only [Exit.inBlock, Exit.then]); first | go_end0 | refine bodyPost_ret (results_none rfl _ _ _) rfl ?_)
          have e1 := step_eq (Mp := Mp) HBG.out
          have e3 := HGO.out
          rw [if_pos HZ.out] at e3
          refine ⟨rfl, ?_⟩
          rw [e1, e3]
          exact ⟨_, _, rfl, by have := HST2.out; push_cast; omega, HF.out, HLOW2.out.setG HL2.out rfl HAX.out.ne _, HAX.out.upd HXH.out (by simp)⟩
        · have HZ := Lib.hid hz
          have hzb := fls hz
          rw [hzb]
          clear hz hzb
          obtain ⟨r2, hr2, hrep2, o1, o2, o3⟩ := HK1.out.tidy HZ.out HNUM2.out hBr'.out.1 HBS.out.1 HBS.out.2
          have HF := Lib.hid (HL2.out.tw hk (t := ⟨hl, .fr (frX fx M).1.o⟩) (fp := [q, r', r2]) HR2.out ⟨(frX fx M).1, q, r', r2, rfl, rfl, HZ.out, HNUM2.out, hrep2, rfl, rfl⟩ (fun x hx => by
            simp only [List.mem_cons, List.not_mem_nil, or_false] at hx
            rcases hx with rfl | rfl | rfl
            · exact o1
            · exact o2
            · exact o3) HSR.out (HL.out.so_step HSO.out HK45.out.1 HK45.out.2 hr2))
          have HXO2 := Lib.hid (HLOW.out.xo_step HXO.out HK45.out.1 HK45.out.2 hr2)
          clear hr2 hrep2 o1 o2 o3
          go_wp2_with fail
          ((try simp only [Exit.inBlock, Exit.then]); first | go_end0 | refine bodyPost_ret (results_none rfl _ _ _) rfl ?_)
          have e1 := step_eq (Mp := Mp) HBG.out
          have e3 := HGO.out
          rw [if_neg HZ.out] at e3
          refine ⟨rfl, ?_⟩
          rw [e1, e3]
          exact ⟨_, _, rfl, by have := HST2.out; push_cast; omega, HF.out, HLOW2.out, HAX.out.upd HXH.out HXO2.out⟩
      · have hmc : m + 1 < c ∨ m + 1 = c := by omega
        go_upto_region 5 with (fail)
        have HL := Lib.hid (HL2.out.set0 hB hk (.slice (some ⟨g, o2 + 3, none⟩) m (c - 1)) (a := ⟨G, off, none⟩) (by rw [HK.out]))
        have hT2 : HRow w1 B (.slice (some ⟨g, o2 + 3, none⟩) m (c - 1)) hl := by
          have := HT1.out
          simpa [hc] using this
        have htl : ∀ g', hblk (.slice (some ⟨g, o2 + 3, none⟩) m (c - 1)) = some g' → hblk (.slice (some ⟨g, o2, none⟩) (m + 1) c) = some g' := fun g' hg' => hblk_tail (off := o2) (by rw [if_neg hc]; exact hg') (by omega)
        have HR := Lib.hid ((hT2.setG HL1.out (a := ⟨G, off + 2, none⟩) rfl (.pointer (some ⟨q, 0, none⟩))).setG HL2.out (a := ⟨G, off, none⟩) rfl (.slice (some ⟨g, o2 + 3, none⟩) m (c - 1)))
        have HSR := Lib.hid (show SepR nt k ly (.slice (some ⟨g, o2 + 3, none⟩) m (c - 1)) from fun j hj hjk g' hg' => HNE.out.2 j hj hjk g' (htl g' hg'))
        have HXH := Lib.hid (show ∀ x ∈ Q, hblk (.slice (some ⟨g, o2 + 3, none⟩) m (c - 1)) ≠ some x from fun x hx e => HNE.out.1 x hx (htl x e))
        clear htl hmc
        have HLOW := Lib.hid ((HLOW1.out.setG HL1.out (a := ⟨G, off + 2, none⟩) rfl HAX.out.ne (.pointer (some ⟨q, 0, none⟩))).setG HL2.out (a := ⟨G, off, none⟩) rfl HAX.out.ne (.slice (some ⟨g, o2 + 3, none⟩) m (c - 1)))
        have hsame : ∀ y, Own B y w1 → ((w1.setCell ⟨G, off + 2, none⟩ (.pointer (some ⟨q, 0, none⟩))).setCell ⟨G, off, none⟩ (.slice (some ⟨g, o2 + 3, none⟩) m (c - 1))).heap[y]? = w1.heap[y]? := fun y hy => ((hy.same (hy.setG HL1.out (a := ⟨G, off + 2, none⟩) rfl _)).setG HL2.out (a := ⟨G, off, none⟩) rfl _).trans (hy.setG HL1.out (a := ⟨G, off + 2, none⟩) rfl _)
        have HREP := Lib.hid (HREP1.out.same (hsame q (HOWN1.out q (by simp))) (hsame r (HOWN1.out r (by simp))) (hsame r (HOWN1.out r (by simp))))
        have HOWN := Lib.hid (fun y hy => (HOWN1.out y hy).same (hsame y (HOWN1.out y hy)))
        clear hsame hT2 c0 c1 c2 z0 z2 HL1 HL2 HREP1 HOWN1 HLOW1 HT1 HNE hc1 hc2 hx0 hx1
        revert HL HR HLOW HREP HOWN
        generalize (w1.setCell ⟨G, off + 2, none⟩ (.pointer (some ⟨q, 0, none⟩))).setCell ⟨G, off, none⟩ (.slice (some ⟨g, o2 + 3, none⟩) m (c - 1)) = w9
        intro HL HR HLOW HREP HOWN
        generalize Value.slice (some ⟨g, o2 + 3, none⟩) m (c - 1) = vh at *
        have hcells := HL.out.cells
        obtain ⟨c0, c1, c2, cf⟩ := hcells
        rw [← HK.out] at c0 c1 c2
        have z0 := cf off
        have z1 := cf (off + 1)
        have z2 := cf (off + 2)
        clear cf
        have hBr : B ≤ q ∧ B ≤ r ∧ B ≤ r := ⟨(HOWN.out q (by simp)).1, (HOWN.out r (by simp)).1, (HOWN.out r (by simp)).1⟩
        have hBr' := Lib.hid hBr
        obtain ⟨b1, b2, b3⟩ := hBr
        go_wp2_with fail
        ((with_reducible refine (free_stepX (by omega) (by omega) (by omega) HL.out.fm (by omega) HNUM.out HREP.out).mono ?_); rintro e w2 ⟨rfl, r', r1', k1, k2, k3, k4, k5⟩)
        have HL2 := Lib.hid (HL.out.step k2 k3 HOWN.out HSO.out)
        have HR2 := Lib.hid (HR.out.step HL.out.fm k3 HOWN.out)
        have HLOW2 := Lib.hid (HLOW.out.onl hBw HL.out k3 HOWN.out HAX.out.ne HXO.out)
        have hXs : B ≤ w9.heap.size := Nat.le_trans hBw HLOW.out.size
        have hBs : B ≤ r' ∧ B ≤ r1' := ⟨by omega, by omega⟩
        have HBS := Lib.hid hBs
        have HNUM2 := Lib.hid (HNUM.out.step HL.out.fm.u64)
        have HST2 := Lib.hid (frX_st fx M)
        have HGO := Lib.hid (fr_go (hl := hl) HMM.out HNUM.out)
        have HK1 := Lib.hid k1
        have HK45 := Lib.hid (⟨k4, k5⟩ : _ ∧ _)
        clear k1 k2 k3 k4 k5 hBs hXs c0 c1 c2 z0 z1 z2 HR b1 b2 b3
        have hcells := HL2.out.cells
        obtain ⟨c0, c1, c2, cf⟩ := hcells
        rw [← HK.out] at c0 c1 c2
        have z0 := cf off
        have z1 := cf (off + 1)
        have z2 := cf (off + 2)
        clear cf
        by_cases hz : (frX fx M).1.o.ln = 0
        · rw [hz]
          have HZ := Lib.hid hz
          clear hz
          have hL3 := HL2.out.set2 hB hk (.pointer none) (a := ⟨G, off + 2, none⟩) (by rw [HK.out])
          have HF := Lib.hid (hL3.tw hk (t := ⟨hl, .no⟩) (fp := []) (HR2.out.setG HL2.out rfl _) ⟨rfl, rfl, rfl⟩ (by simp) HSR.out (fun j _ _ x hx => by cases hx))
          clear hL3
          go_wp2_with fail
          ((try simp only [Exit.inBlock, Exit.then]); first | go_end0 | refine bodyPost_ret (results_none rfl _ _ _) rfl ?_)
          have e1 := step_eq (Mp := Mp) HBG.out
          have e3 := HGO.out
          rw [if_pos HZ.out] at e3
          refine ⟨rfl, ?_⟩
          rw [e1, e3]
          exact ⟨_, _, rfl, by have := HST2.out; push_cast; omega, HF.out, HLOW2.out.setG HL2.out rfl HAX.out.ne _, HAX.out.upd HXH.out (by simp)⟩
        · have HZ := Lib.hid hz
          have hzb := fls hz
          rw [hzb]
          clear hz hzb
          obtain ⟨r2, hr2, hrep2, o1, o2, o3⟩ := HK1.out.tidy HZ.out HNUM2.out hBr'.out.1 HBS.out.1 HBS.out.2
          have HF := Lib.hid (HL2.out.tw hk (t := ⟨hl, .fr (frX fx M).1.o⟩) (fp := [q, r', r2]) HR2.out ⟨(frX fx M).1, q, r', r2, rfl, rfl, HZ.out, HNUM2.out, hrep2, rfl, rfl⟩ (fun x hx => by
            simp only [List.mem_cons, List.not_mem_nil, or_false] at hx
            rcases hx with rfl | rfl | rfl
            · exact o1
            · exact o2
            · exact o3) HSR.out (HL.out.so_step HSO.out HK45.out.1 HK45.out.2 hr2))
          have HXO2 := Lib.hid (HLOW.out.xo_step HXO.out HK45.out.1 HK45.out.2 hr2)
          clear hr2 hrep2 o1 o2 o3
          go_wp2_with fail
          ((try simp only [Exit.inBlock, Exit.then]); first | go_end0 | refine bodyPost_ret (results_none rfl _ _ _) rfl ?_)
          have e1 := step_eq (Mp := Mp) HBG.out
          have e3 := HGO.out
          rw [if_neg HZ.out] at e3
          refine ⟨rfl, ?_⟩
          rw [e1, e3]
          exact ⟨_, _, rfl, by have := HST2.out; push_cast; omega, HF.out, HLOW2.out, HAX.out.upd HXH.out HXO2.out⟩
    · obtain ⟨ox, hox⟩ : ∃ ox, ox = (⟨newAl, 0⟩ : AX) := ⟨_, rfl⟩
      have HOX := Lib.hid hox
      have HBG := Lib.hid (show beginA (th k) bb mo = ⟨(th k).held, .al ox.o⟩ by rw [hox]; simp only [beginA, ho, if_neg hb])
      have hb' : bb = false ∨ bb = true ∧ (th k).held.length = 0 := by
        by_cases h1 : bb = true
        · exact .inr ⟨h1, by simpa [h1] using hb⟩
        · exact .inl (by simpa using h1)
      have hlen : (th k).held.length < 100000 := by have h := HLEN0.out; rw [HBG.out] at h; exact h
      have HHL := Lib.hid hlen
      have HP2 := Lib.hid (HPOP.out ox.o (by rw [HBG.out]))
      clear hb hox hlen HLEN0 HIN HPOP ho
      obtain ⟨A, m, c, rfl, hm⟩ : ∃ A m c, vh = .slice A m c ∧ m = (th k).held.length := by
        obtain ⟨A, c, e, _⟩ := HR.out
        exact ⟨A, _, c, e, rfl⟩
      generalize (th k).held = hl at *
      obtain ⟨m', bb', hm', hbb⟩ : ∃ m' : Nat, ∃ bb' : Bool, m = m' ∧ bb = bb' ∧ (bb' = false ∨ bb' = true ∧ m' = 0) := ⟨m, bb, rfl, rfl, by rw [hm]; exact hb'⟩
      clear hb' hm
      subst hm'
      obtain ⟨rfl, hbb⟩ := hbb
      rcases hbb with rfl | ⟨rfl, rfl⟩
      all_goals
        have hcells := HL0.out.cells
        obtain ⟨c0, c1, c2, cf⟩ := hcells
        rw [← HK.out] at c0 c1 c2
        clear cf
        go_wp2_with fail
        ((with_reducible refine (newAlloc_any w).mono ?_); rintro e w1 ⟨q, r, rfl, hr, hq, kq, kr, hb1⟩)
        have HL1 := Lib.hid (HL0.out.below hb1)
        have HR1 := Lib.hid (HR.out.below hb1)
        have HLOW1 := Lib.hid (HLOW.out.below hBw hb1)
        have hBX : B ≤ w.heap.size := Nat.le_trans hBw HLOW.out.size
        have HSO := Lib.hid (show SepO nt k ly [q, r, r] from HL0.out.so_new (fun y hy => by
          simp only [List.mem_cons, List.not_mem_nil, or_false] at hy
          omega))
        have HXO := Lib.hid (show ∀ x ∈ Q, x ∉ [q, r, r] from HLOW.out.fresh (fun y hy => by
          simp only [List.mem_cons, List.not_mem_nil, or_false] at hy
          omega))
        have HREP1 := Lib.hid (show AlRep q r r ox w1 from by rw [HOX.out]; exact .inr (.inl ⟨_, _, _, _, _, .l1 rfl, fun hh => absurd rfl hh, fun hh => absurd (show (1 : Int) = 7 from hh) (by decide), kq, kr⟩))
        have HNUM := Lib.hid (show AlNum ox from by rw [HOX.out]; exact AlNum.new)
        have HLN := Lib.hid (show ox.o.ln ≠ 0 from by rw [HOX.out]; exact (by decide : (1 : Int) ≠ 0))
        have HOWN1 := Lib.hid (show ∀ y ∈ [q, r, r], Own B y w1 from by
          have o1 : Own B r w1 := ⟨by omega, _, [_, _, _], kr, by decide, by decide, by decide, by decide⟩
          intro y hy
          simp only [List.mem_cons, List.not_mem_nil, or_false] at hy
          rcases hy with rfl | rfl | rfl
          · exact ⟨by omega, _, _, kq, by decide, by decide, by decide, by decide⟩
          · exact o1
          · exact o1)
        clear hr hq kq kr hb1 hBX c0 c1 c2 HL0 HR HLOW
        have hcells := HL1.out.cells
        obtain ⟨c0, c1, c2, cf⟩ := hcells
        rw [← HK.out] at c0 c1 c2
        have z1 := cf (off + 1)
        clear cf
        go_upto_region 5 with (fail)
        have HL := Lib.hid (HL1.out.set1 hB hk (.pointer (some ⟨q, 0, none⟩)) (a := ⟨G, off + 1, none⟩) (by rw [HK.out]))
        have HR := Lib.hid (HR1.out.setG HL1.out (a := ⟨G, off + 1, none⟩) rfl (.pointer (some ⟨q, 0, none⟩)))
        have HLOW := Lib.hid (HLOW1.out.setG HL1.out (a := ⟨G, off + 1, none⟩) rfl HAX.out.ne (.pointer (some ⟨q, 0, none⟩)))
        have hsame : ∀ y, Own B y w1 → (w1.setCell ⟨G, off + 1, none⟩ (.pointer (some ⟨q, 0, none⟩))).heap[y]? = w1.heap[y]? := fun y hy => hy.setG HL1.out (a := ⟨G, off + 1, none⟩) rfl _
        have HREP := Lib.hid (HREP1.out.same (hsame q (HOWN1.out q (by simp))) (hsame r (HOWN1.out r (by simp))) (hsame r (HOWN1.out r (by simp))))
        have HOWN := Lib.hid (fun y hy => (HOWN1.out y hy).same (hsame y (HOWN1.out y hy)))
        clear hsame c0 c1 c2 z1 HL1 HREP1 HOWN1 HLOW1 HR1
        revert HL HR HLOW HREP HOWN
        generalize w1.setCell ⟨G, off + 1, none⟩ (.pointer (some ⟨q, 0, none⟩)) = w9
        intro HL HR HLOW HREP HOWN
        generalize Value.slice A _ c = vh at *
        have hcells := HL.out.cells
        obtain ⟨c0, c1, c2, cf⟩ := hcells
        rw [← HK.out] at c0 c1 c2
        have z0 := cf off
        have z1 := cf (off + 1)
        have z2 := cf (off + 2)
        clear cf
        have hBr : B ≤ q ∧ B ≤ r ∧ B ≤ r := ⟨(HOWN.out q (by simp)).1, (HOWN.out r (by simp)).1, (HOWN.out r (by simp)).1⟩
        have hBr' := Lib.hid hBr
        obtain ⟨b1, b2, b3⟩ := hBr
        go_wp2_with fail
        ((with_reducible refine (alloc_stepX (by omega) (by omega) (by omega) HL.out.fm (by omega) HNUM.out HREP.out).mono ?_); rintro e w2 ⟨rfl, r', r1', k1, k2, k3, k4, k5⟩)
        have HL2 := Lib.hid (HL.out.step k2 k3 HOWN.out HSO.out)
        have HR2 := Lib.hid (HR.out.step HL.out.fm k3 HOWN.out)
        have HLOW2 := Lib.hid (HLOW.out.onl hBw HL.out k3 HOWN.out HAX.out.ne HXO.out)
        have hXs : B ≤ w9.heap.size := Nat.le_trans hBw HLOW.out.size
        have hBs : B ≤ r' ∧ B ≤ r1' := ⟨by omega, by omega⟩
        have HBS := Lib.hid hBs
        have HNUM2 := Lib.hid (HNUM.out.step HL.out.fm.u64)
        have HST2 := Lib.hid (alX_st ox M)
        have HGO := Lib.hid (al_go (hl := hl) HMM.out HNUM.out HP2.out)
        have HK1 := Lib.hid k1
        have HK45 := Lib.hid (⟨k4, k5⟩ : _ ∧ _)
        clear k1 k2 k3 k4 k5 hBs hXs c0 c1 c2 z0 z1 z2 HR b1 b2 b3
        have hcells := HL2.out.cells
        obtain ⟨c0, c1, c2, cf⟩ := hcells
        rw [← HK.out] at c0 c1 c2
        have z0 := cf off
        have z1 := cf (off + 1)
        have z2 := cf (off + 2)
        clear cf
        by_cases hz : (alX ox M).1.o.ln = 0
        · rw [hz]
          have HZ := Lib.hid hz
          have hgot := alGot HK1.out (fun _ => hz)
          clear hz
          by_cases hg : (alX ox M).1.o.got = true
          · have hrf : refV (alX ox M).1 = .agg #[.int .i64 (alX ox M).1.o.sl, .int .u32 (gW (alX ox M).1.o.w), .bool false] := by unfold refV; rw [if_pos hg]
            rw [hrf, hg] at hgot
            have HGE := Lib.hid (show goA ⟨hl, .al ox.o⟩ Mp = (⟨hl ++ [((alX ox M).1.o.sl, gW (alX ox M).1.o.w)], .no⟩, maV (alX ox M).2.V) from by
              rw [HGO.out, if_pos HZ.out, if_pos hg])
            clear hg hrf HGO
            generalize (alX ox M).1.o.sl = s9 at *
            generalize gW (alX ox M).1.o.w = g9 at *
            go_wp2_with fail
            ((with_reducible refine hgot.mono ?_); rintro e w3 ⟨rfl, hb3⟩)
            have hbe := hb3.alloc hb3.size (.cells #[.int .i64 s9, .int .u32 g9, .bool false] 85)
            have hnb : Bq w3.heap.size 85 [.int .i64 s9, .int .u32 g9, .bool false] (w3.alloc (.cells #[.int .i64 s9, .int .u32 g9, .bool false] 85)) := Bq.new _ _ _
            have HL3 := Lib.hid (HL2.out.below hbe)
            have HR3 := Lib.hid (HR2.out.below hbe)
            have HLOW3 := Lib.hid (HLOW2.out.below hBw hbe)
            have HNB := Lib.hid hnb
            clear hb3 hbe hnb hgot HL2 HR2 HLOW2 c0 c1 c2 z0 z1 z2
            go_upto_region 8 with (fail)
            revert HL3 HR3 HLOW3 HNB
            generalize w3.alloc (.cells #[.int .i64 s9, .int .u32 g9, .bool false] 85) = w5
            generalize w3.heap.size = r10
            intro HL5 HR5 HLOW5 HNB5
            have hB5 : B ≤ w5.heap.size := Nat.le_trans hBw HLOW5.out.size
            have hcells := HL5.out.cells
            obtain ⟨c0, c1, c2, cf⟩ := hcells
            rw [← HK.out] at c0 c1 c2
            have z0 := cf off
            have hq3 := Bq.s3 HNB5.out
            obtain ⟨x0, x1, x2, _, _, _⟩ := hq3
            clear cf
            go_upto_region 9 with (fail)
            have HA := Lib.hid (show Below w5.heap.size w5 (w5.alloc (.cells #[.int .i64 s9, .int .u32 g9, .bool false] 85)).drew from ((Below.refl _ _).alloc (Nat.le_refl _) _).drew)
            have HCA := Lib.hid (show Bq w5.heap.size 85 (rV (s9, g9)) (w5.alloc (.cells #[.int .i64 s9, .int .u32 g9, .bool false] 85)).drew from Bq.new _ _ _)
            have HRA := Lib.hid (HR5.out.below HA.out)
            have HLA := Lib.hid (HL5.out.below HA.out)
            have HLOWA := Lib.hid (HLOW5.out.below hBw HA.out)
            have hlen := HHL.out
            have hcA := (HL5.out.below ((Below.refl _ _).alloc (Nat.le_refl _) (.cells #[.int .i64 s9, .int .u32 g9, .bool false] 85))).cells.1
            rw [← HK.out] at hcA
            go_region_law ((refine step_append_held rfl (.tmp 79) (.tmp 81) rfl B vh hl (by simp [Act.eval]) HRA.out w5.heap.size 1 (s9, g9) (by simp [Act.eval]) HCA.out hlen (Nat.le_trans hB5 HA.out.size) ?_; intro A' n' c' w6 hr6 hg6 hb6; have HR6 := Lib.hid hr6; have HL6 := Lib.hid (HLA.out.grown hB HRA.out HSR.out hg6); have HSR6 := Lib.hid (HSR.out.grown HLA.out hb6); have HLOW6 := Lib.hid (HLOWA.out.grown hBw HRA.out hg6 HXH.out); have HXH6 := Lib.hid (HLOWA.out.xh_grown HXH.out hb6); have HL7 := Lib.hid (HL6.out.set0 hB hk (.slice A' n' c') (a := ⟨G, off, none⟩) (by rw [HK.out])); have hc6 := HL6.out.cells; rw [← HK.out] at hc6; have d0 := hc6.1; have e0 := hc6.2.2.2 off; have hc7 := HL7.out.cells; rw [← HK.out] at hc7; have d1 := hc7.2.1; have e1 := hc7.2.2.2 (off + 1); clear hr6 hg6 hb6 hc6 hc7))
            all_goals
              go_wp2_with fail
              ((try simp only [Exit.inBlock, Exit.then]); first | go_end0 | refine bodyPost_ret (results_none rfl _ _ _) rfl ?_)
              have e1 := step_eq (Mp := Mp) HBG.out
              have e3 := HGE.out
              refine ⟨rfl, ?_⟩
              rw [e1, e3]
              exact ⟨_, _, rfl, by have := HST2.out; push_cast; omega, (HL7.out.set1 hB hk (.pointer none) (a := ⟨G, off + 1, none⟩) (by rw [HK.out])).tw hk (t := ⟨hl ++ [(s9, g9)], .no⟩) (fp := []) ((HR6.out.setG HL6.out rfl _).setG HL7.out rfl _) ⟨rfl, rfl, rfl⟩ (by simp) HSR6.out (fun j _ _ x hx => by cases hx), (HLOW6.out.setG HL6.out rfl HAX.out.ne _).setG HL7.out rfl HAX.out.ne _, HAX.out.upd HXH6.out (by simp)⟩
          · have hgf : (alX ox M).1.o.got = false := by simpa using hg
            have hrf : refV (alX ox M).1 = .agg #[.int .i64 (-1), .int .u32 0, .bool false] := by unfold refV; rw [if_neg hg]
            rw [hrf, hgf] at hgot
            have HGE := Lib.hid (show goA ⟨hl, .al ox.o⟩ Mp = (⟨hl, .no⟩, maV (alX ox M).2.V) from by
              rw [HGO.out, if_pos HZ.out, if_neg hg])
            clear hg hgf hrf HGO
            go_wp2_with fail
            ((with_reducible refine hgot.mono ?_); rintro e w3 ⟨rfl, hb3⟩)
            have hbe := hb3.alloc hb3.size (.cells #[.int .i64 (-1), .int .u32 0, .bool false] 85)
            have HL3 := Lib.hid (HL2.out.below hbe)
            have HR3 := Lib.hid (HR2.out.below hbe)
            have HLOW3 := Lib.hid (HLOW2.out.below hBw hbe)
            clear hb3 hbe hgot HL2 HR2 HLOW2 c0 c1 c2 z0 z1 z2
            go_upto_region 8 with (fail)
            revert HL3 HR3 HLOW3
            generalize w3.alloc (.cells #[.int .i64 (-1), .int .u32 0, .bool false] 85) = w4
            generalize w3.heap.size = r10
            intro HL3 HR3 HLOW3
            have HL4 := Lib.hid (HL3.out.set1 hB hk (.pointer none) (a := ⟨G, off + 1, none⟩) (by rw [HK.out]))
            have hcells := HL3.out.cells
            obtain ⟨c0, c1, c2, cf⟩ := hcells
            rw [← HK.out] at c0 c1 c2
            have z1 := cf (off + 1)
            clear cf
            go_wp2_with fail
            ((try simp only [Exit.inBlock, Exit.then]); first | go_end0 | refine bodyPost_ret (results_none rfl _ _ _) rfl ?_)
            have e1 := step_eq (Mp := Mp) HBG.out
            have e3 := HGE.out
            refine ⟨rfl, ?_⟩
            rw [e1, e3]
            exact ⟨_, _, rfl, by have := HST2.out; push_cast; omega, HL4.out.tw hk (t := ⟨hl, .no⟩) (fp := []) (HR3.out.setG HL3.out rfl _) ⟨rfl, rfl, rfl⟩ (by simp) HSR.out (fun j _ _ x hx => by cases hx), HLOW3.out.setG HL3.out rfl HAX.out.ne _, HAX.out.upd HXH.out (by simp)⟩
        · have HZ := Lib.hid hz
          have hzb := fls hz
          rw [hzb]
          clear hz hzb
          obtain ⟨r2, hr2, hrep2, o1, o2, o3⟩ := HK1.out.tidy HZ.out HNUM2.out hBr'.out.1 HBS.out.1 HBS.out.2
          have HF := Lib.hid (HL2.out.tw hk (t := ⟨hl, .al (alX ox M).1.o⟩) (fp := [q, r', r2]) HR2.out ⟨(alX ox M).1, q, r', r2, rfl, rfl, HZ.out, HNUM2.out, hrep2, rfl, rfl⟩ (fun x hx => by
            simp only [List.mem_cons, List.not_mem_nil, or_false] at hx
            rcases hx with rfl | rfl | rfl
            · exact o1
            · exact o2
            · exact o3) HSR.out (HL.out.so_step HSO.out HK45.out.1 HK45.out.2 hr2))
          have HXO2 := Lib.hid (HLOW.out.xo_step HXO.out HK45.out.1 HK45.out.2 hr2)
          clear hr2 hrep2 o1 o2 o3
          go_wp2_with fail
          ((try simp only [Exit.inBlock, Exit.then]); first | go_end0 | refine bodyPost_ret (results_none rfl _ _ _) rfl ?_)
          have e1 := step_eq (Mp := Mp) HBG.out
          have e3 := HGO.out
          rw [if_neg HZ.out] at e3
          refine ⟨rfl, ?_⟩
          rw [e1, e3]
          exact ⟨_, _, rfl, by have := HST2.out; push_cast; omega, HF.out, HLOW2.out, HAX.out.upd HXH.out HXO2.out⟩
  | al o =>
    rw [ho] at hop
    obtain ⟨ox, q, r, r1, rfl, hox, hln, hnum, hrep, rfl, rfl⟩ := hop
    have HBG := Lib.hid (show beginA (th k) bb mo = ⟨(th k).held, .al ox.o⟩ by
      have : th k = ⟨(th k).held, .al ox.o⟩ := by rw [hox, ← ho]
      unfold beginA; rw [ho]; exact this)
    have HLN := Lib.hid (show ox.o.ln ≠ 0 by rw [hox]; exact hln)
    have HNUM := Lib.hid hnum
    have HREP := Lib.hid hrep
    have HOWN := Lib.hid hown
    have HSO := Lib.hid hso
    have HXO := Lib.hid hxo
    have HL := HL0
    have hlen : (th k).held.length < 100000 := by have h := HLEN0.out; rw [HBG.out] at h; exact h
    have HHL := Lib.hid hlen
    have HP2 := Lib.hid (HPOP.out ox.o (by rw [HBG.out]))
    clear HPOP
    clear HL0 hown hso hxo hrep hnum hln hox hlen HLEN0 HIN ho
    generalize (th k).held = hl at *
    have hcells := HL.out.cells
    obtain ⟨c0, c1, c2, cf⟩ := hcells
    rw [← HK.out] at c0 c1 c2
    have z0 := cf off
    have z1 := cf (off + 1)
    have z2 := cf (off + 2)
    clear cf
    have hBr : B ≤ q ∧ B ≤ r ∧ B ≤ r1 := ⟨(HOWN.out q (by simp)).1, (HOWN.out r (by simp)).1, (HOWN.out r1 (by simp)).1⟩
    have hBr' := Lib.hid hBr
    obtain ⟨b1, b2, b3⟩ := hBr
    go_wp2_with fail
    ((with_reducible refine (alloc_stepX (by omega) (by omega) (by omega) HL.out.fm (by omega) HNUM.out HREP.out).mono ?_); rintro e w2 ⟨rfl, r', r1', k1, k2, k3, k4, k5⟩)
    have HL2 := Lib.hid (HL.out.step k2 k3 HOWN.out HSO.out)
    have HR2 := Lib.hid (HR.out.step HL.out.fm k3 HOWN.out)
    have HLOW2 := Lib.hid (HLOW.out.onl hBw HL.out k3 HOWN.out HAX.out.ne HXO.out)
    have hXs : B ≤ w.heap.size := Nat.le_trans hBw HLOW.out.size
    have hBs : B ≤ r' ∧ B ≤ r1' := ⟨by omega, by omega⟩
    have HBS := Lib.hid hBs
    have HNUM2 := Lib.hid (HNUM.out.step HL.out.fm.u64)
    have HST2 := Lib.hid (alX_st ox M)
    have HGO := Lib.hid (al_go (hl := hl) HMM.out HNUM.out HP2.out)
    have HK1 := Lib.hid k1
    have HK45 := Lib.hid (⟨k4, k5⟩ : _ ∧ _)
    clear k1 k2 k3 k4 k5 hBs hXs c0 c1 c2 z0 z1 z2 HR b1 b2 b3
    have hcells := HL2.out.cells
    obtain ⟨c0, c1, c2, cf⟩ := hcells
    rw [← HK.out] at c0 c1 c2
    have z0 := cf off
    have z1 := cf (off + 1)
    have z2 := cf (off + 2)
    clear cf
    by_cases hz : (alX ox M).1.o.ln = 0
    · rw [hz]
      have HZ := Lib.hid hz
      have hgot := alGot HK1.out (fun _ => hz)
      clear hz
      by_cases hg : (alX ox M).1.o.got = true
      · have hrf : refV (alX ox M).1 = .agg #[.int .i64 (alX ox M).1.o.sl, .int .u32 (gW (alX ox M).1.o.w), .bool false] := by unfold refV; rw [if_pos hg]
        rw [hrf, hg] at hgot
        have HGE := Lib.hid (show goA ⟨hl, .al ox.o⟩ Mp = (⟨hl ++ [((alX ox M).1.o.sl, gW (alX ox M).1.o.w)], .no⟩, maV (alX ox M).2.V) from by
          rw [HGO.out, if_pos HZ.out, if_pos hg])
        clear hg hrf HGO
        generalize (alX ox M).1.o.sl = s9 at *
        generalize gW (alX ox M).1.o.w = g9 at *
        go_wp2_with fail
        ((with_reducible refine hgot.mono ?_); rintro e w3 ⟨rfl, hb3⟩)
        have hbe := hb3.alloc hb3.size (.cells #[.int .i64 s9, .int .u32 g9, .bool false] 85)
        have hnb : Bq w3.heap.size 85 [.int .i64 s9, .int .u32 g9, .bool false] (w3.alloc (.cells #[.int .i64 s9, .int .u32 g9, .bool false] 85)) := Bq.new _ _ _
        have HL3 := Lib.hid (HL2.out.below hbe)
        have HR3 := Lib.hid (HR2.out.below hbe)
        have HLOW3 := Lib.hid (HLOW2.out.below hBw hbe)
        have HNB := Lib.hid hnb
        clear hb3 hbe hnb hgot HL2 HR2 HLOW2 c0 c1 c2 z0 z1 z2
        go_upto_region 8 with (fail)
        revert HL3 HR3 HLOW3 HNB
        generalize w3.alloc (.cells #[.int .i64 s9, .int .u32 g9, .bool false] 85) = w5
        generalize w3.heap.size = r10
        intro HL5 HR5 HLOW5 HNB5
        have hB5 : B ≤ w5.heap.size := Nat.le_trans hBw HLOW5.out.size
        have hcells := HL5.out.cells
        obtain ⟨c0, c1, c2, cf⟩ := hcells
        rw [← HK.out] at c0 c1 c2
        have z0 := cf off
        have hq3 := Bq.s3 HNB5.out
        obtain ⟨x0, x1, x2, _, _, _⟩ := hq3
        clear cf
        go_upto_region 9 with (fail)
        have HA := Lib.hid (show Below w5.heap.size w5 (w5.alloc (.cells #[.int .i64 s9, .int .u32 g9, .bool false] 85)).drew from ((Below.refl _ _).alloc (Nat.le_refl _) _).drew)
        have HCA := Lib.hid (show Bq w5.heap.size 85 (rV (s9, g9)) (w5.alloc (.cells #[.int .i64 s9, .int .u32 g9, .bool false] 85)).drew from Bq.new _ _ _)
        have HRA := Lib.hid (HR5.out.below HA.out)
        have HLA := Lib.hid (HL5.out.below HA.out)
        have HLOWA := Lib.hid (HLOW5.out.below hBw HA.out)
        have hlen := HHL.out
        have hcA := (HL5.out.below ((Below.refl _ _).alloc (Nat.le_refl _) (.cells #[.int .i64 s9, .int .u32 g9, .bool false] 85))).cells.1
        rw [← HK.out] at hcA
        go_region_law ((refine step_append_held rfl (.tmp 79) (.tmp 81) rfl B vh hl (by simp [Act.eval]) HRA.out w5.heap.size 1 (s9, g9) (by simp [Act.eval]) HCA.out hlen (Nat.le_trans hB5 HA.out.size) ?_; intro A' n' c' w6 hr6 hg6 hb6; have HR6 := Lib.hid hr6; have HL6 := Lib.hid (HLA.out.grown hB HRA.out HSR.out hg6); have HSR6 := Lib.hid (HSR.out.grown HLA.out hb6); have HLOW6 := Lib.hid (HLOWA.out.grown hBw HRA.out hg6 HXH.out); have HXH6 := Lib.hid (HLOWA.out.xh_grown HXH.out hb6); have HL7 := Lib.hid (HL6.out.set0 hB hk (.slice A' n' c') (a := ⟨G, off, none⟩) (by rw [HK.out])); have hc6 := HL6.out.cells; rw [← HK.out] at hc6; have d0 := hc6.1; have e0 := hc6.2.2.2 off; have hc7 := HL7.out.cells; rw [← HK.out] at hc7; have d1 := hc7.2.1; have e1 := hc7.2.2.2 (off + 1); clear hr6 hg6 hb6 hc6 hc7))
        all_goals
          go_wp2_with fail
          ((try simp only [Exit.inBlock, Exit.then]); first | go_end0 | refine bodyPost_ret (results_none rfl _ _ _) rfl ?_)
          have e1 := step_eq (Mp := Mp) HBG.out
          have e3 := HGE.out
          refine ⟨rfl, ?_⟩
          rw [e1, e3]
          exact ⟨_, _, rfl, by have := HST2.out; push_cast; omega, (HL7.out.set1 hB hk (.pointer none) (a := ⟨G, off + 1, none⟩) (by rw [HK.out])).tw hk (t := ⟨hl ++ [(s9, g9)], .no⟩) (fp := []) ((HR6.out.setG HL6.out rfl _).setG HL7.out rfl _) ⟨rfl, rfl, rfl⟩ (by simp) HSR6.out (fun j _ _ x hx => by cases hx), (HLOW6.out.setG HL6.out rfl HAX.out.ne _).setG HL7.out rfl HAX.out.ne _, HAX.out.upd HXH6.out (by simp)⟩
      · have hgf : (alX ox M).1.o.got = false := by simpa using hg
        have hrf : refV (alX ox M).1 = .agg #[.int .i64 (-1), .int .u32 0, .bool false] := by unfold refV; rw [if_neg hg]
        rw [hrf, hgf] at hgot
        have HGE := Lib.hid (show goA ⟨hl, .al ox.o⟩ Mp = (⟨hl, .no⟩, maV (alX ox M).2.V) from by
          rw [HGO.out, if_pos HZ.out, if_neg hg])
        clear hg hgf hrf HGO
        go_wp2_with fail
        ((with_reducible refine hgot.mono ?_); rintro e w3 ⟨rfl, hb3⟩)
        have hbe := hb3.alloc hb3.size (.cells #[.int .i64 (-1), .int .u32 0, .bool false] 85)
        have HL3 := Lib.hid (HL2.out.below hbe)
        have HR3 := Lib.hid (HR2.out.below hbe)
        have HLOW3 := Lib.hid (HLOW2.out.below hBw hbe)
        clear hb3 hbe hgot HL2 HR2 HLOW2 c0 c1 c2 z0 z1 z2
        go_upto_region 8 with (fail)
        revert HL3 HR3 HLOW3
        generalize w3.alloc (.cells #[.int .i64 (-1), .int .u32 0, .bool false] 85) = w4
        generalize w3.heap.size = r10
        intro HL3 HR3 HLOW3
        have HL4 := Lib.hid (HL3.out.set1 hB hk (.pointer none) (a := ⟨G, off + 1, none⟩) (by rw [HK.out]))
        have hcells := HL3.out.cells
        obtain ⟨c0, c1, c2, cf⟩ := hcells
        rw [← HK.out] at c0 c1 c2
        have z1 := cf (off + 1)
        clear cf
        go_wp2_with fail
        ((try simp only [Exit.inBlock, Exit.then]); first | go_end0 | refine bodyPost_ret (results_none rfl _ _ _) rfl ?_)
        have e1 := step_eq (Mp := Mp) HBG.out
        have e3 := HGE.out
        refine ⟨rfl, ?_⟩
        rw [e1, e3]
        exact ⟨_, _, rfl, by have := HST2.out; push_cast; omega, HL4.out.tw hk (t := ⟨hl, .no⟩) (fp := []) (HR3.out.setG HL3.out rfl _) ⟨rfl, rfl, rfl⟩ (by simp) HSR.out (fun j _ _ x hx => by cases hx), HLOW3.out.setG HL3.out rfl HAX.out.ne _, HAX.out.upd HXH.out (by simp)⟩
    · have HZ := Lib.hid hz
      have hzb := fls hz
      rw [hzb]
      clear hz hzb
      obtain ⟨r2, hr2, hrep2, o1, o2, o3⟩ := HK1.out.tidy HZ.out HNUM2.out hBr'.out.1 HBS.out.1 HBS.out.2
      have HF := Lib.hid (HL2.out.tw hk (t := ⟨hl, .al (alX ox M).1.o⟩) (fp := [q, r', r2]) HR2.out ⟨(alX ox M).1, q, r', r2, rfl, rfl, HZ.out, HNUM2.out, hrep2, rfl, rfl⟩ (fun x hx => by
        simp only [List.mem_cons, List.not_mem_nil, or_false] at hx
        rcases hx with rfl | rfl | rfl
        · exact o1
        · exact o2
        · exact o3) HSR.out (HL.out.so_step HSO.out HK45.out.1 HK45.out.2 hr2))
      have HXO2 := Lib.hid (HLOW.out.xo_step HXO.out HK45.out.1 HK45.out.2 hr2)
      clear hr2 hrep2 o1 o2 o3
      go_wp2_with fail
      ((try simp only [Exit.inBlock, Exit.then]); first | go_end0 | refine bodyPost_ret (results_none rfl _ _ _) rfl ?_)
      have e1 := step_eq (Mp := Mp) HBG.out
      have e3 := HGO.out
      rw [if_neg HZ.out] at e3
      refine ⟨rfl, ?_⟩
      rw [e1, e3]
      exact ⟨_, _, rfl, by have := HST2.out; push_cast; omega, HF.out, HLOW2.out, HAX.out.upd HXH.out HXO2.out⟩
  | fr o =>
    rw [ho] at hop
    obtain ⟨fx, q, r, r1, rfl, hox, hln, hnum, hrep, rfl, rfl⟩ := hop
    have HBG := Lib.hid (show beginA (th k) bb mo = ⟨(th k).held, .fr fx.o⟩ by
      have : th k = ⟨(th k).held, .fr fx.o⟩ := by rw [hox, ← ho]
      unfold beginA; rw [ho]; exact this)
    have HLN := Lib.hid (show fx.o.ln ≠ 0 by rw [hox]; exact hln)
    have HNUM := Lib.hid hnum
    have HREP := Lib.hid hrep
    have HOWN := Lib.hid hown
    have HSO := Lib.hid hso
    have HXO := Lib.hid hxo
    have HL := HL0
    clear HL0 hown hso hxo hrep hnum hln hox HLEN0 HIN ho HPOP
    generalize (th k).held = hl at *
    have hcells := HL.out.cells
    obtain ⟨c0, c1, c2, cf⟩ := hcells
    rw [← HK.out] at c0 c1 c2
    have z0 := cf off
    have z1 := cf (off + 1)
    have z2 := cf (off + 2)
    clear cf
    have hBr : B ≤ q ∧ B ≤ r ∧ B ≤ r1 := ⟨(HOWN.out q (by simp)).1, (HOWN.out r (by simp)).1, (HOWN.out r1 (by simp)).1⟩
    have hBr' := Lib.hid hBr
    obtain ⟨b1, b2, b3⟩ := hBr
    go_wp2_with fail
    ((with_reducible refine (free_stepX (by omega) (by omega) (by omega) HL.out.fm (by omega) HNUM.out HREP.out).mono ?_); rintro e w2 ⟨rfl, r', r1', k1, k2, k3, k4, k5⟩)
    have HL2 := Lib.hid (HL.out.step k2 k3 HOWN.out HSO.out)
    have HR2 := Lib.hid (HR.out.step HL.out.fm k3 HOWN.out)
    have HLOW2 := Lib.hid (HLOW.out.onl hBw HL.out k3 HOWN.out HAX.out.ne HXO.out)
    have hXs : B ≤ w.heap.size := Nat.le_trans hBw HLOW.out.size
    have hBs : B ≤ r' ∧ B ≤ r1' := ⟨by omega, by omega⟩
    have HBS := Lib.hid hBs
    have HNUM2 := Lib.hid (HNUM.out.step HL.out.fm.u64)
    have HST2 := Lib.hid (frX_st fx M)
    have HGO := Lib.hid (fr_go (hl := hl) HMM.out HNUM.out)
    have HK1 := Lib.hid k1
    have HK45 := Lib.hid (⟨k4, k5⟩ : _ ∧ _)
    clear k1 k2 k3 k4 k5 hBs hXs c0 c1 c2 z0 z1 z2 HR b1 b2 b3
    have hcells := HL2.out.cells
    obtain ⟨c0, c1, c2, cf⟩ := hcells
    rw [← HK.out] at c0 c1 c2
    have z0 := cf off
    have z1 := cf (off + 1)
    have z2 := cf (off + 2)
    clear cf
    by_cases hz : (frX fx M).1.o.ln = 0
    · rw [hz]
      have HZ := Lib.hid hz
      clear hz
      have hL3 := HL2.out.set2 hB hk (.pointer none) (a := ⟨G, off + 2, none⟩) (by rw [HK.out])
      have HF := Lib.hid (hL3.tw hk (t := ⟨hl, .no⟩) (fp := []) (HR2.out.setG HL2.out rfl _) ⟨rfl, rfl, rfl⟩ (by simp) HSR.out (fun j _ _ x hx => by cases hx))
      clear hL3
      go_wp2_with fail
      ((try simp only [Exit.inBlock, Exit.then]); first | go_end0 | refine bodyPost_ret (results_none rfl _ _ _) rfl ?_)
      have e1 := step_eq (Mp := Mp) HBG.out
      have e3 := HGO.out
      rw [if_pos HZ.out] at e3
      refine ⟨rfl, ?_⟩
      rw [e1, e3]
      exact ⟨_, _, rfl, by have := HST2.out; push_cast; omega, HF.out, HLOW2.out.setG HL2.out rfl HAX.out.ne _, HAX.out.upd HXH.out (by simp)⟩
    · have HZ := Lib.hid hz
      have hzb := fls hz
      rw [hzb]
      clear hz hzb
      obtain ⟨r2, hr2, hrep2, o1, o2, o3⟩ := HK1.out.tidy HZ.out HNUM2.out hBr'.out.1 HBS.out.1 HBS.out.2
      have HF := Lib.hid (HL2.out.tw hk (t := ⟨hl, .fr (frX fx M).1.o⟩) (fp := [q, r', r2]) HR2.out ⟨(frX fx M).1, q, r', r2, rfl, rfl, HZ.out, HNUM2.out, hrep2, rfl, rfl⟩ (fun x hx => by
        simp only [List.mem_cons, List.not_mem_nil, or_false] at hx
        rcases hx with rfl | rfl | rfl
        · exact o1
        · exact o2
        · exact o3) HSR.out (HL.out.so_step HSO.out HK45.out.1 HK45.out.2 hr2))
      have HXO2 := Lib.hid (HLOW.out.xo_step HXO.out HK45.out.1 HK45.out.2 hr2)
      clear hr2 hrep2 o1 o2 o3
      go_wp2_with fail
      ((try simp only [Exit.inBlock, Exit.then]); first | go_end0 | refine bodyPost_ret (results_none rfl _ _ _) rfl ?_)
      have e1 := step_eq (Mp := Mp) HBG.out
      have e3 := HGO.out
      rw [if_neg HZ.out] at e3
      refine ⟨rfl, ?_⟩
      rw [e1, e3]
      exact ⟨_, _, rfl, by have := HST2.out; push_cast; omega, HF.out, HLOW2.out, HAX.out.upd HXH.out HXO2.out⟩
end
end Go.Proofs.YtmjcbjcnmgleaaaGreatDoor
