/-
  An actor's act: it does what the plain one does; condition: all lies as it says.
-/
import Derived.Test.YtffkjdmpeeagoaaDoorBA1
import Derived.Test.YtffkjdmpeeagoaaDoorBA0
import Derived.Deep.DeepCutAuto
namespace Go.Proofs.YtffkjdmpeeagoaaDoor
open Go.RowKit Go.Maps

def TA3 : List TypeId := [70, 131, 142]
section
variable {B p b q G k : Nat} {lq : Nat → Nat} {A : Nat → AS} {M M' : MV} {o : TO} {w w' : World} {vh vp vq : Value}
theorem PRep.ty (h : PRep q o w) : ∃ t cs, Bq q t cs w ∧ t ∈ TA3 := by
  obtain ⟨t, cs, hb, rfl | rfl⟩ := h.bq
  · exact ⟨_, _, hb, by simp [TA3]⟩
  · exact ⟨_, _, hb, by simp [TA3]⟩
theorem AL.cells2 (L : AL B G k lq A vh vp vq w) {off : Nat} (h : off = 3 * k) : w.cell? ⟨G, off, none⟩ = some vh ∧ w.cell? ⟨G, off + 1, none⟩ = some vp ∧ w.cell? ⟨G, off + 2, none⟩ = some vq ∧ w.frozen? ⟨G, off, none⟩ = false ∧ w.frozen? ⟨G, off + 1, none⟩ = false ∧ w.frozen? ⟨G, off + 2, none⟩ = false := by
  subst h
  obtain ⟨c0, c1, c2, c3⟩ := L.cells
  exact ⟨c0, c1, c2, c3 _, c3 _, c3 _⟩
/-- What an act stands at, its operation under way: all but it, its operation, what has changed since. -/
structure Mid (B p b G k q : Nat) (lq : Nat → Nat) (A : Nat → AS) (M : MV) (o : TO) (vh vp vq : Value) (w0 w : World) : Prop where
  mem : VX p b M w
  l : AL B G k lq A vh vp vq w
  rep : PRep q o w
  qB : B ≤ q
  sb : SepB k lq A q
  ty : Ty B p b TA3 w0 w
  sz : B ≤ w.heap.size
theorem Mid.step (D : Mid B p b G k q lq A M o vh vp vq w' w) (hp : B ≤ p) (hb : B ≤ b) {M2 : MV} {o2 : TO} {w2 : World} (R : PRep q o2 w2) (F : VX p b M2 w2) (O : Onl p b [q] w w2) : Mid B p b G k q lq A M2 o2 vh vp vq w' w2 := by
  obtain ⟨t, cs, k1, ht⟩ := D.rep.ty
  obtain ⟨cur, g1, _⟩ := D.l.blk
  exact ⟨F, D.l.onl D.mem O (D.rep.neA g1) D.sb, R, D.qB, D.sb, D.ty.trans (Ty.onl D.sz hp hb O D.qB k1 ht), Nat.le_trans D.sz O.size⟩
theorem Mid.set (D : Mid B p b G k q lq A M o vh vp vq w' w) (hB : 1 < B) (hk : k < 8) (i : Nat) (hi : i < 3) (v : Value) {a : Addr} (ha : a = ⟨G, 3 * k + i, none⟩) : Mid B p b G k q lq A M o (if i = 0 then v else vh) (if i = 1 then v else vp) (if i = 2 then v else vq) w' (w.setCell a v) := by
  obtain ⟨cur, g1, _⟩ := D.l.blk
  obtain ⟨h1, h2⟩ := D.l.set hk i hi v ha
  subst ha
  exact ⟨D.l.fmG hB D.mem rfl rfl v, h1, D.rep.same (h2 q (D.rep.neA g1)), D.qB, D.sb, D.ty.trans (D.l.tyG rfl rfl v (by simp [TA3])), by simpa [World.setCell] using D.sz⟩
theorem Mid.set0 (D : Mid B p b G k q lq A M o vh vp vq w' w) (hB : 1 < B) (hk : k < 8) (v : Value) {a : Addr} (ha : a = ⟨G, 3 * k, none⟩) : Mid B p b G k q lq A M o v vp vq w' (w.setCell a v) := by
  have := D.set hB hk 0 (by decide) v (a := a) (ha.trans (by simp))
  simpa using this
theorem Mid.set1 (D : Mid B p b G k q lq A M o vh vp vq w' w) (hB : 1 < B) (hk : k < 8) (v : Value) {a : Addr} (ha : a = ⟨G, 3 * k + 1, none⟩) : Mid B p b G k q lq A M o vh v vq w' (w.setCell a v) := by
  have := D.set hB hk 1 (by decide) v ha
  simpa using this
theorem Mid.set2 (D : Mid B p b G k q lq A M o vh vp vq w' w) (hB : 1 < B) (hk : k < 8) (v : Value) {a : Addr} (ha : a = ⟨G, 3 * k + 2, none⟩) : Mid B p b G k q lq A M o vh vp v w' (w.setCell a v) := by
  have := D.set hB hk 2 (by decide) v ha
  simpa using this
theorem Mid.only (D : Mid B p b G k q lq A M o vh vp vq w' w) (hp : B ≤ p) (hb : B ≤ b) {M2 : MV} {w2 : World} (F : VX p b M2 w2) (O : Only p b w w2) : Mid B p b G k q lq A M2 o vh vp vq w' w2 := by
  have O2 : Onl p b [] w w2 := .of_only O
  have P := D.rep
  exact ⟨F, D.l.only D.mem O2, P.same (O2.block q P.lt (P.neM D.mem).1 (P.neM D.mem).2 (by simp)), D.qB, D.sb, D.ty.trans (Ty.fresh D.sz hp hb O2), Nat.le_trans D.sz O2.size⟩
/-- Something that is new lies apart. -/
theorem AL.mid (L : AL B G k lq A vh vp vq w) (F : VX p b M w) (hBw : B ≤ w.heap.size) (hq : w.heap.size ≤ q) (R : PRep q o w') (hb : Below w.heap.size w w') : Mid B p b G k q lq A M o vh vp vq w w' :=
  ⟨F.below hb, L.below hb, R, by omega, L.sb_new hq, .below hBw hb, Nat.le_trans hBw hb.size⟩
/-- Behind an act. -/
def Acted (B p b G k : Nat) (A : Nat → AS) (a : AS) (V : Ad → Int) (st : Int) (w w' : World) : Prop := ∃ lq' M', VX p b M' w' ∧ AW B G lq' (putAS A k a) w' ∧ M'.V = V ∧ M'.s.st ≤ st + 2 ∧ Ty B p b TA3 w w'
theorem Mid.acted (D : Mid B p b G k q lq A M o vh vp vq w' w) {a : AS} {V : Ad → Int} {st : Int} (ha : a.o = o ∨ a.o.ln = 0) (h0 : vh = .int .i64 a.th) (h1 : vp = pJ a q) (h2 : vq = pL a q) (hV : M.V = V) (hs : M.s.st ≤ st + 2) : Acted B p b G k A a V st w' w := by
  refine ⟨_, M, D.mem, D.l.aw h0 h1 h2 (fun hl => ⟨D.qB, ?_, D.sb⟩), hV, hs, D.ty⟩
  rcases ha with ha | ha
  · rw [ha]; exact D.rep
  · exact absurd ha hl
theorem tX_lv (o : TO) (M : MV) : (tX o M).1.lv = o.lv := by
  unfold tX leaveX joinX
  repeat' split
  all_goals rfl
theorem prg_stepE (hq : 1 < q) (F : VX p b M w) (hs : M.s.st < 1000000) (ok : TNum o) (R : PRep q o w) {o2 : TO} {M2 : MV} (hE : tX o M = (o2, M2)) : Calls Tryd.prog (fnS o.lv) #[.pointer (some ⟨q, 0, none⟩), .pointer (some ⟨p, 0, none⟩)] w fun e w' => e = .returned (.bool (o2.ln == 0)) ∧ PRep q o2 w' ∧ VX p b M2 w' ∧ Onl p b [q] w w' := by
  refine (prg_step hq F hs ok R).mono ?_
  rintro e w' ⟨h1, h2, h3, h4⟩
  rw [hE] at h1 h2 h3
  exact ⟨h1, h2, h3, h4⟩
theorem next_ln {a : AS} {o2 : TO} (h : o2.ln = 0) : (AS.next a o2).o.ln = 0 := by
  unfold AS.next
  rw [if_pos h]
  repeat' split
  all_goals exact h
theorem next_go {a : AS} {o2 : TO} (h : o2.ln ≠ 0) : AS.next a o2 = ⟨a.th, o2⟩ := if_neg h
theorem next_ok {a : AS} {o2 : TO} (h : o2.ln = 0) (h1 : o2.lv = false) (h2 : o2.e = 0) : AS.next a o2 = ⟨o2.th, o2⟩ := by
  unfold AS.next
  rw [if_pos h, if_neg (by rw [h1]; decide), if_pos h2]
theorem next_no {a : AS} {o2 : TO} (h : o2.ln = 0) (h1 : o2.lv = false) (h2 : o2.e ≠ 0) : AS.next a o2 = ⟨a.th, o2⟩ := by
  unfold AS.next
  rw [if_pos h, if_neg (by rw [h1]; decide), if_neg h2]
theorem next_lv {a : AS} {o2 : TO} (h : o2.ln = 0) (h1 : o2.lv = true) : AS.next a o2 = ⟨-1, o2⟩ := by
  unfold AS.next
  rw [if_pos h, if_pos h1]
theorem pJ_no {a : AS} (h : a.o.ln = 0) : pJ a q = .pointer none := if_neg (fun g => g.1 h)
theorem pL_no {a : AS} (h : a.o.ln = 0) : pL a q = .pointer none := if_neg (fun g => g.1 h)
theorem pJ_not {a : AS} (h : a.o.lv = true) : pJ a q = .pointer none := if_neg (fun g => by rw [h] at g; cases g.2)
theorem pL_not {a : AS} (h : a.o.lv = false) : pL a q = .pointer none := if_neg (fun g => by rw [h] at g; cases g.2)
theorem pJ_yes {a : AS} (h : a.o.ln ≠ 0) (h1 : a.o.lv = false) : pJ a q = .pointer (some ⟨q, 0, none⟩) := if_pos ⟨h, h1⟩
theorem pL_yes {a : AS} (h : a.o.ln ≠ 0) (h1 : a.o.lv = true) : pL a q = .pointer (some ⟨q, 0, none⟩) := if_pos ⟨h, h1⟩
set_option maxRecDepth 100000 in
set_option maxHeartbeats 8000000 in
theorem act_any {n ever : Int} {kp : BO} {o2 : TO} {M2 : MV} (hB : 1 < B) (hBw : B ≤ w.heap.size) (hp : B ≤ p) (hb : B ≤ b) (hk : k < 8) (off : Nat) (hoff : off = 3 * k) (F : VX p b M w) (W : AW B G lq A w) (I : InvB n ever M.V A kp) (hs : M.s.st < 900000) (hE : tX ((A k).begin k) M = (o2, M2)) :
    Calls Tryd.prog 26 #[.pointer (some ⟨G, off, none⟩), .pointer (some ⟨p, 0, none⟩), .int .i64 (k : Int)] w fun e w' => e = .returned (.bool true) ∧ Acted B p b G k A (AS.next (A k) o2) M2.V M.s.st w w' := by
  have hI2 := I.acted hk F.u64
  rw [hE] at hI2
  obtain ⟨i1, i2, i3⟩ := hI2
  have HCOND := Lib.hid (show (o2.ln = 0 → o2.lv = false → o2.e = 0 → 0 ≤ o2.th ∧ o2.th < 4 * n) ∧ (o2.ln = 0 → o2.lv = true → o2.e = 0) from ⟨i2, i3⟩)
  have HN2 := Lib.hid i1.N
  have HN14 := Lib.hid i1.n14
  have hbeg := (I.a k hk).begin hk
  have HNUM := Lib.hid hbeg.1.n
  have hnum2 := hbeg.1.n.step (M := M) F.u64
  have hlv2 := tX_lv ((A k).begin k) M
  have hst2 := tX_st ((A k).begin k) M
  rw [hE] at hlv2 hst2
  simp only at hnum2 hlv2
  rw [hE] at hnum2
  have HNUM2 := Lib.hid hnum2
  have HST2 := Lib.hid (show M2.s.st ≤ M.s.st + 1 from hst2)
  have HE := Lib.hid hE
  have HK := Lib.hid hoff
  have HF := Lib.hid F
  have HW := Lib.hid W
  have HL := Lib.hid (W.al hk)
  have hth := (I.a k hk).th
  obtain ⟨th0, hth0⟩ : ∃ x, (A k).th = x := ⟨_, rfl⟩
  have HVH := Lib.hid (show Value.int .i64 th0 = .int .i64 (A k).th by rw [hth0])
  rw [hth0] at HL
  have HTH := Lib.hid hth0
  clear F W I hoff hE i1 i2 i3 hnum2 hst2
  by_cases h0 : (A k).o.ln = 0
  · have eJ := pJ_no (q := lq k) h0
    have eL := pL_no (q := lq k) h0
    rw [eJ, eL] at HL
    by_cases h1 : th0 < 0
    · have hbe : (A k).begin k = newJ k := by unfold AS.begin; rw [if_pos h0, if_pos (by rw [hth0]; exact h1)]
      rw [hbe] at HE HNUM hlv2
      have hlv : (newJ (k : Int)).lv = false := by unfold newJ; split <;> rfl
      rw [hlv] at hlv2
      have HLV2 := Lib.hid hlv2
      have HLV := Lib.hid hlv
      have hkw : (Lit.int .i64 (k : Int)).wf = true := small64 (by omega) (by omega)
      have hnew := newJoin_all (k : Int) hkw w
      clear hbe hbeg eJ eL h0 hlv hlv2 hth hth0
      have hcells := HL.out.cells2 HK.out
      obtain ⟨c0, c1, c2, z0, z1, z2⟩ := hcells
      go_enter Tryd.func26, Tryd.ntmps26
      go_wp2_with fail
      ((with_reducible refine hnew.mono ?_); rintro e w1 ⟨q, rfl, hq, R1, hb1⟩)
      have HD1 := Lib.hid (HL.out.mid (M := M) HF.out hBw hq R1 hb1)
      clear hnew hq R1 hb1 c0 c1 c2 z0 z1 z2
      have hcells := HD1.out.l.cells2 HK.out
      obtain ⟨c0, c1, c2, z0, z1, z2⟩ := hcells
      have HD := Lib.hid (HD1.out.set1 hB hk (.pointer (some ⟨q, 0, none⟩)) (a := ⟨G, off + 1, none⟩) (by rw [HK.out]))
      go_upto_region 5 with (fail)
      clear c0 c1 c2 z0 z1 z2 HD1
      revert HD
      generalize w1.setCell ⟨G, off + 1, none⟩ (.pointer (some ⟨q, 0, none⟩)) = X
      intro HD
      have hcells := HD.out.l.cells2 HK.out
      obtain ⟨c0, c1, c2, z0, z1, z2⟩ := hcells
      have hst := prg_stepE (by have := HD.out.qB; omega) HD.out.mem (by omega) HNUM.out HD.out.rep HE.out
      rw [HLV.out] at hst
      have e0 : fnS false = 35 := rfl
      rw [e0] at hst
      clear e0
      go_wp2_with fail
      ((with_reducible refine hst.mono ?_); rintro e w2 ⟨rfl, R2, F2, O2⟩)
      have HD2 := Lib.hid (HD.out.step hp hb R2 F2 O2)
      clear R2 F2 O2 hst c0 c1 c2 z0 z1 z2 HD
      have hcells := HD2.out.l.cells2 HK.out
      obtain ⟨c0, c1, c2, z0, z1, z2⟩ := hcells
      by_cases hz : o2.ln = 0
      · have hzb : (o2.ln == 0) = true := beq_iff_eq.2 hz
        have hgot := gotJ_any HNUM2.out HLV2.out HD2.out.rep
        rw [if_pos hz] at hgot
        have HZ := Lib.hid hz
        clear hz
        go_wp2_with fail
        ((with_reducible refine hgot.mono ?_); rintro e w3 ⟨rfl, rfl⟩)
        clear hgot
        have hD3 := HD2.out.set1 hB hk (.pointer none) (a := ⟨G, off + 1, none⟩) (by rw [HK.out])
        have HD3 := Lib.hid hD3
        have hcells := HD3.out.l.cells2 HK.out
        obtain ⟨c0', c1', c2', z0', z1', z2'⟩ := hcells
        clear hD3
        by_cases he : o2.e = 0
        · have hT := HCOND.out.1 HZ.out HLV2.out he
          have hD4 := HD3.out.set0 hB hk (.int .i64 o2.th) (a := ⟨G, off, none⟩) (by rw [HK.out])
          have HD4 := Lib.hid hD4
          have hmany := many_any (n := n) HD4.out.mem (by have := HST2.out; omega) HN2.out (by have := HN14.out; omega)
          have hge : 0 ≤ o2.th := hT.1
          have hlt : o2.th < n * 4 := by omega
          have hwm : IntKind.i64.wrap (n * 4) = n * 4 := by have := HN14.out; simp [IntKind.wrap, IntKind.bits, IntKind.signed]; omega
          have HF := Lib.hid he
          clear hD4 hT
          go_wp2_with fail
          ((with_reducible refine hmany.mono ?_); rintro e w5 ⟨rfl, F5, O5⟩)
          have HD5 := Lib.hid (HD4.out.only hp hb F5 O5)
          clear F5 O5 hmany
          go_wp2_with fail
          go_ret
          refine ⟨rfl, HD5.out.acted (a := AS.next (A k) o2) (.inr (next_ln HZ.out)) ?_ ?_ ?_ rfl (by have := HST2.out; show M2.s.st + 1 ≤ _; omega)⟩
          · rw [next_ok HZ.out HLV2.out HF.out]
          · rw [pJ_no (next_ln HZ.out)]
          · rw [pL_no (next_ln HZ.out)]
        · have hef : (o2.e == 0) = false := beq_eq_false_iff_ne.2 he
          have HF := Lib.hid he
          go_wp2_with fail
          go_ret
          refine ⟨rfl, HD3.out.acted (a := AS.next (A k) o2) (.inr (next_ln HZ.out)) ?_ ?_ ?_ rfl (by have := HST2.out; omega)⟩
          · rw [next_no HZ.out HLV2.out HF.out]
            exact HVH.out
          · rw [pJ_no (next_ln HZ.out)]
          · rw [pL_no (next_ln HZ.out)]
      · have hzb : (o2.ln == 0) = false := beq_eq_false_iff_ne.2 hz
        have HZ := Lib.hid hz
        clear hz
        go_wp2_with fail
        go_ret
        refine ⟨rfl, HD2.out.acted (a := AS.next (A k) o2) (.inl (by rw [next_go HZ.out])) ?_ ?_ ?_ rfl (by have := HST2.out; omega)⟩
        · rw [next_go HZ.out]
          exact HVH.out
        · rw [next_go HZ.out, pJ_yes HZ.out HLV2.out]
        · rw [next_go HZ.out, pL_not HLV2.out]
    · have hbe : (A k).begin k = newL th0 := by unfold AS.begin; rw [if_pos h0, if_neg (by rw [hth0]; exact h1), hth0]
      rw [hbe] at HE HNUM hlv2
      have hlv : (newL th0).lv = true := by unfold newL; split <;> rfl
      rw [hlv] at hlv2
      have HLV2 := Lib.hid hlv2
      have HLV := Lib.hid hlv
      have hnew := newLeave_all th0 w
      clear hbe hbeg eJ eL h0 hlv hlv2 hth hth0
      have hcells := HL.out.cells2 HK.out
      obtain ⟨c0, c1, c2, z0, z1, z2⟩ := hcells
      go_enter Tryd.func26, Tryd.ntmps26
      go_wp2_with fail
      ((with_reducible refine hnew.mono ?_); rintro e w1 ⟨q, rfl, hq, R1, hb1⟩)
      have HD1 := Lib.hid (HL.out.mid (M := M) HF.out hBw hq R1 hb1)
      clear hnew hq R1 hb1 c0 c1 c2 z0 z1 z2
      have hcells := HD1.out.l.cells2 HK.out
      obtain ⟨c0, c1, c2, z0, z1, z2⟩ := hcells
      have HD := Lib.hid (HD1.out.set2 hB hk (.pointer (some ⟨q, 0, none⟩)) (a := ⟨G, off + 2, none⟩) (by rw [HK.out]))
      go_upto_region 5 with (fail)
      clear c0 c1 c2 z0 z1 z2 HD1
      revert HD
      generalize w1.setCell ⟨G, off + 2, none⟩ (.pointer (some ⟨q, 0, none⟩)) = X
      intro HD
      have hcells := HD.out.l.cells2 HK.out
      obtain ⟨c0, c1, c2, z0, z1, z2⟩ := hcells
      have hst := prg_stepE (by have := HD.out.qB; omega) HD.out.mem (by omega) HNUM.out HD.out.rep HE.out
      rw [HLV.out] at hst
      have e0 : fnS true = 52 := rfl
      rw [e0] at hst
      clear e0
      go_wp2_with fail
      ((with_reducible refine hst.mono ?_); rintro e w2 ⟨rfl, R2, F2, O2⟩)
      have HD2 := Lib.hid (HD.out.step hp hb R2 F2 O2)
      clear R2 F2 O2 hst c0 c1 c2 z0 z1 z2 HD
      have hcells := HD2.out.l.cells2 HK.out
      obtain ⟨c0, c1, c2, z0, z1, z2⟩ := hcells
      by_cases hz : o2.ln = 0
      · have hzb : (o2.ln == 0) = true := beq_iff_eq.2 hz
        have hgot := gotL_any HNUM2.out HLV2.out HD2.out.rep
        rw [HCOND.out.2 hz HLV2.out] at hgot
        have HZ := Lib.hid hz
        clear hz
        go_wp2_with fail
        ((with_reducible refine hgot.mono ?_); rintro e w3 ⟨rfl, rfl⟩)
        clear hgot
        have HD3 := Lib.hid (HD2.out.set2 hB hk (.pointer none) (a := ⟨G, off + 2, none⟩) (by rw [HK.out]))
        have hcells := HD3.out.l.cells2 HK.out
        obtain ⟨c0', c1', c2', z0', z1', z2'⟩ := hcells
        have HD4 := Lib.hid (HD3.out.set0 hB hk (.int .i64 (-1)) (a := ⟨G, off, none⟩) (by rw [HK.out]))
        go_wp2_with fail
        go_ret
        refine ⟨rfl, HD4.out.acted (a := AS.next (A k) o2) (.inr (next_ln HZ.out)) ?_ ?_ ?_ rfl (by have := HST2.out; omega)⟩
        · rw [next_lv HZ.out HLV2.out]
        · rw [pJ_no (next_ln HZ.out)]
        · rw [pL_no (next_ln HZ.out)]
      · have hzb : (o2.ln == 0) = false := beq_eq_false_iff_ne.2 hz
        have HZ := Lib.hid hz
        clear hz
        go_wp2_with fail
        go_ret
        refine ⟨rfl, HD2.out.acted (a := AS.next (A k) o2) (.inl (by rw [next_go HZ.out])) ?_ ?_ ?_ rfl (by have := HST2.out; omega)⟩
        · rw [next_go HZ.out]
          exact HVH.out
        · rw [next_go HZ.out, pJ_not HLV2.out]
        · rw [next_go HZ.out, pL_yes HZ.out HLV2.out]
  · have hbe : (A k).begin k = (A k).o := by unfold AS.begin; rw [if_neg h0]
    rw [hbe] at HE HNUM hlv2
    have hop := HW.out.op k hk h0
    have hsb := HW.out.sb hk h0
    cases hlv : (A k).o.lv with
    | false =>
      rw [pJ_yes h0 hlv, pL_not hlv] at HL
      rw [hlv] at hlv2
      have HLV2 := Lib.hid hlv2
      have HLV := Lib.hid hlv
      have HD := Lib.hid (show Mid B p b G k (lq k) lq A M (A k).o (.int .i64 th0) (.pointer (some ⟨lq k, 0, none⟩)) (.pointer none) w w from ⟨HF.out, HL.out, hop.2, hop.1, hsb, .refl w, hBw⟩)
      clear hbe hbeg hop hsb hlv hlv2 hth hth0 HL h0
      revert HE HNUM HLV HD
      generalize (A k).o = o
      generalize lq k = q
      intro HNUM HE HLV HD
      go_enter Tryd.func26, Tryd.ntmps26
      have hcells := HD.out.l.cells2 HK.out
      obtain ⟨c0, c1, c2, z0, z1, z2⟩ := hcells
      have hst := prg_stepE (by have := HD.out.qB; omega) HD.out.mem (by omega) HNUM.out HD.out.rep HE.out
      rw [HLV.out] at hst
      have e0 : fnS false = 35 := rfl
      rw [e0] at hst
      clear e0
      go_wp2_with fail
      ((with_reducible refine hst.mono ?_); rintro e w2 ⟨rfl, R2, F2, O2⟩)
      have HD2 := Lib.hid (HD.out.step hp hb R2 F2 O2)
      clear R2 F2 O2 hst c0 c1 c2 z0 z1 z2 HD
      have hcells := HD2.out.l.cells2 HK.out
      obtain ⟨c0, c1, c2, z0, z1, z2⟩ := hcells
      by_cases hz : o2.ln = 0
      · have hzb : (o2.ln == 0) = true := beq_iff_eq.2 hz
        have hgot := gotJ_any HNUM2.out HLV2.out HD2.out.rep
        rw [if_pos hz] at hgot
        have HZ := Lib.hid hz
        clear hz
        go_wp2_with fail
        ((with_reducible refine hgot.mono ?_); rintro e w3 ⟨rfl, rfl⟩)
        clear hgot
        have hD3 := HD2.out.set1 hB hk (.pointer none) (a := ⟨G, off + 1, none⟩) (by rw [HK.out])
        have HD3 := Lib.hid hD3
        have hcells := HD3.out.l.cells2 HK.out
        obtain ⟨c0', c1', c2', z0', z1', z2'⟩ := hcells
        clear hD3
        by_cases he : o2.e = 0
        · have hT := HCOND.out.1 HZ.out HLV2.out he
          have hD4 := HD3.out.set0 hB hk (.int .i64 o2.th) (a := ⟨G, off, none⟩) (by rw [HK.out])
          have HD4 := Lib.hid hD4
          have hmany := many_any (n := n) HD4.out.mem (by have := HST2.out; omega) HN2.out (by have := HN14.out; omega)
          have hge : 0 ≤ o2.th := hT.1
          have hlt : o2.th < n * 4 := by omega
          have hwm : IntKind.i64.wrap (n * 4) = n * 4 := by have := HN14.out; simp [IntKind.wrap, IntKind.bits, IntKind.signed]; omega
          have HF := Lib.hid he
          clear hD4 hT
          go_wp2_with fail
          ((with_reducible refine hmany.mono ?_); rintro e w5 ⟨rfl, F5, O5⟩)
          have HD5 := Lib.hid (HD4.out.only hp hb F5 O5)
          clear F5 O5 hmany
          go_wp2_with fail
          go_ret
          refine ⟨rfl, HD5.out.acted (a := AS.next (A k) o2) (.inr (next_ln HZ.out)) ?_ ?_ ?_ rfl (by have := HST2.out; show M2.s.st + 1 ≤ _; omega)⟩
          · rw [next_ok HZ.out HLV2.out HF.out]
          · rw [pJ_no (next_ln HZ.out)]
          · rw [pL_no (next_ln HZ.out)]
        · have hef : (o2.e == 0) = false := beq_eq_false_iff_ne.2 he
          have HF := Lib.hid he
          go_wp2_with fail
          go_ret
          refine ⟨rfl, HD3.out.acted (a := AS.next (A k) o2) (.inr (next_ln HZ.out)) ?_ ?_ ?_ rfl (by have := HST2.out; omega)⟩
          · rw [next_no HZ.out HLV2.out HF.out]
            exact HVH.out
          · rw [pJ_no (next_ln HZ.out)]
          · rw [pL_no (next_ln HZ.out)]
      · have hzb : (o2.ln == 0) = false := beq_eq_false_iff_ne.2 hz
        have HZ := Lib.hid hz
        clear hz
        go_wp2_with fail
        go_ret
        refine ⟨rfl, HD2.out.acted (a := AS.next (A k) o2) (.inl (by rw [next_go HZ.out])) ?_ ?_ ?_ rfl (by have := HST2.out; omega)⟩
        · rw [next_go HZ.out]
          exact HVH.out
        · rw [next_go HZ.out, pJ_yes HZ.out HLV2.out]
        · rw [next_go HZ.out, pL_not HLV2.out]
    | true =>
      rw [pJ_not hlv, pL_yes h0 hlv] at HL
      rw [hlv] at hlv2
      have HLV2 := Lib.hid hlv2
      have HLV := Lib.hid hlv
      have HD := Lib.hid (show Mid B p b G k (lq k) lq A M (A k).o (.int .i64 th0) (.pointer none) (.pointer (some ⟨lq k, 0, none⟩)) w w from ⟨HF.out, HL.out, hop.2, hop.1, hsb, .refl w, hBw⟩)
      clear hbe hbeg hop hsb hlv hlv2 hth hth0 HL h0
      revert HE HNUM HLV HD
      generalize (A k).o = o
      generalize lq k = q
      intro HNUM HE HLV HD
      go_enter Tryd.func26, Tryd.ntmps26
      have hcells := HD.out.l.cells2 HK.out
      obtain ⟨c0, c1, c2, z0, z1, z2⟩ := hcells
      have hst := prg_stepE (by have := HD.out.qB; omega) HD.out.mem (by omega) HNUM.out HD.out.rep HE.out
      rw [HLV.out] at hst
      have e0 : fnS true = 52 := rfl
      rw [e0] at hst
      clear e0
      go_wp2_with fail
      ((with_reducible refine hst.mono ?_); rintro e w2 ⟨rfl, R2, F2, O2⟩)
      have HD2 := Lib.hid (HD.out.step hp hb R2 F2 O2)
      clear R2 F2 O2 hst c0 c1 c2 z0 z1 z2 HD
      have hcells := HD2.out.l.cells2 HK.out
      obtain ⟨c0, c1, c2, z0, z1, z2⟩ := hcells
      by_cases hz : o2.ln = 0
      · have hzb : (o2.ln == 0) = true := beq_iff_eq.2 hz
        have hgot := gotL_any HNUM2.out HLV2.out HD2.out.rep
        rw [HCOND.out.2 hz HLV2.out] at hgot
        have HZ := Lib.hid hz
        clear hz
        go_wp2_with fail
        ((with_reducible refine hgot.mono ?_); rintro e w3 ⟨rfl, rfl⟩)
        clear hgot
        have HD3 := Lib.hid (HD2.out.set2 hB hk (.pointer none) (a := ⟨G, off + 2, none⟩) (by rw [HK.out]))
        have hcells := HD3.out.l.cells2 HK.out
        obtain ⟨c0', c1', c2', z0', z1', z2'⟩ := hcells
        have HD4 := Lib.hid (HD3.out.set0 hB hk (.int .i64 (-1)) (a := ⟨G, off, none⟩) (by rw [HK.out]))
        go_wp2_with fail
        go_ret
        refine ⟨rfl, HD4.out.acted (a := AS.next (A k) o2) (.inr (next_ln HZ.out)) ?_ ?_ ?_ rfl (by have := HST2.out; omega)⟩
        · rw [next_lv HZ.out HLV2.out]
        · rw [pJ_no (next_ln HZ.out)]
        · rw [pL_no (next_ln HZ.out)]
      · have hzb : (o2.ln == 0) = false := beq_eq_false_iff_ne.2 hz
        have HZ := Lib.hid hz
        clear hz
        go_wp2_with fail
        go_ret
        refine ⟨rfl, HD2.out.acted (a := AS.next (A k) o2) (.inl (by rw [next_go HZ.out])) ?_ ?_ ?_ rfl (by have := HST2.out; omega)⟩
        · rw [next_go HZ.out]
          exact HVH.out
        · rw [next_go HZ.out, pJ_not HLV2.out]
        · rw [next_go HZ.out, pL_yes HZ.out HLV2.out]
end
end Go.Proofs.YtffkjdmpeeagoaaDoor
