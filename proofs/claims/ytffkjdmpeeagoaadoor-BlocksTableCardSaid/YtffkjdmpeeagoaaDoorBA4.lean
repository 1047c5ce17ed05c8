/-
  The keeper as it lies, and its act: it does what the plain one does; condition: all lies as it says.
-/
import Derived.Test.YtffkjdmpeeagoaaDoorBK
import Derived.Test.YtffkjdmpeeagoaaDoorBA3
namespace Go.Proofs.YtffkjdmpeeagoaaDoor
open Go.RowKit Go.Maps

def TK3 : List TypeId := [72, 57, 58]
def pM (k : BO) (q : Nat) : Value := if k.ln ≠ 0 ∧ k.lv = false then .pointer (some ⟨q, 0, none⟩) else .pointer none
def pS (k : BO) (q : Nat) : Value := if k.ln ≠ 0 ∧ k.lv = true then .pointer (some ⟨q, 0, none⟩) else .pointer none
def begK (k : BO) (grow : Bool) : BO := if k.ln = 0 then newB (!grow) else k
structure KW (B K kq : Nat) (k : BO) (w : World) : Prop where
  KB : B ≤ K
  blk : Bq K 72 [pM k kq, pS k kq] w
  op : k.ln ≠ 0 → B ≤ kq ∧ KRep kq k w
section
variable {B p b q K kq : Nat} {k o o2 : BO} {M M2 : MV} {w w' : World} {vp vq : Value} {T : List TypeId}
theorem pM_no (h : k.ln = 0) : pM k q = .pointer none := if_neg (fun g => g.1 h)
theorem pS_no (h : k.ln = 0) : pS k q = .pointer none := if_neg (fun g => g.1 h)
theorem pM_not (h : k.lv = true) : pM k q = .pointer none := if_neg (fun g => by rw [h] at g; cases g.2)
theorem pS_not (h : k.lv = false) : pS k q = .pointer none := if_neg (fun g => by rw [h] at g; cases g.2)
theorem pM_yes (h : k.ln ≠ 0) (h1 : k.lv = false) : pM k q = .pointer (some ⟨q, 0, none⟩) := if_pos ⟨h, h1⟩
theorem pS_yes (h : k.ln ≠ 0) (h1 : k.lv = true) : pS k q = .pointer (some ⟨q, 0, none⟩) := if_pos ⟨h, h1⟩
theorem KRep.lt (h : KRep q o w) : q < w.heap.size := by obtain ⟨t, cs, k, _⟩ := h.bq; exact k.lt
theorem KRep.ty (h : KRep q o w) : ∃ t cs, Bq q t cs w ∧ t ∈ TK3 ∧ t ≠ 72 ∧ t ≠ 109 := by
  obtain ⟨t, cs, hb, rfl | rfl⟩ := h.bq
  · exact ⟨_, _, hb, by simp [TK3], by decide, by decide⟩
  · exact ⟨_, _, hb, by simp [TK3], by decide, by decide⟩
theorem KRep.neM (h : KRep q o w) (F : VX p b M w) : q ≠ p ∧ q ≠ b := by
  obtain ⟨t, cs, k, _, _, ht⟩ := h.ty
  exact F.ne ht k
theorem KRep.neK (h : KRep q o w) {cs : List Value} (hK : Bq K 72 cs w) : q ≠ K := by
  obtain ⟨t, ds, k, _, ht, _⟩ := h.ty
  exact k.ne hK ht
theorem KW.ty (W : KW B K kq k w) (F : VX p b M w) (h : Ty B p b T w w') (h1 : 72 ∉ T) (h2 : 57 ∉ T) (h3 : 58 ∉ T) : KW B K kq k w' := by
  obtain ⟨n1, n2⟩ := F.ne (by decide) W.blk
  refine ⟨W.KB, W.blk.same (h.keep _ _ _ W.blk h1 n1 n2), fun hl => ⟨(W.op hl).1, (W.op hl).2.same ?_⟩⟩
  have P := (W.op hl).2
  obtain ⟨t, cs, kb, ht⟩ := P.bq
  exact h.keep _ _ _ kb (by rcases ht with rfl | rfl <;> assumption) (P.neM F).1 (P.neM F).2
/-- What its act stands at. -/
structure MidK (B p b K q : Nat) (M : MV) (o : BO) (vp vq : Value) (w0 w : World) : Prop where
  mem : VX p b M w
  KB : B ≤ K
  blk : Bq K 72 [vp, vq] w
  rep : KRep q o w
  qB : B ≤ q
  ty : Ty B p b TK3 w0 w
  sz : B ≤ w.heap.size
theorem MidK.step (D : MidK B p b K q M o vp vq w' w) (hp : B ≤ p) (hb : B ≤ b) {w2 : World} (R : KRep q o2 w2) (F : VX p b M2 w2) (O : Onl p b [q] w w2) : MidK B p b K q M2 o2 vp vq w' w2 := by
  obtain ⟨t, cs, k1, ht, _⟩ := D.rep.ty
  obtain ⟨n1, n2⟩ := D.mem.ne (by decide) D.blk
  exact ⟨F, D.KB, D.blk.onl O n1 n2 (by simpa using Ne.symm (D.rep.neK D.blk)), R, D.qB, D.ty.trans (Ty.onl D.sz hp hb O D.qB k1 ht), Nat.le_trans D.sz O.size⟩
theorem MidK.set (D : MidK B p b K q M o vp vq w' w) (hB : 1 < B) (i : Nat) (v : Value) {ds : List Value} {a : Addr} (ha : a = ⟨K, i, none⟩) (hd : [vp, vq].set i v = ds) : VX p b M (w.setCell a v) ∧ Bq K 72 ds (w.setCell a v) ∧ KRep q o (w.setCell a v) ∧ Ty B p b TK3 w' (w.setCell a v) ∧ B ≤ (w.setCell a v).heap.size := by
  subst ha hd
  obtain ⟨n1, n2⟩ := D.mem.ne (by decide) D.blk
  have := D.KB
  exact ⟨D.mem.setQ n1 n2 (by omega) i v, D.blk.set i v rfl, D.rep.same (Below.heap_setCell w ⟨K, i, none⟩ v q (D.rep.neK D.blk)), D.ty.trans (Ty.set D.KB D.blk (by simp [TK3]) i v), by simpa [World.setCell] using D.sz⟩
theorem MidK.set0 (D : MidK B p b K q M o vp vq w' w) (hB : 1 < B) (v : Value) {a : Addr} (ha : a = ⟨K, 0, none⟩) : MidK B p b K q M o v vq w' (w.setCell a v) := by
  obtain ⟨h1, h2, h3, h4, h5⟩ := D.set hB 0 v ha rfl
  exact ⟨h1, D.KB, h2, h3, D.qB, h4, h5⟩
theorem MidK.set1 (D : MidK B p b K q M o vp vq w' w) (hB : 1 < B) (v : Value) {a : Addr} (ha : a = ⟨K, 1, none⟩) : MidK B p b K q M o vp v w' (w.setCell a v) := by
  obtain ⟨h1, h2, h3, h4, h5⟩ := D.set hB 1 v ha rfl
  exact ⟨h1, D.KB, h2, h3, D.qB, h4, h5⟩
theorem MidK.cells (D : MidK B p b K q M o vp vq w' w) : w.cell? ⟨K, 0, none⟩ = some vp ∧ w.cell? ⟨K, 1, none⟩ = some vq ∧ w.frozen? ⟨K, 0, none⟩ = false ∧ w.frozen? ⟨K, 1, none⟩ = false := ⟨D.blk.cell 0, D.blk.cell 1, D.blk.free 0, D.blk.free 1⟩
theorem KW.cells (W : KW B K kq k w) : w.cell? ⟨K, 0, none⟩ = some (pM k kq) ∧ w.cell? ⟨K, 1, none⟩ = some (pS k kq) ∧ w.frozen? ⟨K, 0, none⟩ = false ∧ w.frozen? ⟨K, 1, none⟩ = false := ⟨W.blk.cell 0, W.blk.cell 1, W.blk.free 0, W.blk.free 1⟩
theorem KW.mid (W : KW B K kq k w) (F : VX p b M w) (hBw : B ≤ w.heap.size) (hq : w.heap.size ≤ q) (R : KRep q o w') (hb : Below w.heap.size w w') : MidK B p b K q M o (pM k kq) (pS k kq) w w' :=
  ⟨F.below hb, W.KB, W.blk.below hb, R, by omega, .below hBw hb, Nat.le_trans hBw hb.size⟩
def ActedK (B p b K : Nat) (o2 : BO) (V : Ad → Int) (st : Int) (w w' : World) : Prop := ∃ kq' M', VX p b M' w' ∧ KW B K kq' o2 w' ∧ M'.V = V ∧ M'.s.st ≤ st + 1 ∧ Ty B p b TK3 w w'
theorem MidK.acted (D : MidK B p b K q M o vp vq w' w) {V : Ad → Int} {st : Int} (h1 : vp = pM o q) (h2 : vq = pS o q) (hV : M.V = V) (hs : M.s.st ≤ st + 1) : ActedK B p b K o V st w' w := by
  subst h1 h2
  exact ⟨q, M, D.mem, ⟨D.KB, D.blk, fun _ => ⟨D.qB, D.rep⟩⟩, hV, hs, D.ty⟩
theorem kX_lv (o : BO) (M : MV) : (kX o M).1.lv = o.lv := by
  unfold kX lessX moreX
  repeat' split
  all_goals rfl
set_option maxRecDepth 100000 in
set_option maxHeartbeats 8000000 in
theorem keep_any (grow : Bool) (hB : 1 < B) (hBw : B ≤ w.heap.size) (hp : B ≤ p) (hb : B ≤ b) (F : VX p b M w) (W : KW B K kq k w) (ok : BNum k) (hs : M.s.st < 900000) (hE : kX (begK k grow) M = (o2, M2)) :
    Calls Tryd.prog 25 #[.pointer (some ⟨K, 0, none⟩), .pointer (some ⟨p, 0, none⟩), .bool grow] w fun e w' => e = .returned (.tuple #[]) ∧ ActedK B p b K o2 M2.V M.s.st w w' := by
  have HNUM := Lib.hid (show BNum (begK k grow) by unfold begK; split; exact .new _; exact ok)
  have hlv2 := kX_lv (begK k grow) M
  have hst2 := kX_st (begK k grow) M
  rw [hE] at hlv2 hst2
  simp only at hlv2
  have HST2 := Lib.hid (show M2.s.st ≤ M.s.st + 1 from hst2)
  have HE := Lib.hid hE
  have HF := Lib.hid F
  have HW := Lib.hid W
  clear F W hE ok hst2
  by_cases h0 : k.ln = 0
  · cases grow with
    | true =>
      have hbe : begK k true = newB false := by unfold begK; rw [if_pos h0]; rfl
      rw [hbe] at HE HNUM hlv2
      have HLV2 := Lib.hid (show o2.lv = false from hlv2)
      have HLV := Lib.hid (show (newB false).lv = false from rfl)
      have hnew := newMore_all w
      have hcells := HW.out.cells
      obtain ⟨c0, c1, z0, z1⟩ := hcells
      have eM := pM_no (q := kq) h0
      have eS := pS_no (q := kq) h0
      rw [eM] at c0
      rw [eS] at c1
      go_enter Tryd.func25, Tryd.ntmps25
      go_wp2_with fail
      ((with_reducible refine hnew.mono ?_); rintro e w1 ⟨q, rfl, hq, R1, hb1⟩)
      have hD1 := HW.out.mid (M := M) HF.out hBw hq R1 hb1
      rw [eM, eS] at hD1
      have HD1 := Lib.hid hD1
      clear hnew hq R1 hb1 c0 c1 z0 z1 hD1 eM eS hbe hlv2 h0
      have hcells := HD1.out.cells
      obtain ⟨c0, c1, z0, z1⟩ := hcells
      have HD := Lib.hid (HD1.out.set0 hB (.pointer (some ⟨q, 0, none⟩)) (a := ⟨K, 0, none⟩) rfl)
      go_upto_region 4 with (fail)
      clear c0 c1 z0 z1 HD1
      revert HD
      generalize w1.setCell ⟨K, 0, none⟩ (.pointer (some ⟨q, 0, none⟩)) = X
      intro HD
      have hcells := HD.out.cells
      obtain ⟨c0, c1, z0, z1⟩ := hcells
      have hst := prgK_stepE (by have := HD.out.qB; omega) HD.out.mem (by omega) HNUM.out HD.out.rep HE.out
      rw [HLV.out] at hst
      have e0 : fnK false = 18 := rfl
      rw [e0] at hst
      clear e0
      go_wp2_with fail
      ((with_reducible refine hst.mono ?_); rintro e w2 ⟨rfl, R2, F2, O2⟩)
      have HD2 := Lib.hid (HD.out.step hp hb R2 F2 O2)
      clear R2 F2 O2 hst c0 c1 z0 z1 HD
      have hcells := HD2.out.cells
      obtain ⟨c0, c1, z0, z1⟩ := hcells
      by_cases hz : o2.ln = 0
      · have hzb : (o2.ln == 0) = true := beq_iff_eq.2 hz
        have HZ := Lib.hid hz
        clear hz
        have HD3 := Lib.hid (HD2.out.set0 hB (.pointer none) (a := ⟨K, 0, none⟩) rfl)
        go_wp2_with fail
        ((try simp only [Exit.inBlock, Exit.then]); first | go_end0 | refine bodyPost_ret (results_none rfl _ _ _) rfl ?_)
        exact ⟨rfl, HD3.out.acted (pM_no HZ.out).symm (pS_no HZ.out).symm rfl (by have := HST2.out; omega)⟩
      · have hzb : (o2.ln == 0) = false := beq_eq_false_iff_ne.2 hz
        have HZ := Lib.hid hz
        clear hz
        go_wp2_with fail
        ((try simp only [Exit.inBlock, Exit.then]); first | go_end0 | refine bodyPost_ret (results_none rfl _ _ _) rfl ?_)
        exact ⟨rfl, HD2.out.acted (by rw [pM_yes HZ.out HLV2.out]) (by rw [pS_not HLV2.out]) rfl (by have := HST2.out; omega)⟩
    | false =>
      have hbe : begK k false = newB true := by unfold begK; rw [if_pos h0]; rfl
      rw [hbe] at HE HNUM hlv2
      have HLV2 := Lib.hid (show o2.lv = true from hlv2)
      have HLV := Lib.hid (show (newB true).lv = true from rfl)
      have hnew := newLess_all w
      have hcells := HW.out.cells
      obtain ⟨c0, c1, z0, z1⟩ := hcells
      have eM := pM_no (q := kq) h0
      have eS := pS_no (q := kq) h0
      rw [eM] at c0
      rw [eS] at c1
      go_enter Tryd.func25, Tryd.ntmps25
      go_wp2_with fail
      ((with_reducible refine hnew.mono ?_); rintro e w1 ⟨q, rfl, hq, R1, hb1⟩)
      have hD1 := HW.out.mid (M := M) HF.out hBw hq R1 hb1
      rw [eM, eS] at hD1
      have HD1 := Lib.hid hD1
      clear hnew hq R1 hb1 c0 c1 z0 z1 hD1 eM eS hbe hlv2 h0
      have hcells := HD1.out.cells
      obtain ⟨c0, c1, z0, z1⟩ := hcells
      have HD := Lib.hid (HD1.out.set1 hB (.pointer (some ⟨q, 0, none⟩)) (a := ⟨K, 1, none⟩) rfl)
      go_upto_region 4 with (fail)
      clear c0 c1 z0 z1 HD1
      revert HD
      generalize w1.setCell ⟨K, 1, none⟩ (.pointer (some ⟨q, 0, none⟩)) = X
      intro HD
      have hcells := HD.out.cells
      obtain ⟨c0, c1, z0, z1⟩ := hcells
      have hst := prgK_stepE (by have := HD.out.qB; omega) HD.out.mem (by omega) HNUM.out HD.out.rep HE.out
      rw [HLV.out] at hst
      have e0 : fnK true = 21 := rfl
      rw [e0] at hst
      clear e0
      go_wp2_with fail
      ((with_reducible refine hst.mono ?_); rintro e w2 ⟨rfl, R2, F2, O2⟩)
      have HD2 := Lib.hid (HD.out.step hp hb R2 F2 O2)
      clear R2 F2 O2 hst c0 c1 z0 z1 HD
      have hcells := HD2.out.cells
      obtain ⟨c0, c1, z0, z1⟩ := hcells
      by_cases hz : o2.ln = 0
      · have hzb : (o2.ln == 0) = true := beq_iff_eq.2 hz
        have HZ := Lib.hid hz
        clear hz
        have HD3 := Lib.hid (HD2.out.set1 hB (.pointer none) (a := ⟨K, 1, none⟩) rfl)
        go_wp2_with fail
        ((try simp only [Exit.inBlock, Exit.then]); first | go_end0 | refine bodyPost_ret (results_none rfl _ _ _) rfl ?_)
        exact ⟨rfl, HD3.out.acted (pM_no HZ.out).symm (pS_no HZ.out).symm rfl (by have := HST2.out; omega)⟩
      · have hzb : (o2.ln == 0) = false := beq_eq_false_iff_ne.2 hz
        have HZ := Lib.hid hz
        clear hz
        go_wp2_with fail
        ((try simp only [Exit.inBlock, Exit.then]); first | go_end0 | refine bodyPost_ret (results_none rfl _ _ _) rfl ?_)
        exact ⟨rfl, HD2.out.acted (by rw [pM_not HLV2.out]) (by rw [pS_yes HZ.out HLV2.out]) rfl (by have := HST2.out; omega)⟩
  · have hbe : begK k grow = k := by unfold begK; rw [if_neg h0]
    rw [hbe] at HE HNUM hlv2
    have hop := HW.out.op h0
    cases hlv : k.lv with
    | false =>
      have HLV2 := Lib.hid (show o2.lv = false by rw [hlv2, hlv])
      have HLV := Lib.hid hlv
      have hblk := HW.out.blk
      rw [pM_yes h0 hlv, pS_not hlv] at hblk
      have HD := Lib.hid (show MidK B p b K kq M k (.pointer (some ⟨kq, 0, none⟩)) (.pointer none) w w from ⟨HF.out, HW.out.KB, hblk, hop.2, hop.1, .refl w, hBw⟩)
      clear hbe hop hlv hlv2 h0 hblk
      go_enter Tryd.func25, Tryd.ntmps25
      have hcells := HD.out.cells
      obtain ⟨c0, c1, z0, z1⟩ := hcells
      have hst := prgK_stepE (by have := HD.out.qB; omega) HD.out.mem (by omega) HNUM.out HD.out.rep HE.out
      rw [HLV.out] at hst
      have e0 : fnK false = 18 := rfl
      rw [e0] at hst
      clear e0
      go_wp2_with fail
      ((with_reducible refine hst.mono ?_); rintro e w2 ⟨rfl, R2, F2, O2⟩)
      have HD2 := Lib.hid (HD.out.step hp hb R2 F2 O2)
      clear R2 F2 O2 hst c0 c1 z0 z1 HD
      have hcells := HD2.out.cells
      obtain ⟨c0, c1, z0, z1⟩ := hcells
      by_cases hz : o2.ln = 0
      · have hzb : (o2.ln == 0) = true := beq_iff_eq.2 hz
        have HZ := Lib.hid hz
        clear hz
        have HD3 := Lib.hid (HD2.out.set0 hB (.pointer none) (a := ⟨K, 0, none⟩) rfl)
        go_wp2_with fail
        ((try simp only [Exit.inBlock, Exit.then]); first | go_end0 | refine bodyPost_ret (results_none rfl _ _ _) rfl ?_)
        exact ⟨rfl, HD3.out.acted (pM_no HZ.out).symm (pS_no HZ.out).symm rfl (by have := HST2.out; omega)⟩
      · have hzb : (o2.ln == 0) = false := beq_eq_false_iff_ne.2 hz
        have HZ := Lib.hid hz
        clear hz
        go_wp2_with fail
        ((try simp only [Exit.inBlock, Exit.then]); first | go_end0 | refine bodyPost_ret (results_none rfl _ _ _) rfl ?_)
        exact ⟨rfl, HD2.out.acted (by rw [pM_yes HZ.out HLV2.out]) (by rw [pS_not HLV2.out]) rfl (by have := HST2.out; omega)⟩
    | true =>
      have HLV2 := Lib.hid (show o2.lv = true by rw [hlv2, hlv])
      have HLV := Lib.hid hlv
      have hblk := HW.out.blk
      rw [pM_not hlv, pS_yes h0 hlv] at hblk
      have HD := Lib.hid (show MidK B p b K kq M k (.pointer none) (.pointer (some ⟨kq, 0, none⟩)) w w from ⟨HF.out, HW.out.KB, hblk, hop.2, hop.1, .refl w, hBw⟩)
      clear hbe hop hlv hlv2 h0 hblk
      go_enter Tryd.func25, Tryd.ntmps25
      have hcells := HD.out.cells
      obtain ⟨c0, c1, z0, z1⟩ := hcells
      have hst := prgK_stepE (by have := HD.out.qB; omega) HD.out.mem (by omega) HNUM.out HD.out.rep HE.out
      rw [HLV.out] at hst
      have e0 : fnK true = 21 := rfl
      rw [e0] at hst
      clear e0
      go_wp2_with fail
      ((with_reducible refine hst.mono ?_); rintro e w2 ⟨rfl, R2, F2, O2⟩)
      have HD2 := Lib.hid (HD.out.step hp hb R2 F2 O2)
      clear R2 F2 O2 hst c0 c1 z0 z1 HD
      have hcells := HD2.out.cells
      obtain ⟨c0, c1, z0, z1⟩ := hcells
      by_cases hz : o2.ln = 0
      · have hzb : (o2.ln == 0) = true := beq_iff_eq.2 hz
        have HZ := Lib.hid hz
        clear hz
        have HD3 := Lib.hid (HD2.out.set1 hB (.pointer none) (a := ⟨K, 1, none⟩) rfl)
        go_wp2_with fail
        ((try simp only [Exit.inBlock, Exit.then]); first | go_end0 | refine bodyPost_ret (results_none rfl _ _ _) rfl ?_)
        exact ⟨rfl, HD3.out.acted (pM_no HZ.out).symm (pS_no HZ.out).symm rfl (by have := HST2.out; omega)⟩
      · have hzb : (o2.ln == 0) = false := beq_eq_false_iff_ne.2 hz
        have HZ := Lib.hid hz
        clear hz
        go_wp2_with fail
        ((try simp only [Exit.inBlock, Exit.then]); first | go_end0 | refine bodyPost_ret (results_none rfl _ _ _) rfl ?_)
        exact ⟨rfl, HD2.out.acted (by rw [pM_not HLV2.out]) (by rw [pS_yes HZ.out HLV2.out]) rfl (by have := HST2.out; omega)⟩
end
end Go.Proofs.YtffkjdmpeeagoaaDoor
