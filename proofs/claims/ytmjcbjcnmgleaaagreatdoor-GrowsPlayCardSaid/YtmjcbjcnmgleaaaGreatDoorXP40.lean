/-
  Package grows; conditions as each theorem says.
-/
import Derived.Test.YtmjcbjcnmgleaaaGreatDoorXP38
import Derived.Test.YtmjcbjcnmgleaaaGreatDoorXP15
import Derived.Deep.RegionLaw
namespace Go.Proofs.YtmjcbjcnmgleaaaGreatDoor
open Go.RowKit Go.Maps
section
variable {B p b q r : Nat} {E : List Nat} {T : TypeId} {nx n sg sl ws en sg' sl' ws' en' lk y : Int} {pt pt' kv : Value} {tl tl' cs : List Value} {xs : List Int} {M M' : MV} {o : OS} {R P : World → Prop} {w w' X Y : World}
theorem eight_no {x : Int} (h : x ≠ 8) : (x == 8) = false := beq_eq_false_iff_ne.2 h
theorem look_all (_hq : 1 < q) (hT : T ≠ 121) (k : Bq q T (SC nx pt sg sl ws en lk kv) w) (F : VX p b M w) (hs : M.s.st < 1000000) (h : 0 ≤ sg ∧ sg < 32) (hc : M.V (adP sg) = 8) :
    Calls Tryz.prog 75 #[.pointer (some ⟨q, 0, none⟩), .pointer (some ⟨p, 0, none⟩)] w fun e w' => e = .returned (.int .i64 4) ∧ Ln p b q T (SC nx pt sg sl ws en lk kv) (ldM M (adP sg)) w w' := by
  obtain ⟨c0, c1, c2, c3, c4, c5, c6, c7, z⟩ := k.sc
  have HK := Lib.hid k
  have HF := Lib.hid F
  have hne := F.ne hT k
  have hb : (M.V (adP sg) == 8) = true := by simp [hc]
  have HC := Lib.hid hc
  clear hc
  clear k F z
  go_enter Tryz.func75, Tryz.ntmps75
  go_wp2_with fail
  ((with_reducible refine (segWord_any sg 1 _).mono ?_); rintro ee w1 ⟨rfl, hb1⟩)
  have HK1 := Lib.hid (HK.out.below hb1)
  have HF1 := Lib.hid (HF.out.below hb1)
  have HO1 := Lib.hid (Onl.of_below (p := p) (b := b) (E := [q]) hb1)
  go_wp2_with fail
  ((with_reducible refine (load_P HF1.out hs h).mono ?_); rintro ee w2 ⟨rfl, F2, h2⟩)
  have HL := Lib.hid (Ln.load HK1.out F2 hne h2)
  clear F2 h2 hb1 c0 c1 c2 c3 c4 c5 c6 c7
  obtain ⟨c0, c1, c2, c3, c4, c5, c6, c7, z⟩ := Bq.sc HL.out.k
  have z6 := z 6
  clear z
  go_wp2_with fail
  go_ret
  exact ⟨rfl, HL.out.k, HL.out.f, HO1.out.trans HL.out.o⟩
theorem look_none (_hq : 1 < q) (hT : T ≠ 121) (k : Bq q T (SC nx pt sg sl ws en lk kv) w) (F : VX p b M w) (hs : M.s.st < 1000000) (h : 0 ≤ sg ∧ sg < 32) (hc : M.V (adP sg) ≠ 8) (hl : lk ≤ 0) :
    Calls Tryz.prog 75 #[.pointer (some ⟨q, 0, none⟩), .pointer (some ⟨p, 0, none⟩)] w fun e w' => e = .returned (.int .i64 6) ∧ Ln p b q T (SC nx pt sg sl ws en lk kv) (ldM M (adP sg)) w w' := by
  obtain ⟨c0, c1, c2, c3, c4, c5, c6, c7, z⟩ := k.sc
  have HK := Lib.hid k
  have HF := Lib.hid F
  have hne := F.ne hT k
  have hb := eight_no hc
  have HC := Lib.hid hc
  clear hc
  clear k F z
  go_enter Tryz.func75, Tryz.ntmps75
  go_wp2_with fail
  ((with_reducible refine (segWord_any sg 1 _).mono ?_); rintro ee w1 ⟨rfl, hb1⟩)
  have HK1 := Lib.hid (HK.out.below hb1)
  have HF1 := Lib.hid (HF.out.below hb1)
  have HO1 := Lib.hid (Onl.of_below (p := p) (b := b) (E := [q]) hb1)
  go_wp2_with fail
  ((with_reducible refine (load_P HF1.out hs h).mono ?_); rintro ee w2 ⟨rfl, F2, h2⟩)
  have HL := Lib.hid (Ln.load HK1.out F2 hne h2)
  clear F2 h2 hb1 c0 c1 c2 c3 c4 c5 c6 c7
  obtain ⟨c0, c1, c2, c3, c4, c5, c6, c7, z⟩ := Bq.sc HL.out.k
  have z6 := z 6
  clear z
  go_wp2_with fail
  go_ret
  exact ⟨rfl, HL.out.k, HL.out.f, HO1.out.trans HL.out.o⟩
theorem look_go (hq : 1 < q) (hT : T ≠ 121) (k : Bq q T (SC nx pt sg sl ws en lk kv) w) (F : VX p b M w) (hs : M.s.st < 1000000) (h : 0 ≤ sg ∧ sg < 32) (hc : M.V (adP sg) ≠ 8) (hl : 0 < lk) (hl2 : lk < 9223372036854775808) :
    Calls Tryz.prog 75 #[.pointer (some ⟨q, 0, none⟩), .pointer (some ⟨p, 0, none⟩)] w fun e w' => e = .returned (.int .i64 5) ∧ ∃ r, w.heap.size ≤ r ∧ Bq r 210 [.int .i64 1, .int .u64 0, .int .i64 0] w' ∧ Ln p b q T (SC nx (.iface 164 (.pointer (some ⟨r, 0, none⟩))) sg sl ws en (lk - 1) kv) (ldM M (adP sg)) w w' := by
  obtain ⟨c0, c1, c2, c3, c4, c5, c6, c7, z⟩ := k.sc
  have HK := Lib.hid k
  have HF := Lib.hid F
  have hne := F.ne hT k
  have hb := eight_no hc
  have HC := Lib.hid hc
  clear hc
  have e1 : IntKind.i64.wrap (lk - 1) = lk - 1 := by rw [IntKind.wrap_i64]; omega
  have hl0 : ¬ lk ≤ 0 := by omega
  clear k F z
  go_enter Tryz.func75, Tryz.ntmps75
  go_wp2_with fail
  ((with_reducible refine (segWord_any sg 1 _).mono ?_); rintro ee w1 ⟨rfl, hb1⟩)
  have HK1 := Lib.hid (HK.out.below hb1)
  have HF1 := Lib.hid (HF.out.below hb1)
  have HO1 := Lib.hid (Onl.of_below (p := p) (b := b) (E := [q]) hb1)
  go_wp2_with fail
  ((with_reducible refine (load_P HF1.out hs h).mono ?_); rintro ee w2 ⟨rfl, F2, h2⟩)
  have HL := Lib.hid (Ln.load HK1.out F2 hne h2)
  clear F2 h2 hb1 c0 c1 c2 c3 c4 c5 c6 c7
  obtain ⟨c0, c1, c2, c3, c4, c5, c6, c7, z⟩ := Bq.sc HL.out.k
  have z6 := z 6
  clear z
  have HS := Lib.hid (HL.out.set hT hq 6 (.int .i64 (lk - 1)) (cs' := SC nx pt sg sl ws en (lk - 1) kv) rfl)
  go_wp2_with fail
  ((with_reducible refine (seek_any HS.out.k).mono ?_); rintro ee w9 ⟨rfl, r, g1, kr, kq, ho⟩)
  have HP := Lib.hid (HS.out.stay hT hq kq ho)
  have HR := Lib.hid kr
  have hw : w.heap.size ≤ r := Nat.le_trans (Nat.le_trans HO1.out.size HS.out.o.size) g1
  clear g1 kr kq ho
  go_wp2_with fail
  go_ret
  exact ⟨rfl, r, hw, HR.out, HP.out.k, HP.out.f, HO1.out.trans HP.out.o⟩
theorem ta9_Pop_Pop (v : Value) (w : World) : (Instr.typeAssert (.iface 164 v) 55 164 true).run Tryz.prog w = .ok (.tuple #[v, .bool true]) w := by kernel_rfl
theorem ta9_Push_Pop (v : Value) (w : World) : (Instr.typeAssert (.iface 152 v) 55 164 true).run Tryz.prog w = .ok (.tuple #[.pointer none, .bool false]) w := by kernel_rfl
theorem ta9_Push_Push (v : Value) (w : World) : (Instr.typeAssert (.iface 152 v) 55 152 true).run Tryz.prog w = .ok (.tuple #[v, .bool true]) w := by kernel_rfl
theorem ta9_Park_Pop (v : Value) (w : World) : (Instr.typeAssert (.iface 214 v) 55 164 true).run Tryz.prog w = .ok (.tuple #[.pointer none, .bool false]) w := by kernel_rfl
theorem ta9_Park_Push (v : Value) (w : World) : (Instr.typeAssert (.iface 214 v) 55 152 true).run Tryz.prog w = .ok (.tuple #[.pointer none, .bool false]) w := by kernel_rfl
theorem run_no {f : FuncId} {tP : TypeId} (he : ∀ args X, (callFunc f args).run Tryz.prog X = .ok (.enter f args) X) (hm : ∀ X, (method (409) tP (.pointer (some ⟨r, 0, none⟩)) "Step").run Tryz.prog X = .ok (f, .pointer (some ⟨r, 0, none⟩)) X) (k : Bq q T (SC nx (.iface tP (.pointer (some ⟨r, 0, none⟩))) sg sl ws en lk kv) w)
    (hs : Calls Tryz.prog f #[.pointer (some ⟨r, 0, none⟩), .pointer (some ⟨p, 0, none⟩)] w fun e w1 => e = .returned (.bool false) ∧ R w1) :
    Calls Tryz.prog 76 #[.pointer (some ⟨q, 0, none⟩), .pointer (some ⟨p, 0, none⟩)] w fun e w' => e = .returned (.int .i64 5) ∧ R w' := by
  obtain ⟨c0, c1, c2, c3, c4, c5, c6, c7, z⟩ := k.sc
  have HS := Lib.hid hs
  clear k z hs
  go_enter Tryz.func76, Tryz.ntmps76
  go_wp2_with fail
  ((with_reducible refine HS.out.mono ?_); rintro ee w1 ⟨rfl, h1⟩)
  go_wp2_with fail
  go_ret
  exact ⟨rfl, h1⟩
set_option maxRecDepth 100000 in
set_option maxHeartbeats 4000000 in
theorem run_Park {f : FuncId} {tP : TypeId} (htP : tP = 214) (he : ∀ args X, (callFunc f args).run Tryz.prog X = .ok (.enter f args) X) (hm : ∀ X, (method (409) tP (.pointer (some ⟨r, 0, none⟩)) "Step").run Tryz.prog X = .ok (f, .pointer (some ⟨r, 0, none⟩)) X) (k : Bq q T (SC nx (.iface tP (.pointer (some ⟨r, 0, none⟩))) sg sl ws en lk kv) w)
    (hs : Calls Tryz.prog f #[.pointer (some ⟨r, 0, none⟩), .pointer (some ⟨p, 0, none⟩)] w fun e w1 => e = .returned (.bool true) ∧ R w1) (hR : ∀ X, R X → Bq q T (SC nx (.iface tP (.pointer (some ⟨r, 0, none⟩))) sg sl ws en lk kv) X)
    (hn : ∀ X, R X → Calls Tryz.prog 109 #[.pointer (some ⟨q, 0, none⟩)] X fun e w' => e = .returned (.int .i64 n) ∧ P w') :
    Calls Tryz.prog 76 #[.pointer (some ⟨q, 0, none⟩), .pointer (some ⟨p, 0, none⟩)] w fun e w' => e = .returned (.int .i64 n) ∧ P w' := by
  obtain ⟨c0, c1, c2, c3, c4, c5, c6, c7, z⟩ := k.sc
  have hta0 : ∀ v X, (Instr.typeAssert (.iface tP v) 55 164 true).run Tryz.prog X = .ok (.tuple #[.pointer none, .bool false]) X := by rw [htP]; exact ta9_Park_Pop
  have hta1 : ∀ v X, (Instr.typeAssert (.iface tP v) 55 152 true).run Tryz.prog X = .ok (.tuple #[.pointer none, .bool false]) X := by rw [htP]; exact ta9_Park_Push
  have HS := Lib.hid hs
  have HR := Lib.hid hR
  have HN := Lib.hid hn
  clear k z hs hR hn htP
  go_enter Tryz.func76, Tryz.ntmps76
  go_wp2_with fail
  ((with_reducible refine HS.out.mono ?_); rintro ee w1 ⟨rfl, h1⟩)
  clear c0 c1 c2 c3 c4 c5 c6 c7
  obtain ⟨c0, c1, c2, c3, c4, c5, c6, c7, z⟩ := (HR.out _ h1).sc
  have H1 := Lib.hid h1
  have z7 := z 7
  clear z h1
  go_wp2_with fail
  ((with_reducible refine (HN.out _ H1.out).mono ?_); rintro ee w9 ⟨rfl, h9⟩)
  go_wp2_with fail
  go_ret
  exact ⟨rfl, h9⟩
set_option maxRecDepth 100000 in
set_option maxHeartbeats 4000000 in
theorem run_Pop {f : FuncId} {tP : TypeId} (htP : tP = 164) (he : ∀ args X, (callFunc f args).run Tryz.prog X = .ok (.enter f args) X) (hm : ∀ X, (method (409) tP (.pointer (some ⟨r, 0, none⟩)) "Step").run Tryz.prog X = .ok (f, .pointer (some ⟨r, 0, none⟩)) X) (k : Bq q T (SC nx (.iface tP (.pointer (some ⟨r, 0, none⟩))) sg sl ws en lk kv) w)
    (hs : Calls Tryz.prog f #[.pointer (some ⟨r, 0, none⟩), .pointer (some ⟨p, 0, none⟩)] w fun e w1 => e = .returned (.bool true) ∧ R w1) (hR : ∀ X, R X → Bq q T (SC nx (.iface tP (.pointer (some ⟨r, 0, none⟩))) sg sl ws en lk kv) X)
    {ok : Bool} (hg : ∀ X, R X → Calls Tryz.prog 111 #[.pointer (some ⟨r, 0, none⟩)] X fun e X' => e = .returned (.tuple #[.int .i64 y, .bool ok]) ∧ Below X.heap.size X X')
    (hn : ∀ X Y, R X → Below X.heap.size X Y → Calls Tryz.prog 110 #[.pointer (some ⟨q, 0, none⟩), .int .i64 y, .bool ok] Y fun e w' => e = .returned (.int .i64 n) ∧ P w') :
    Calls Tryz.prog 76 #[.pointer (some ⟨q, 0, none⟩), .pointer (some ⟨p, 0, none⟩)] w fun e w' => e = .returned (.int .i64 n) ∧ P w' := by
  obtain ⟨c0, c1, c2, c3, c4, c5, c6, c7, z⟩ := k.sc
  have hta0 : ∀ v X, (Instr.typeAssert (.iface tP v) 55 164 true).run Tryz.prog X = .ok (.tuple #[v, .bool true]) X := by rw [htP]; exact ta9_Pop_Pop
  have HS := Lib.hid hs
  have HR := Lib.hid hR
  have HN := Lib.hid hn
  have HG := Lib.hid hg
  clear hg
  clear k z hs hR hn htP
  go_enter Tryz.func76, Tryz.ntmps76
  go_wp2_with fail
  ((with_reducible refine HS.out.mono ?_); rintro ee w1 ⟨rfl, h1⟩)
  clear c0 c1 c2 c3 c4 c5 c6 c7
  obtain ⟨c0, c1, c2, c3, c4, c5, c6, c7, z⟩ := (HR.out _ h1).sc
  have H1 := Lib.hid h1
  have z7 := z 7
  clear z h1
  go_wp2_with fail
  ((with_reducible refine (HG.out _ H1.out).mono ?_); rintro ee w2 ⟨rfl, hb2⟩)
  have HB2 := Lib.hid hb2
  clear hb2
  go_wp2_with fail
  ((with_reducible refine (HN.out _ _ H1.out HB2.out).mono ?_); rintro ee w9 ⟨rfl, h9⟩)
  go_wp2_with fail
  go_ret
  exact ⟨rfl, h9⟩
set_option maxRecDepth 100000 in
set_option maxHeartbeats 4000000 in
theorem run_Push {f : FuncId} {tP : TypeId} (htP : tP = 152) (he : ∀ args X, (callFunc f args).run Tryz.prog X = .ok (.enter f args) X) (hm : ∀ X, (method (409) tP (.pointer (some ⟨r, 0, none⟩)) "Step").run Tryz.prog X = .ok (f, .pointer (some ⟨r, 0, none⟩)) X) (k : Bq q T (SC nx (.iface tP (.pointer (some ⟨r, 0, none⟩))) sg sl ws en lk kv) w)
    (hs : Calls Tryz.prog f #[.pointer (some ⟨r, 0, none⟩), .pointer (some ⟨p, 0, none⟩)] w fun e w1 => e = .returned (.bool true) ∧ R w1) (hR : ∀ X, R X → Bq q T (SC nx (.iface tP (.pointer (some ⟨r, 0, none⟩))) sg sl ws en lk kv) X)
    {ad : Option Addr} {nn cap : Nat} (hkv : kv = .slice ad (nn + 1) cap) (hcap : nn + 1 ≤ cap) (hnn : nn < 1000) (hn : ∀ X Y, R X → Below (X.setCell ⟨q, 7, none⟩ (.slice ad nn cap)).heap.size (X.setCell ⟨q, 7, none⟩ (.slice ad nn cap)) Y → Calls Tryz.prog 112 #[.pointer (some ⟨q, 0, none⟩)] Y fun e w' => e = .returned (.int .i64 n) ∧ P w') :
    Calls Tryz.prog 76 #[.pointer (some ⟨q, 0, none⟩), .pointer (some ⟨p, 0, none⟩)] w fun e w' => e = .returned (.int .i64 n) ∧ P w' := by
  obtain ⟨c0, c1, c2, c3, c4, c5, c6, c7, z⟩ := k.sc
  have hta0 : ∀ v X, (Instr.typeAssert (.iface tP v) 55 164 true).run Tryz.prog X = .ok (.tuple #[.pointer none, .bool false]) X := by rw [htP]; exact ta9_Push_Pop
  have hta1 : ∀ v X, (Instr.typeAssert (.iface tP v) 55 152 true).run Tryz.prog X = .ok (.tuple #[v, .bool true]) X := by rw [htP]; exact ta9_Push_Push
  have HS := Lib.hid hs
  have HR := Lib.hid hR
  have HN := Lib.hid hn
  clear k z hs hR hn htP
  go_enter Tryz.func76, Tryz.ntmps76
  go_wp2_with fail
  ((with_reducible refine HS.out.mono ?_); rintro ee w1 ⟨rfl, h1⟩)
  clear c0 c1 c2 c3 c4 c5 c6 c7
  obtain ⟨c0, c1, c2, c3, c4, c5, c6, c7, z⟩ := (HR.out _ h1).sc
  have H1 := Lib.hid h1
  have z7 := z 7
  clear z h1
  subst hkv
  have hq0 : (0 : Int) ≤ (nn : Int) := by omega
  have hq1 : (nn : Int) ≤ (nn : Int) + 1 := by omega
  have hq2 : IntKind.i64.wrap (nn : Int) = (nn : Int) := by
    simp [IntKind.wrap, IntKind.bits, IntKind.signed]
    omega
  have hcap2 : nn ≤ cap := by omega
  clear hnn hcap
  go_wp2_with fail
  go_region_law (fail)
  all_goals
    go_wp2_with fail
    ((with_reducible refine (HN.out _ _ H1.out (Below.refl _ _).drew).mono ?_); rintro ee w9 ⟨rfl, h9⟩)
    go_wp2_with fail
    go_ret
    exact ⟨rfl, h9⟩
theorem gShrink_ask (k : Bq q 63 (TC 1 pt sg sl ws en tl) w)
    (hs : Calls Tryz.prog 73 #[.pointer (some ⟨q, 0, none⟩), .pointer (some ⟨p, 0, none⟩), .int .u64 1, .int .u64 0, .int .i64 6] w fun e w1 => e = .returned (.int .i64 n) ∧ R w1) (hR : ∀ X, R X → ∃ nx pt' sg' sl' ws' en' tl', Bq q 63 (TC nx pt' sg' sl' ws' en' tl') X) :
    Calls Tryz.prog 35 #[.pointer (some ⟨q, 0, none⟩), .pointer (some ⟨p, 0, none⟩)] w fun e w' => e = .returned (.bool (n == 0)) ∧ ∃ w1, R w1 ∧ w' = w1.setCell ⟨q, 0, none⟩ (.int .i64 n) := by
  obtain ⟨c0, c1, c2, c3, c4, c5, z⟩ := k.tc
  have HK := Lib.hid k
  have HS := Lib.hid hs
  have HRR := Lib.hid hR
  clear k hs z hR
  go_enter Tryz.func35, Tryz.ntmps35
  go_wp2_with fail
  ((with_reducible refine (overShrink HK.out).mono ?_); rintro ee w1 ⟨rfl, rfl⟩)
  go_wp2_with fail
  ((with_reducible refine HS.out.mono ?_); rintro ee w2 ⟨rfl, h2⟩)
  obtain ⟨nx, pt', sg', sl', ws', en', tl', k2⟩ := HRR.out _ h2
  have z0 := k2.free 0
  have c0' := k2.cell 0
  have HR := Lib.hid h2
  have HK3 := Lib.hid (k2.set 0 (.int .i64 n) (cs' := TC n pt' sg' sl' ws' en' tl') rfl)
  clear k2 h2 c0 c1 c2 c3 c4 c5
  simp only [TC, List.getElem?_cons_zero] at c0'
  go_wp2_with fail
  ((with_reducible refine (tOver HK3.out).mono ?_); rintro ee w4 ⟨rfl, rfl⟩)
  go_wp2_with fail
  go_ret
  exact ⟨rfl, w2, HR.out, rfl⟩
theorem gShrink_begin (k : Bq q 63 (TC 2 pt sg sl ws en tl) w)
    (hs : Calls Tryz.prog 74 #[.pointer (some ⟨q, 0, none⟩), .pointer (some ⟨p, 0, none⟩), .int .u64 1, .int .u64 2, .int .i64 3] w fun e w1 => e = .returned (.int .i64 n) ∧ R w1) (hR : ∀ X, R X → ∃ nx pt' sg' sl' ws' en' tl', Bq q 63 (TC nx pt' sg' sl' ws' en' tl') X) :
    Calls Tryz.prog 35 #[.pointer (some ⟨q, 0, none⟩), .pointer (some ⟨p, 0, none⟩)] w fun e w' => e = .returned (.bool (n == 0)) ∧ ∃ w1, R w1 ∧ w' = w1.setCell ⟨q, 0, none⟩ (.int .i64 n) := by
  obtain ⟨c0, c1, c2, c3, c4, c5, z⟩ := k.tc
  have HK := Lib.hid k
  have HS := Lib.hid hs
  have HRR := Lib.hid hR
  clear k hs z hR
  go_enter Tryz.func35, Tryz.ntmps35
  go_wp2_with fail
  ((with_reducible refine (overShrink HK.out).mono ?_); rintro ee w1 ⟨rfl, rfl⟩)
  go_wp2_with fail
  ((with_reducible refine HS.out.mono ?_); rintro ee w2 ⟨rfl, h2⟩)
  obtain ⟨nx, pt', sg', sl', ws', en', tl', k2⟩ := HRR.out _ h2
  have z0 := k2.free 0
  have c0' := k2.cell 0
  have HR := Lib.hid h2
  have HK3 := Lib.hid (k2.set 0 (.int .i64 n) (cs' := TC n pt' sg' sl' ws' en' tl') rfl)
  clear k2 h2 c0 c1 c2 c3 c4 c5
  simp only [TC, List.getElem?_cons_zero] at c0'
  go_wp2_with fail
  ((with_reducible refine (tOver HK3.out).mono ?_); rintro ee w4 ⟨rfl, rfl⟩)
  go_wp2_with fail
  go_ret
  exact ⟨rfl, w2, HR.out, rfl⟩
theorem gShrink_look (k : Bq q 63 (TC 3 pt sg sl ws en tl) w)
    (hs : Calls Tryz.prog 75 #[.pointer (some ⟨q, 0, none⟩), .pointer (some ⟨p, 0, none⟩)] w fun e w1 => e = .returned (.int .i64 n) ∧ R w1) (hR : ∀ X, R X → ∃ nx pt' sg' sl' ws' en' tl', Bq q 63 (TC nx pt' sg' sl' ws' en' tl') X) :
    Calls Tryz.prog 35 #[.pointer (some ⟨q, 0, none⟩), .pointer (some ⟨p, 0, none⟩)] w fun e w' => e = .returned (.bool (n == 0)) ∧ ∃ w1, R w1 ∧ w' = w1.setCell ⟨q, 0, none⟩ (.int .i64 n) := by
  obtain ⟨c0, c1, c2, c3, c4, c5, z⟩ := k.tc
  have HK := Lib.hid k
  have HS := Lib.hid hs
  have HRR := Lib.hid hR
  clear k hs z hR
  go_enter Tryz.func35, Tryz.ntmps35
  go_wp2_with fail
  ((with_reducible refine (overShrink HK.out).mono ?_); rintro ee w1 ⟨rfl, rfl⟩)
  go_wp2_with fail
  ((with_reducible refine HS.out.mono ?_); rintro ee w2 ⟨rfl, h2⟩)
  obtain ⟨nx, pt', sg', sl', ws', en', tl', k2⟩ := HRR.out _ h2
  have z0 := k2.free 0
  have c0' := k2.cell 0
  have HR := Lib.hid h2
  have HK3 := Lib.hid (k2.set 0 (.int .i64 n) (cs' := TC n pt' sg' sl' ws' en' tl') rfl)
  clear k2 h2 c0 c1 c2 c3 c4 c5
  simp only [TC, List.getElem?_cons_zero] at c0'
  go_wp2_with fail
  ((with_reducible refine (tOver HK3.out).mono ?_); rintro ee w4 ⟨rfl, rfl⟩)
  go_wp2_with fail
  go_ret
  exact ⟨rfl, w2, HR.out, rfl⟩
theorem gShrink_unmap (k : Bq q 63 (TC 4 pt sg sl ws en tl) w)
    (hs : Calls Tryz.prog 74 #[.pointer (some ⟨q, 0, none⟩), .pointer (some ⟨p, 0, none⟩), .int .u64 2, .int .u64 0, .int .i64 0] w fun e w1 => e = .returned (.int .i64 n) ∧ R w1) (hR : ∀ X, R X → ∃ nx pt' sg' sl' ws' en' tl', Bq q 63 (TC nx pt' sg' sl' ws' en' tl') X) :
    Calls Tryz.prog 35 #[.pointer (some ⟨q, 0, none⟩), .pointer (some ⟨p, 0, none⟩)] w fun e w' => e = .returned (.bool (n == 0)) ∧ ∃ w1, R w1 ∧ w' = w1.setCell ⟨q, 0, none⟩ (.int .i64 n) := by
  obtain ⟨c0, c1, c2, c3, c4, c5, z⟩ := k.tc
  have HK := Lib.hid k
  have HS := Lib.hid hs
  have HRR := Lib.hid hR
  clear k hs z hR
  go_enter Tryz.func35, Tryz.ntmps35
  go_wp2_with fail
  ((with_reducible refine (overShrink HK.out).mono ?_); rintro ee w1 ⟨rfl, rfl⟩)
  go_wp2_with fail
  ((with_reducible refine HS.out.mono ?_); rintro ee w2 ⟨rfl, h2⟩)
  obtain ⟨nx, pt', sg', sl', ws', en', tl', k2⟩ := HRR.out _ h2
  have z0 := k2.free 0
  have c0' := k2.cell 0
  have HR := Lib.hid h2
  have HK3 := Lib.hid (k2.set 0 (.int .i64 n) (cs' := TC n pt' sg' sl' ws' en' tl') rfl)
  clear k2 h2 c0 c1 c2 c3 c4 c5
  simp only [TC, List.getElem?_cons_zero] at c0'
  go_wp2_with fail
  ((with_reducible refine (tOver HK3.out).mono ?_); rintro ee w4 ⟨rfl, rfl⟩)
  go_wp2_with fail
  go_ret
  exact ⟨rfl, w2, HR.out, rfl⟩
theorem gShrink_run (k : Bq q 63 (TC 5 pt sg sl ws en tl) w)
    (hs : Calls Tryz.prog 76 #[.pointer (some ⟨q, 0, none⟩), .pointer (some ⟨p, 0, none⟩)] w fun e w1 => e = .returned (.int .i64 n) ∧ R w1) (hR : ∀ X, R X → ∃ nx pt' sg' sl' ws' en' tl', Bq q 63 (TC nx pt' sg' sl' ws' en' tl') X) :
    Calls Tryz.prog 35 #[.pointer (some ⟨q, 0, none⟩), .pointer (some ⟨p, 0, none⟩)] w fun e w' => e = .returned (.bool (n == 0)) ∧ ∃ w1, R w1 ∧ w' = w1.setCell ⟨q, 0, none⟩ (.int .i64 n) := by
  obtain ⟨c0, c1, c2, c3, c4, c5, z⟩ := k.tc
  have HK := Lib.hid k
  have HS := Lib.hid hs
  have HRR := Lib.hid hR
  clear k hs z hR
  go_enter Tryz.func35, Tryz.ntmps35
  go_wp2_with fail
  ((with_reducible refine (overShrink HK.out).mono ?_); rintro ee w1 ⟨rfl, rfl⟩)
  go_wp2_with fail
  ((with_reducible refine HS.out.mono ?_); rintro ee w2 ⟨rfl, h2⟩)
  obtain ⟨nx, pt', sg', sl', ws', en', tl', k2⟩ := HRR.out _ h2
  have z0 := k2.free 0
  have c0' := k2.cell 0
  have HR := Lib.hid h2
  have HK3 := Lib.hid (k2.set 0 (.int .i64 n) (cs' := TC n pt' sg' sl' ws' en' tl') rfl)
  clear k2 h2 c0 c1 c2 c3 c4 c5
  simp only [TC, List.getElem?_cons_zero] at c0'
  go_wp2_with fail
  ((with_reducible refine (tOver HK3.out).mono ?_); rintro ee w4 ⟨rfl, rfl⟩)
  go_wp2_with fail
  go_ret
  exact ⟨rfl, w2, HR.out, rfl⟩
theorem gShrink_remap (k : Bq q 63 (TC 6 pt sg sl ws en tl) w)
    (hs : Calls Tryz.prog 74 #[.pointer (some ⟨q, 0, none⟩), .pointer (some ⟨p, 0, none⟩), .int .u64 2, .int .u64 1, .int .i64 7] (w.setCell ⟨q, 5, none⟩ (.int .i64 9)) fun e w1 => e = .returned (.int .i64 n) ∧ R w1) (hR : ∀ X, R X → ∃ nx pt' sg' sl' ws' en' tl', Bq q 63 (TC nx pt' sg' sl' ws' en' tl') X) :
    Calls Tryz.prog 35 #[.pointer (some ⟨q, 0, none⟩), .pointer (some ⟨p, 0, none⟩)] w fun e w' => e = .returned (.bool (n == 0)) ∧ ∃ w1, R w1 ∧ w' = w1.setCell ⟨q, 0, none⟩ (.int .i64 n) := by
  obtain ⟨c0, c1, c2, c3, c4, c5, z⟩ := k.tc
  have HK := Lib.hid k
  have HS := Lib.hid hs
  have HRR := Lib.hid hR
  have z5 := z 5
  clear k hs z hR
  go_enter Tryz.func35, Tryz.ntmps35
  go_wp2_with fail
  ((with_reducible refine (overShrink HK.out).mono ?_); rintro ee w1 ⟨rfl, rfl⟩)
  go_wp2_with fail
  ((with_reducible refine HS.out.mono ?_); rintro ee w2 ⟨rfl, h2⟩)
  obtain ⟨nx, pt', sg', sl', ws', en', tl', k2⟩ := HRR.out _ h2
  have z0 := k2.free 0
  have c0' := k2.cell 0
  have HR := Lib.hid h2
  have HK3 := Lib.hid (k2.set 0 (.int .i64 n) (cs' := TC n pt' sg' sl' ws' en' tl') rfl)
  clear k2 h2 c0 c1 c2 c3 c4 c5
  simp only [TC, List.getElem?_cons_zero] at c0'
  go_wp2_with fail
  ((with_reducible refine (tOver HK3.out).mono ?_); rintro ee w4 ⟨rfl, rfl⟩)
  go_wp2_with fail
  go_ret
  exact ⟨rfl, w2, HR.out, rfl⟩
theorem gShrink_turn7 (k : Bq q 63 (TC 7 pt sg sl ws en tl) w)
    (hs : Calls Tryz.prog 77 #[.pointer (some ⟨q, 0, none⟩), .pointer (some ⟨p, 0, none⟩)] w fun e w1 => e = .returned (.int .i64 n) ∧ R w1) (hR : ∀ X, R X → ∃ nx pt' sg' sl' ws' en' tl', Bq q 63 (TC nx pt' sg' sl' ws' en' tl') X) :
    Calls Tryz.prog 35 #[.pointer (some ⟨q, 0, none⟩), .pointer (some ⟨p, 0, none⟩)] w fun e w' => e = .returned (.bool (n == 0)) ∧ ∃ w1, R w1 ∧ w' = w1.setCell ⟨q, 0, none⟩ (.int .i64 n) := by
  obtain ⟨c0, c1, c2, c3, c4, c5, z⟩ := k.tc
  have HK := Lib.hid k
  have HS := Lib.hid hs
  have HRR := Lib.hid hR
  clear k hs z hR
  go_enter Tryz.func35, Tryz.ntmps35
  go_wp2_with fail
  ((with_reducible refine (overShrink HK.out).mono ?_); rintro ee w1 ⟨rfl, rfl⟩)
  go_wp2_with fail
  ((with_reducible refine HS.out.mono ?_); rintro ee w2 ⟨rfl, h2⟩)
  obtain ⟨nx, pt', sg', sl', ws', en', tl', k2⟩ := HRR.out _ h2
  have z0 := k2.free 0
  have c0' := k2.cell 0
  have HR := Lib.hid h2
  have HK3 := Lib.hid (k2.set 0 (.int .i64 n) (cs' := TC n pt' sg' sl' ws' en' tl') rfl)
  clear k2 h2 c0 c1 c2 c3 c4 c5
  simp only [TC, List.getElem?_cons_zero] at c0'
  go_wp2_with fail
  ((with_reducible refine (tOver HK3.out).mono ?_); rintro ee w4 ⟨rfl, rfl⟩)
  go_wp2_with fail
  go_ret
  exact ⟨rfl, w2, HR.out, rfl⟩
theorem gShrink_turn8 (k : Bq q 63 (TC 8 pt sg sl ws en tl) w)
    (hs : Calls Tryz.prog 77 #[.pointer (some ⟨q, 0, none⟩), .pointer (some ⟨p, 0, none⟩)] w fun e w1 => e = .returned (.int .i64 n) ∧ R w1) (hR : ∀ X, R X → ∃ nx pt' sg' sl' ws' en' tl', Bq q 63 (TC nx pt' sg' sl' ws' en' tl') X) :
    Calls Tryz.prog 35 #[.pointer (some ⟨q, 0, none⟩), .pointer (some ⟨p, 0, none⟩)] w fun e w' => e = .returned (.bool (n == 0)) ∧ ∃ w1, R w1 ∧ w' = w1.setCell ⟨q, 0, none⟩ (.int .i64 n) := by
  obtain ⟨c0, c1, c2, c3, c4, c5, z⟩ := k.tc
  have HK := Lib.hid k
  have HS := Lib.hid hs
  have HRR := Lib.hid hR
  clear k hs z hR
  go_enter Tryz.func35, Tryz.ntmps35
  go_wp2_with fail
  ((with_reducible refine (overShrink HK.out).mono ?_); rintro ee w1 ⟨rfl, rfl⟩)
  go_wp2_with fail
  ((with_reducible refine HS.out.mono ?_); rintro ee w2 ⟨rfl, h2⟩)
  obtain ⟨nx, pt', sg', sl', ws', en', tl', k2⟩ := HRR.out _ h2
  have z0 := k2.free 0
  have c0' := k2.cell 0
  have HR := Lib.hid h2
  have HK3 := Lib.hid (k2.set 0 (.int .i64 n) (cs' := TC n pt' sg' sl' ws' en' tl') rfl)
  clear k2 h2 c0 c1 c2 c3 c4 c5
  simp only [TC, List.getElem?_cons_zero] at c0'
  go_wp2_with fail
  ((with_reducible refine (tOver HK3.out).mono ?_); rintro ee w4 ⟨rfl, rfl⟩)
  go_wp2_with fail
  go_ret
  exact ⟨rfl, w2, HR.out, rfl⟩
theorem gShrink_turn9 (k : Bq q 63 (TC 9 pt sg sl ws en tl) w)
    (hs : Calls Tryz.prog 77 #[.pointer (some ⟨q, 0, none⟩), .pointer (some ⟨p, 0, none⟩)] w fun e w1 => e = .returned (.int .i64 n) ∧ R w1) (hR : ∀ X, R X → ∃ nx pt' sg' sl' ws' en' tl', Bq q 63 (TC nx pt' sg' sl' ws' en' tl') X) :
    Calls Tryz.prog 35 #[.pointer (some ⟨q, 0, none⟩), .pointer (some ⟨p, 0, none⟩)] w fun e w' => e = .returned (.bool (n == 0)) ∧ ∃ w1, R w1 ∧ w' = w1.setCell ⟨q, 0, none⟩ (.int .i64 n) := by
  obtain ⟨c0, c1, c2, c3, c4, c5, z⟩ := k.tc
  have HK := Lib.hid k
  have HS := Lib.hid hs
  have HRR := Lib.hid hR
  clear k hs z hR
  go_enter Tryz.func35, Tryz.ntmps35
  go_wp2_with fail
  ((with_reducible refine (overShrink HK.out).mono ?_); rintro ee w1 ⟨rfl, rfl⟩)
  go_wp2_with fail
  ((with_reducible refine HS.out.mono ?_); rintro ee w2 ⟨rfl, h2⟩)
  obtain ⟨nx, pt', sg', sl', ws', en', tl', k2⟩ := HRR.out _ h2
  have z0 := k2.free 0
  have c0' := k2.cell 0
  have HR := Lib.hid h2
  have HK3 := Lib.hid (k2.set 0 (.int .i64 n) (cs' := TC n pt' sg' sl' ws' en' tl') rfl)
  clear k2 h2 c0 c1 c2 c3 c4 c5
  simp only [TC, List.getElem?_cons_zero] at c0'
  go_wp2_with fail
  ((with_reducible refine (tOver HK3.out).mono ?_); rintro ee w4 ⟨rfl, rfl⟩)
  go_wp2_with fail
  go_ret
  exact ⟨rfl, w2, HR.out, rfl⟩
theorem gShrink_turn10 (k : Bq q 63 (TC 10 pt sg sl ws en tl) w)
    (hs : Calls Tryz.prog 77 #[.pointer (some ⟨q, 0, none⟩), .pointer (some ⟨p, 0, none⟩)] w fun e w1 => e = .returned (.int .i64 n) ∧ R w1) (hR : ∀ X, R X → ∃ nx pt' sg' sl' ws' en' tl', Bq q 63 (TC nx pt' sg' sl' ws' en' tl') X) :
    Calls Tryz.prog 35 #[.pointer (some ⟨q, 0, none⟩), .pointer (some ⟨p, 0, none⟩)] w fun e w' => e = .returned (.bool (n == 0)) ∧ ∃ w1, R w1 ∧ w' = w1.setCell ⟨q, 0, none⟩ (.int .i64 n) := by
  obtain ⟨c0, c1, c2, c3, c4, c5, z⟩ := k.tc
  have HK := Lib.hid k
  have HS := Lib.hid hs
  have HRR := Lib.hid hR
  clear k hs z hR
  go_enter Tryz.func35, Tryz.ntmps35
  go_wp2_with fail
  ((with_reducible refine (overShrink HK.out).mono ?_); rintro ee w1 ⟨rfl, rfl⟩)
  go_wp2_with fail
  ((with_reducible refine HS.out.mono ?_); rintro ee w2 ⟨rfl, h2⟩)
  obtain ⟨nx, pt', sg', sl', ws', en', tl', k2⟩ := HRR.out _ h2
  have z0 := k2.free 0
  have c0' := k2.cell 0
  have HR := Lib.hid h2
  have HK3 := Lib.hid (k2.set 0 (.int .i64 n) (cs' := TC n pt' sg' sl' ws' en' tl') rfl)
  clear k2 h2 c0 c1 c2 c3 c4 c5
  simp only [TC, List.getElem?_cons_zero] at c0'
  go_wp2_with fail
  ((with_reducible refine (tOver HK3.out).mono ?_); rintro ee w4 ⟨rfl, rfl⟩)
  go_wp2_with fail
  go_ret
  exact ⟨rfl, w2, HR.out, rfl⟩
theorem gShrink_turn11 (k : Bq q 63 (TC 11 pt sg sl ws en tl) w)
    (hs : Calls Tryz.prog 77 #[.pointer (some ⟨q, 0, none⟩), .pointer (some ⟨p, 0, none⟩)] w fun e w1 => e = .returned (.int .i64 n) ∧ R w1) (hR : ∀ X, R X → ∃ nx pt' sg' sl' ws' en' tl', Bq q 63 (TC nx pt' sg' sl' ws' en' tl') X) :
    Calls Tryz.prog 35 #[.pointer (some ⟨q, 0, none⟩), .pointer (some ⟨p, 0, none⟩)] w fun e w' => e = .returned (.bool (n == 0)) ∧ ∃ w1, R w1 ∧ w' = w1.setCell ⟨q, 0, none⟩ (.int .i64 n) := by
  obtain ⟨c0, c1, c2, c3, c4, c5, z⟩ := k.tc
  have HK := Lib.hid k
  have HS := Lib.hid hs
  have HRR := Lib.hid hR
  clear k hs z hR
  go_enter Tryz.func35, Tryz.ntmps35
  go_wp2_with fail
  ((with_reducible refine (overShrink HK.out).mono ?_); rintro ee w1 ⟨rfl, rfl⟩)
  go_wp2_with fail
  ((with_reducible refine HS.out.mono ?_); rintro ee w2 ⟨rfl, h2⟩)
  obtain ⟨nx, pt', sg', sl', ws', en', tl', k2⟩ := HRR.out _ h2
  have z0 := k2.free 0
  have c0' := k2.cell 0
  have HR := Lib.hid h2
  have HK3 := Lib.hid (k2.set 0 (.int .i64 n) (cs' := TC n pt' sg' sl' ws' en' tl') rfl)
  clear k2 h2 c0 c1 c2 c3 c4 c5
  simp only [TC, List.getElem?_cons_zero] at c0'
  go_wp2_with fail
  ((with_reducible refine (tOver HK3.out).mono ?_); rintro ee w4 ⟨rfl, rfl⟩)
  go_wp2_with fail
  go_ret
  exact ⟨rfl, w2, HR.out, rfl⟩
end
end Go.Proofs.YtmjcbjcnmgleaaaGreatDoor
