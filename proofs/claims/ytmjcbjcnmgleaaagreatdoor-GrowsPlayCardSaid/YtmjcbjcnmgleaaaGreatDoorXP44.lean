/-
  The document's Grow of layer 9, its lines; a step of either; condition: both memories say the same, the operation lies as it says, numbers of their kinds.
-/
import Derived.Test.YtmjcbjcnmgleaaaGreatDoorXP43
namespace Go.Proofs.YtmjcbjcnmgleaaaGreatDoor
open Go.RowKit Go.Maps
section
variable {B p m b n K c e n0 k1 : Nat} {sh : Bool} {ln er sg lk sl pw bh : Int} {pp pa pu : Option Addr} {kv : Value} {D : DataW Unit} {L : List (Ad × Int)} {M : MV} {w w' : World} {v : Int} {P : World → Prop}
set_option maxRecDepth 100000 in
set_option maxHeartbeats 4000000 in
theorem gr1_on (hBm : B ≤ m) (hc : c ≤ 4900) (S : Say p m b n D L c M w) (k : Bk K 108 (OpC false 1 er sg lk sl pw bh pp pa pu kv) w) (hBK : B ≤ K) (hg : 0 ≤ sg ∧ sg < 32) (hv : M.V (adG sg) = v) (_h1 : ¬ v = 1) (h0 : v = 0) :
    Calls Tryz.prog 34 #[.pointer (some ⟨K, 0, none⟩), .pointer (some ⟨b, 0, none⟩)] w (OdS B p m b n c D M.s K [K] (OpC false 2 er sg lk sl pw bh pp pa pu kv) (ldM M (adG sg)) w) := by
  have HA := Lib.hid (S.aftLd (adG sg))
  have HV := Lib.hid hv
  clear hv
  have hn := k.ne_pr S.pr (by decide) (by decide)
  have hBw : B ≤ w.heap.size := Nat.le_trans hBm S.pr.m_le
  have HS := Lib.hid S
  have HO1 := Lib.hid (OD.start (E := [K]) k S.pr hBw)
  obtain ⟨c0, c1, c2, c3, c4, c5, c6, c7, c8, c9, ca, cb, _⟩ := k.c12
  clear k S
  go_enter Tryz.func34, Tryz.ntmps34
  have z2 := HO1.out.k.free 1
  have HO2 := Lib.hid (HO1.out.set hBK (by simp) hn 1 (.int .i64 2) (cs' := OpC false 2 er sg lk sl pw bh pp pa pu kv) rfl)
  obtain ⟨e20, e21, e22, e23, e24, e25, e26, e27, e28, e29, e2a, e2b, _⟩ := HO2.out.k.c12
  go_wp2_with fail
  ((with_reducible refine (op_word HO2.out.k 0).mono ?_); rintro ee w3 ⟨rfl, hb3⟩)
  have HO3 := Lib.hid (HO2.out.below hBK hb3)
  clear hb3
  clear c0 c1 c2 c3 c4 c5 c6 c7 c8 c9 ca cb
  obtain ⟨c0, c1, c2, c3, c4, c5, c6, c7, c8, c9, ca, cb, _⟩ := HO3.out.k.c12
  go_wp2_with fail
  ((with_reducible refine (HS.out.ldG hc hg HV.out HO3.out.pr).mono ?_); rintro ee w4 ⟨rfl, P4, f4⟩)
  have HO4 := Lib.hid (HO3.out.fr hBm hn P4 f4)
  clear P4 f4
  clear c0 c1 c2 c3 c4 c5 c6 c7 c8 c9 ca cb
  obtain ⟨c0, c1, c2, c3, c4, c5, c6, c7, c8, c9, ca, cb, _⟩ := HO4.out.k.c12
  go_wp2_with fail
  ((try simp only [Exit.inBlock, Exit.then]); first | go_end0 | refine bodyPost_ret (results_none rfl _ _ _) rfl ?_)
  exact ⟨rfl, _, HA.out, HO4.out⟩
set_option maxRecDepth 100000 in
set_option maxHeartbeats 4000000 in
theorem gr1_same (hBm : B ≤ m) (hc : c ≤ 4900) (S : Say p m b n D L c M w) (k : Bk K 108 (OpC false 1 er sg lk sl pw bh pp pa pu kv) w) (hBK : B ≤ K) (hg : 0 ≤ sg ∧ sg < 32) (hv : M.V (adG sg) = v) (h1 : v = 1) :
    Calls Tryz.prog 34 #[.pointer (some ⟨K, 0, none⟩), .pointer (some ⟨b, 0, none⟩)] w (OdS B p m b n c D M.s K [K] (OpC false 0 8 sg lk sl pw bh pp pa pu kv) (ldM M (adG sg)) w) := by
  have HA := Lib.hid (S.aftLd (adG sg))
  have HV := Lib.hid hv
  clear hv
  have hn := k.ne_pr S.pr (by decide) (by decide)
  have hBw : B ≤ w.heap.size := Nat.le_trans hBm S.pr.m_le
  have HS := Lib.hid S
  have HO1 := Lib.hid (OD.start (E := [K]) k S.pr hBw)
  obtain ⟨c0, c1, c2, c3, c4, c5, c6, c7, c8, c9, ca, cb, _⟩ := k.c12
  clear k S
  go_enter Tryz.func34, Tryz.ntmps34
  have z2 := HO1.out.k.free 1
  have HO2 := Lib.hid (HO1.out.set hBK (by simp) hn 1 (.int .i64 2) (cs' := OpC false 2 er sg lk sl pw bh pp pa pu kv) rfl)
  obtain ⟨e20, e21, e22, e23, e24, e25, e26, e27, e28, e29, e2a, e2b, _⟩ := HO2.out.k.c12
  go_wp2_with fail
  ((with_reducible refine (op_word HO2.out.k 0).mono ?_); rintro ee w3 ⟨rfl, hb3⟩)
  have HO3 := Lib.hid (HO2.out.below hBK hb3)
  clear hb3
  clear c0 c1 c2 c3 c4 c5 c6 c7 c8 c9 ca cb
  obtain ⟨c0, c1, c2, c3, c4, c5, c6, c7, c8, c9, ca, cb, _⟩ := HO3.out.k.c12
  go_wp2_with fail
  ((with_reducible refine (HS.out.ldG hc hg HV.out HO3.out.pr).mono ?_); rintro ee w4 ⟨rfl, P4, f4⟩)
  have HO4 := Lib.hid (HO3.out.fr hBm hn P4 f4)
  clear P4 f4
  clear c0 c1 c2 c3 c4 c5 c6 c7 c8 c9 ca cb
  obtain ⟨c0, c1, c2, c3, c4, c5, c6, c7, c8, c9, ca, cb, _⟩ := HO4.out.k.c12
  go_wp2_with fail
  ((with_reducible refine (op_end HO4.out.k 8).mono ?_); rintro ee w9 ⟨rfl, k9, o9⟩)
  have HO9 := Lib.hid (HO4.out.only hBK (by simp) hn k9 o9)
  clear k9 o9
  go_wp2_with fail
  ((try simp only [Exit.inBlock, Exit.then]); first | go_end0 | refine bodyPost_ret (results_none rfl _ _ _) rfl ?_)
  exact ⟨rfl, _, HA.out, HO9.out⟩
set_option maxRecDepth 100000 in
set_option maxHeartbeats 4000000 in
theorem gr1_busy (hBm : B ≤ m) (hc : c ≤ 4900) (S : Say p m b n D L c M w) (k : Bk K 108 (OpC false 1 er sg lk sl pw bh pp pa pu kv) w) (hBK : B ≤ K) (hg : 0 ≤ sg ∧ sg < 32) (hv : M.V (adG sg) = v) (h1 : ¬ v = 1) (h0 : ¬ v = 0) :
    Calls Tryz.prog 34 #[.pointer (some ⟨K, 0, none⟩), .pointer (some ⟨b, 0, none⟩)] w (OdS B p m b n c D M.s K [K] (OpC false 0 7 sg lk sl pw bh pp pa pu kv) (ldM M (adG sg)) w) := by
  have HA := Lib.hid (S.aftLd (adG sg))
  have HV := Lib.hid hv
  clear hv
  have hn := k.ne_pr S.pr (by decide) (by decide)
  have hBw : B ≤ w.heap.size := Nat.le_trans hBm S.pr.m_le
  have HS := Lib.hid S
  have HO1 := Lib.hid (OD.start (E := [K]) k S.pr hBw)
  obtain ⟨c0, c1, c2, c3, c4, c5, c6, c7, c8, c9, ca, cb, _⟩ := k.c12
  clear k S
  go_enter Tryz.func34, Tryz.ntmps34
  have z2 := HO1.out.k.free 1
  have HO2 := Lib.hid (HO1.out.set hBK (by simp) hn 1 (.int .i64 2) (cs' := OpC false 2 er sg lk sl pw bh pp pa pu kv) rfl)
  obtain ⟨e20, e21, e22, e23, e24, e25, e26, e27, e28, e29, e2a, e2b, _⟩ := HO2.out.k.c12
  go_wp2_with fail
  ((with_reducible refine (op_word HO2.out.k 0).mono ?_); rintro ee w3 ⟨rfl, hb3⟩)
  have HO3 := Lib.hid (HO2.out.below hBK hb3)
  clear hb3
  clear c0 c1 c2 c3 c4 c5 c6 c7 c8 c9 ca cb
  obtain ⟨c0, c1, c2, c3, c4, c5, c6, c7, c8, c9, ca, cb, _⟩ := HO3.out.k.c12
  go_wp2_with fail
  ((with_reducible refine (HS.out.ldG hc hg HV.out HO3.out.pr).mono ?_); rintro ee w4 ⟨rfl, P4, f4⟩)
  have HO4 := Lib.hid (HO3.out.fr hBm hn P4 f4)
  clear P4 f4
  clear c0 c1 c2 c3 c4 c5 c6 c7 c8 c9 ca cb
  obtain ⟨c0, c1, c2, c3, c4, c5, c6, c7, c8, c9, ca, cb, _⟩ := HO4.out.k.c12
  go_wp2_with fail
  ((with_reducible refine (op_end HO4.out.k 7).mono ?_); rintro ee w9 ⟨rfl, k9, o9⟩)
  have HO9 := Lib.hid (HO4.out.only hBK (by simp) hn k9 o9)
  clear k9 o9
  go_wp2_with fail
  ((try simp only [Exit.inBlock, Exit.then]); first | go_end0 | refine bodyPost_ret (results_none rfl _ _ _) rfl ?_)
  exact ⟨rfl, _, HA.out, HO9.out⟩
set_option maxRecDepth 100000 in
set_option maxHeartbeats 4000000 in
theorem gr2_yes (hBm : B ≤ m) (hc : c ≤ 4900) (S : Say p m b n D L c M w) (k : Bk K 108 (OpC false 2 er sg lk sl pw bh pp pa pu kv) w) (hBK : B ≤ K) (hg : 0 ≤ sg ∧ sg < 32) (hq : casV M.V (adG sg) 0 = true) :
    Calls Tryz.prog 34 #[.pointer (some ⟨K, 0, none⟩), .pointer (some ⟨b, 0, none⟩)] w (OdS B p m b n c D M.s K [K] (OpC false 11 er sg lk (8 * sg) pw 0 pp pa pu kv) (csM M (adG sg) 0 1) w) := by
  have HA := Lib.hid (S.aftCs (adG sg) 0 1)
  have HQ := Lib.hid hq
  clear hq
  have hn := k.ne_pr S.pr (by decide) (by decide)
  have hBw : B ≤ w.heap.size := Nat.le_trans hBm S.pr.m_le
  have HS := Lib.hid S
  have HO1 := Lib.hid (OD.start (E := [K]) k S.pr hBw)
  obtain ⟨c0, c1, c2, c3, c4, c5, c6, c7, c8, c9, ca, cb, _⟩ := k.c12
  clear k S
  go_enter Tryz.func34, Tryz.ntmps34
  go_wp2_with fail
  ((with_reducible refine (op_word HO1.out.k 0).mono ?_); rintro ee w3 ⟨rfl, hb3⟩)
  have HO3 := Lib.hid (HO1.out.below hBK hb3)
  clear hb3
  clear c0 c1 c2 c3 c4 c5 c6 c7 c8 c9 ca cb
  obtain ⟨c0, c1, c2, c3, c4, c5, c6, c7, c8, c9, ca, cb, _⟩ := HO3.out.k.c12
  go_wp2_with fail
  ((with_reducible refine (HS.out.csG hc hg 0 1 HQ.out HO3.out.pr).mono ?_); rintro ee w4 ⟨rfl, P4, f4⟩)
  have HO4 := Lib.hid (HO3.out.fr hBm hn P4 f4)
  clear P4 f4
  clear c0 c1 c2 c3 c4 c5 c6 c7 c8 c9 ca cb
  obtain ⟨c0, c1, c2, c3, c4, c5, c6, c7, c8, c9, ca, cb, _⟩ := HO4.out.k.c12
  go_wp2_with fail
  ((with_reducible refine (op_turn HO4.out.k hg 0).mono ?_); rintro ee w9 ⟨rfl, k9, o9⟩)
  have HO9 := Lib.hid (HO4.out.only hBK (by simp) hn k9 o9)
  clear k9 o9
  go_wp2_with fail
  ((try simp only [Exit.inBlock, Exit.then]); first | go_end0 | refine bodyPost_ret (results_none rfl _ _ _) rfl ?_)
  exact ⟨rfl, _, HA.out, HO9.out⟩
set_option maxRecDepth 100000 in
set_option maxHeartbeats 4000000 in
theorem gr2_no (hBm : B ≤ m) (hc : c ≤ 4900) (S : Say p m b n D L c M w) (k : Bk K 108 (OpC false 2 er sg lk sl pw bh pp pa pu kv) w) (hBK : B ≤ K) (hg : 0 ≤ sg ∧ sg < 32) (hq : casV M.V (adG sg) 0 = false) :
    Calls Tryz.prog 34 #[.pointer (some ⟨K, 0, none⟩), .pointer (some ⟨b, 0, none⟩)] w (OdS B p m b n c D M.s K [K] (OpC false 0 7 sg lk sl pw bh pp pa pu kv) (csM M (adG sg) 0 1) w) := by
  have HA := Lib.hid (S.aftCs (adG sg) 0 1)
  have HQ := Lib.hid hq
  clear hq
  have hn := k.ne_pr S.pr (by decide) (by decide)
  have hBw : B ≤ w.heap.size := Nat.le_trans hBm S.pr.m_le
  have HS := Lib.hid S
  have HO1 := Lib.hid (OD.start (E := [K]) k S.pr hBw)
  obtain ⟨c0, c1, c2, c3, c4, c5, c6, c7, c8, c9, ca, cb, _⟩ := k.c12
  clear k S
  go_enter Tryz.func34, Tryz.ntmps34
  go_wp2_with fail
  ((with_reducible refine (op_word HO1.out.k 0).mono ?_); rintro ee w3 ⟨rfl, hb3⟩)
  have HO3 := Lib.hid (HO1.out.below hBK hb3)
  clear hb3
  clear c0 c1 c2 c3 c4 c5 c6 c7 c8 c9 ca cb
  obtain ⟨c0, c1, c2, c3, c4, c5, c6, c7, c8, c9, ca, cb, _⟩ := HO3.out.k.c12
  go_wp2_with fail
  ((with_reducible refine (HS.out.csG hc hg 0 1 HQ.out HO3.out.pr).mono ?_); rintro ee w4 ⟨rfl, P4, f4⟩)
  have HO4 := Lib.hid (HO3.out.fr hBm hn P4 f4)
  clear P4 f4
  clear c0 c1 c2 c3 c4 c5 c6 c7 c8 c9 ca cb
  obtain ⟨c0, c1, c2, c3, c4, c5, c6, c7, c8, c9, ca, cb, _⟩ := HO4.out.k.c12
  go_wp2_with fail
  ((with_reducible refine (op_end HO4.out.k 7).mono ?_); rintro ee w9 ⟨rfl, k9, o9⟩)
  have HO9 := Lib.hid (HO4.out.only hBK (by simp) hn k9 o9)
  clear k9 o9
  go_wp2_with fail
  ((try simp only [Exit.inBlock, Exit.then]); first | go_end0 | refine bodyPost_ret (results_none rfl _ _ _) rfl ?_)
  exact ⟨rfl, _, HA.out, HO9.out⟩
set_option maxRecDepth 100000 in
theorem st_turn (k : Bk K 108 (OpC sh ln er sg lk sl pw bh pp pa pu kv) w) (hl : 11 ≤ ln) (H : Calls Tryz.prog 66 #[.pointer (some ⟨K, 0, none⟩), .pointer (some ⟨b, 0, none⟩)] w fun ee w' => ee = .returned (.tuple #[]) ∧ P w') :
    Calls Tryz.prog 34 #[.pointer (some ⟨K, 0, none⟩), .pointer (some ⟨b, 0, none⟩)] w fun ee w' => ee = .returned (.tuple #[]) ∧ P w' := by
  obtain ⟨c0, c1, c2, c3, c4, c5, c6, c7, c8, c9, ca, cb, _⟩ := k.c12
  have HH := Lib.hid H
  clear H
  clear k
  go_enter Tryz.func34, Tryz.ntmps34
  go_wp2_with fail
  (refine HH.out.mono ?_; rintro ee w1 ⟨rfl, hp⟩)
  go_wp2_with fail
  ((try simp only [Exit.inBlock, Exit.then]); first | go_end0 | refine bodyPost_ret (results_none rfl _ _ _) rfl ?_)
  exact ⟨rfl, hp⟩
set_option maxRecDepth 100000 in
theorem st_shrink (k : Bk K 108 (OpC true ln er sg lk sl pw bh pp pa pu kv) w) (hl : ¬ 11 ≤ ln) (H : Calls Tryz.prog 72 #[.pointer (some ⟨K, 0, none⟩), .pointer (some ⟨b, 0, none⟩)] w fun ee w' => ee = .returned (.tuple #[]) ∧ P w') :
    Calls Tryz.prog 34 #[.pointer (some ⟨K, 0, none⟩), .pointer (some ⟨b, 0, none⟩)] w fun ee w' => ee = .returned (.tuple #[]) ∧ P w' := by
  obtain ⟨c0, c1, c2, c3, c4, c5, c6, c7, c8, c9, ca, cb, _⟩ := k.c12
  have hl2 : ln < 11 := by omega
  have HH := Lib.hid H
  clear H
  clear k
  go_enter Tryz.func34, Tryz.ntmps34
  go_wp2_with fail
  (refine HH.out.mono ?_; rintro ee w1 ⟨rfl, hp⟩)
  go_wp2_with fail
  ((try simp only [Exit.inBlock, Exit.then]); first | go_end0 | refine bodyPost_ret (results_none rfl _ _ _) rfl ?_)
  exact ⟨rfl, hp⟩
set_option maxRecDepth 100000 in
theorem st_no (k : Bk K 108 (OpC false ln er sg lk sl pw bh pp pa pu kv) w) (hl : ln = 0) :
    Calls Tryz.prog 34 #[.pointer (some ⟨K, 0, none⟩), .pointer (some ⟨b, 0, none⟩)] w fun ee w' => ee = .returned (.tuple #[]) ∧ w' = w := by
  obtain ⟨c0, c1, c2, c3, c4, c5, c6, c7, c8, c9, ca, cb, _⟩ := k.c12
  subst hl
  clear k
  go_enter Tryz.func34, Tryz.ntmps34
  go_wp2_with fail
  ((try simp only [Exit.inBlock, Exit.then]); first | go_end0 | refine bodyPost_ret (results_none rfl _ _ _) rfl ?_)
  exact ⟨rfl, rfl⟩
set_option maxRecDepth 100000 in
theorem sk_no (k : Bk K 108 (OpC sh 0 er sg lk sl pw bh pp pa pu kv) w) :
    Calls Tryz.prog 72 #[.pointer (some ⟨K, 0, none⟩), .pointer (some ⟨b, 0, none⟩)] w fun ee w' => ee = .returned (.tuple #[]) ∧ w' = w := by
  obtain ⟨c0, c1, c2, c3, c4, c5, c6, c7, c8, c9, ca, cb, _⟩ := k.c12
  clear k
  go_enter Tryz.func72, Tryz.ntmps72
  go_wp2_with fail
  ((try simp only [Exit.inBlock, Exit.then]); first | go_end0 | refine bodyPost_ret (results_none rfl _ _ _) rfl ?_)
  exact ⟨rfl, rfl⟩
end
end Go.Proofs.YtmjcbjcnmgleaaaGreatDoor
