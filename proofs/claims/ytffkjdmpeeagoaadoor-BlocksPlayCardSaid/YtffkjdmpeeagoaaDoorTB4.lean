/-
  Package tables, line by line: what each line of a Join and of a Leave does; condition: the operation and the memory lie as they say, numbers of their kinds.
-/
import Derived.Test.YtffkjdmpeeagoaaDoorTB1
import Derived.Deep.RegionHeld3
namespace Go.Proofs.YtffkjdmpeeagoaaDoor
open Go.RowKit Go.Maps

theorem adN_at : adN.k = 5 ∧ adN.a = 0 ∧ adN.f = 0 := ⟨rfl, rfl, rfl⟩
theorem wrap_small {x : Int} (h0 : 0 ≤ x) (h1 : x < 1000) : IntKind.i64.wrap x = x := by simp [IntKind.wrap, IntKind.bits, IntKind.signed]; omega
theorem wrap32 {x : Int} (h0 : 0 ≤ x) (h1 : x < 4294967296) : IntKind.u32.wrap x = x := by simp [IntKind.wrap, IntKind.bits, IntKind.signed]; omega
theorem wrap64 {x : Int} (h0 : 0 ≤ x) (h1 : x < 18446744073709551616) : IntKind.u64.wrap x = x := by simp [IntKind.wrap, IntKind.bits, IntKind.signed]; omega
section
variable {p b q : Nat} {T : TypeId} {nx bl th wd en j n ow bs fd v : Int} {jd c : Bool} {tl : List Value} {M M' : MV} {w w' X : World}
set_option maxHeartbeats 2000000 in
theorem changeP (hT : T ≠ 109) (F : VX p b M w) (hs : M.s.st < 1000000) (k : Bq q T (PC nx bl th wd en tl) w) (hb : 0 ≤ bl ∧ bl < 4) (hw : U64 wd) (hj : U32 j) (hc : casV M.V (adK bl) wd = c) :
    Calls Tryd.prog 103 #[.pointer (some ⟨q, 0, none⟩), .pointer (some ⟨p, 0, none⟩), .int .u32 j] w fun e w' => e = .returned (.bool c) ∧ At3 p b q T nx bl th wd en tl (csM M (adK bl) wd (blockW j (blkC wd))) w w' := by
  have HA := Lib.hid (At3.start F k)
  have hju : U64 j := ⟨hj.1, by have := hj.2; omega⟩
  have HC := Lib.hid hc
  obtain ⟨c0, c1, c2, c3, c4, hz⟩ := k.pc
  clear F k hz hc c0 c1 c2 c4
  go_enter Tryd.func103, Tryd.ntmps103
  go_wp2_with fail
  ((with_reducible refine (asBlock_any wd w HA.out.f.lay hw).mono ?_); rintro ee w1 ⟨rfl, n, rfl⟩)
  have HA1 := Lib.hid (HA.out.below (below_drewN' (Below.refl _ w) n))
  clear HA c3
  revert HA1
  generalize w.drewN n = wr
  intro HA1
  have HA2 := Lib.hid (HA1.out.below (Below.refl _ wr).drew)
  have hs0 := Lib.hid HA2.out.k.pc.2.2.2.1
  clear HA1
  go_wp2_with fail
  go_region_held3 (fun w9 => w9.cell? ⟨q, 3, none⟩ = some (.int .u64 wd))
    (first | exact hs0.out | exact hs1.out | exact hs2.out | exact hs3.out)
    (first
      | (go_at_call 106; with_reducible refine (blockP HA2.out.k).mono ?_; rintro ee wA ⟨rfl, hA⟩; have HA3 := Lib.hid (HA2.out.below hA); have hs1 := Lib.hid HA3.out.k.pc.2.2.2.1; clear hA)
      | (go_at_call 33; with_reducible refine (block_any j (fld wd 32 1 != 0) wA HA3.out.f.lay hju).mono ?_; rintro ee wB ⟨rfl, i, rfl⟩; have HA4 := Lib.hid (HA3.out.below (below_drewN' (Below.refl _ wA) i)); have hs2 := Lib.hid HA4.out.k.pc.2.2.2.1)
      | (go_at_call 104; with_reducible refine (HA4.out.f.csA hs (adK_at hb) (blockW_u64 _ _) HC.out).mono ?_; rintro ee wC ⟨rfl, F5, o5⟩; have HA5 := Lib.hid (HA4.out.mem hT F5 o5); have hs3 := Lib.hid HA5.out.k.pc.2.2.2.1; clear F5 o5))
  go_wp2_with fail
  go_ret
  exact ⟨rfl, HA5.out⟩
theorem At3.trans {w0 : World} (h : At3 p b q T nx bl th wd en tl M X w') (o : Onl p b [q] w0 X) : At3 p b q T nx bl th wd en tl M w0 w' := ⟨h.f, h.k, o.trans h.o⟩
set_option maxHeartbeats 2000000 in
theorem lessP_true (hT : T ≠ 109) (F : VX p b M w) (hs : M.s.st < 1000000) (k : Bq q T (PC nx bl th wd en tl) w) (hb : 0 ≤ bl ∧ bl < 4) (hw : U64 wd) (hc : casV M.V (adK bl) wd = true) :
    Calls Tryd.prog 88 #[.pointer (some ⟨q, 0, none⟩), .pointer (some ⟨p, 0, none⟩)] w fun e w' => e = .returned (.int .i64 0) ∧ At3 p b q T nx bl th wd en tl (csM M (adK bl) wd (fewW wd)) w w' := by
  have HA := Lib.hid (At3.start F k)
  have HC := Lib.hid hc
  obtain ⟨c0, c1, c2, c3, c4, hz⟩ := k.pc
  have hn := blkN_in wd
  have HB := Lib.hid (asBlock_any wd w F.lay hw)
  unfold fewW
  have e1 : fld wd 0 32 = blkN wd := rfl
  rw [e1] at HB
  clear F k hz hc c0 c1 c2 c4 e1
  generalize blkN wd = n at *
  obtain ⟨hn0, hn1⟩ := hn
  rcases (show n = 0 ∨ n = 1 ∨ 1 < n by omega) with rfl | rfl | h1
  · skip
    have hj := (show U32 (0) from ⟨by omega, by omega⟩)
    rw [if_pos (show (0 : Int) = 0 from rfl)]
    go_enter Tryd.func88, Tryd.ntmps88
    go_wp2_with fail
    ((with_reducible refine HB.out.mono ?_); rintro ee w1 ⟨rfl, i, rfl⟩)
    have HA1 := Lib.hid (HA.out.below (below_drewN' (Below.refl _ w) i))
    clear HA HB
    go_wp2_with fail
    ((with_reducible refine (changeP (j := 0) hT HA1.out.f hs HA1.out.k hb hw hj HC.out).mono ?_); rintro ee w2 ⟨rfl, A2⟩)
    have HA2 := Lib.hid (A2.trans HA1.out.o)
    clear A2 HA1
    go_wp2_with fail
    go_ret
    exact ⟨rfl, HA2.out⟩
  · skip
    have hj := (show U32 (0) from ⟨by omega, by omega⟩)
    rw [if_neg (show ¬ (1 : Int) = 0 by decide), show (1 : Int) - 1 = 0 from rfl]
    go_enter Tryd.func88, Tryd.ntmps88
    go_wp2_with fail
    ((with_reducible refine HB.out.mono ?_); rintro ee w1 ⟨rfl, i, rfl⟩)
    have HA1 := Lib.hid (HA.out.below (below_drewN' (Below.refl _ w) i))
    clear HA HB
    go_wp2_with fail
    ((with_reducible refine (changeP (j := 0) hT HA1.out.f hs HA1.out.k hb hw hj HC.out).mono ?_); rintro ee w2 ⟨rfl, A2⟩)
    have HA2 := Lib.hid (A2.trans HA1.out.o)
    clear A2 HA1
    go_wp2_with fail
    go_ret
    exact ⟨rfl, HA2.out⟩
  · have h2 := wrap32 (x := n - 1) (by omega) (by omega)
    have h3 : ¬ n < 1 := by omega
    have h4 : ¬ n = 1 := by omega
    have hj := (show U32 (n - 1) from ⟨by omega, by omega⟩)
    rw [if_neg (show ¬ n = 0 by omega)]
    go_enter Tryd.func88, Tryd.ntmps88
    go_wp2_with fail
    ((with_reducible refine HB.out.mono ?_); rintro ee w1 ⟨rfl, i, rfl⟩)
    have HA1 := Lib.hid (HA.out.below (below_drewN' (Below.refl _ w) i))
    clear HA HB
    go_wp2_with fail
    ((with_reducible refine (changeP (j := n - 1) hT HA1.out.f hs HA1.out.k hb hw hj HC.out).mono ?_); rintro ee w2 ⟨rfl, A2⟩)
    have HA2 := Lib.hid (A2.trans HA1.out.o)
    clear A2 HA1
    go_wp2_with fail
    go_ret
    exact ⟨rfl, HA2.out⟩
set_option maxHeartbeats 2000000 in
theorem lessP_false (hT : T ≠ 109) (F : VX p b M w) (hs : M.s.st < 1000000) (k : Bq q T (PC nx bl th wd en tl) w) (hb : 0 ≤ bl ∧ bl < 4) (hw : U64 wd) (hc : casV M.V (adK bl) wd = false) :
    Calls Tryd.prog 88 #[.pointer (some ⟨q, 0, none⟩), .pointer (some ⟨p, 0, none⟩)] w fun e w' => e = .returned (.int .i64 1) ∧ At3 p b q T nx bl th wd en tl (csM M (adK bl) wd (fewW wd)) w w' := by
  have HA := Lib.hid (At3.start F k)
  have HC := Lib.hid hc
  obtain ⟨c0, c1, c2, c3, c4, hz⟩ := k.pc
  have hn := blkN_in wd
  have HB := Lib.hid (asBlock_any wd w F.lay hw)
  unfold fewW
  have e1 : fld wd 0 32 = blkN wd := rfl
  rw [e1] at HB
  clear F k hz hc c0 c1 c2 c4 e1
  generalize blkN wd = n at *
  obtain ⟨hn0, hn1⟩ := hn
  rcases (show n = 0 ∨ n = 1 ∨ 1 < n by omega) with rfl | rfl | h1
  · skip
    have hj := (show U32 (0) from ⟨by omega, by omega⟩)
    rw [if_pos (show (0 : Int) = 0 from rfl)]
    go_enter Tryd.func88, Tryd.ntmps88
    go_wp2_with fail
    ((with_reducible refine HB.out.mono ?_); rintro ee w1 ⟨rfl, i, rfl⟩)
    have HA1 := Lib.hid (HA.out.below (below_drewN' (Below.refl _ w) i))
    clear HA HB
    go_wp2_with fail
    ((with_reducible refine (changeP (j := 0) hT HA1.out.f hs HA1.out.k hb hw hj HC.out).mono ?_); rintro ee w2 ⟨rfl, A2⟩)
    have HA2 := Lib.hid (A2.trans HA1.out.o)
    clear A2 HA1
    go_wp2_with fail
    go_ret
    exact ⟨rfl, HA2.out⟩
  · skip
    have hj := (show U32 (0) from ⟨by omega, by omega⟩)
    rw [if_neg (show ¬ (1 : Int) = 0 by decide), show (1 : Int) - 1 = 0 from rfl]
    go_enter Tryd.func88, Tryd.ntmps88
    go_wp2_with fail
    ((with_reducible refine HB.out.mono ?_); rintro ee w1 ⟨rfl, i, rfl⟩)
    have HA1 := Lib.hid (HA.out.below (below_drewN' (Below.refl _ w) i))
    clear HA HB
    go_wp2_with fail
    ((with_reducible refine (changeP (j := 0) hT HA1.out.f hs HA1.out.k hb hw hj HC.out).mono ?_); rintro ee w2 ⟨rfl, A2⟩)
    have HA2 := Lib.hid (A2.trans HA1.out.o)
    clear A2 HA1
    go_wp2_with fail
    go_ret
    exact ⟨rfl, HA2.out⟩
  · have h2 := wrap32 (x := n - 1) (by omega) (by omega)
    have h3 : ¬ n < 1 := by omega
    have h4 : ¬ n = 1 := by omega
    have hj := (show U32 (n - 1) from ⟨by omega, by omega⟩)
    rw [if_neg (show ¬ n = 0 by omega)]
    go_enter Tryd.func88, Tryd.ntmps88
    go_wp2_with fail
    ((with_reducible refine HB.out.mono ?_); rintro ee w1 ⟨rfl, i, rfl⟩)
    have HA1 := Lib.hid (HA.out.below (below_drewN' (Below.refl _ w) i))
    clear HA HB
    go_wp2_with fail
    ((with_reducible refine (changeP (j := n - 1) hT HA1.out.f hs HA1.out.k hb hw hj HC.out).mono ?_); rintro ee w2 ⟨rfl, A2⟩)
    have HA2 := Lib.hid (A2.trans HA1.out.o)
    clear A2 HA1
    go_wp2_with fail
    go_ret
    exact ⟨rfl, HA2.out⟩
theorem within_end (k : Bq q 131 (PC nx bl th wd en (JT ow bs fd jd)) w) (h : bl = bs) : Calls Tryd.prog 102 #[.pointer (some ⟨q, 0, none⟩)] w fun e w' => e = .returned (.int .i64 0) ∧ ∃ n, w' = (w.drewN n).setCell ⟨q, 4, none⟩ (.int .i64 5) := by
  subst h
  obtain ⟨c0, c1, c2, c3, c4, hz⟩ := k.pc
  obtain ⟨c5, c6, c7, c8⟩ := k.jc
  have HK := Lib.hid k
  clear k hz
  go_enter Tryd.func102, Tryd.ntmps102
  go_wp2_with fail
  go_quiet (fail)
  go_wp2_with fail
  ((with_reducible refine (endP (HK.out.below (below_drewN' (Below.refl _ w) _))).mono ?_); rintro ee w1 ⟨rfl, rfl⟩)
  go_wp2_with fail
  go_ret
  exact ⟨rfl, _, rfl⟩
theorem within_on (k : Bq q 131 (PC nx bl th wd en (JT ow bs fd jd)) w) (h : ¬ bl = bs) : Calls Tryd.prog 102 #[.pointer (some ⟨q, 0, none⟩)] w fun e w' => e = .returned (.int .i64 4) ∧ ∃ n, w' = w.drewN n := by
  have hb : (bl == bs) = false := beq_eq_false_iff_ne.2 h
  obtain ⟨c0, c1, c2, c3, c4, hz⟩ := k.pc
  obtain ⟨c5, c6, c7, c8⟩ := k.jc
  clear k hz
  go_enter Tryd.func102, Tryd.ntmps102
  go_wp2_with fail
  go_quiet (fail)
  go_wp2_with fail
  go_ret
  exact ⟨rfl, _, rfl⟩
set_option maxHeartbeats 2000000 in
theorem cnt_end (hq : 1 < q) (F : VX p b M w) (hs : M.s.st < 1000000) (k : Bq q 131 (PC nx 0 th wd en (JT ow bs fd jd)) w) (hv : M.V adN = 0):
    Calls Tryd.prog 82 #[.pointer (some ⟨q, 0, none⟩), .pointer (some ⟨p, 0, none⟩)] w fun e w' => e = .returned (.int .i64 0) ∧ At3 p b q 131 nx 0 th wd 5 (JT ow 0 fd jd) (ldM M adN) w w' := by
  have HA := Lib.hid (At3.start F k)
  have _ := hq
  have HV := Lib.hid hv
  clear hv
  clear F k
  go_enter Tryd.func82, Tryd.ntmps82
  go_wp2_with fail
  ((with_reducible refine (HA.out.f.ldA hs adN_at HV.out).mono ?_); rintro ee w1 ⟨rfl, F1, o1⟩)
  have HA1 := Lib.hid (HA.out.mem (by decide) F1 o1)
  obtain ⟨c5, c6, c7, c8⟩ := HA1.out.k.jc
  have z6 := HA1.out.k.free 6
  clear HA F1 o1
  go_wp2_with fail
  have HA2 := Lib.hid (HA1.out.set (nx' := nx) (bl' := 0) (th' := th) (wd' := wd) (en' := en) (tl' := JT ow 0 fd jd) (by decide) hq 6 (.int .i64 0) rfl)
  clear HA1
  ((with_reducible refine (within_end HA2.out.k rfl).mono ?_); rintro ee w2 ⟨rfl, i2, rfl⟩)
  go_wp2_with fail
  go_ret
  exact ⟨rfl, (HA2.out.below (below_drewN' (Below.refl _ _) i2)).set (by decide) hq 4 (.int .i64 5) rfl⟩
set_option maxHeartbeats 2000000 in
theorem cnt_few (hq : 1 < q) (F : VX p b M w) (hs : M.s.st < 1000000) (k : Bq q 131 (PC nx 0 th wd en (JT ow bs fd jd)) w) (hv : M.V adN = v) (h0 : 0 < v) (h1 : v < 4):
    Calls Tryd.prog 82 #[.pointer (some ⟨q, 0, none⟩), .pointer (some ⟨p, 0, none⟩)] w fun e w' => e = .returned (.int .i64 4) ∧ At3 p b q 131 nx 0 th wd en (JT ow v fd jd) (ldM M adN) w w' := by
  have HA := Lib.hid (At3.start F k)
  have _ := hq
  have HV := Lib.hid hv
  clear hv
  have h2 : ¬ v = 4 := by omega
  have h3 : ¬ 4 < v := by omega
  have h4 := wrap_small (x := v) (by omega) (by omega)
  clear F k
  go_enter Tryd.func82, Tryd.ntmps82
  go_wp2_with fail
  ((with_reducible refine (HA.out.f.ldA hs adN_at HV.out).mono ?_); rintro ee w1 ⟨rfl, F1, o1⟩)
  have HA1 := Lib.hid (HA.out.mem (by decide) F1 o1)
  obtain ⟨c5, c6, c7, c8⟩ := HA1.out.k.jc
  have z6 := HA1.out.k.free 6
  clear HA F1 o1
  go_wp2_with fail
  have HA2 := Lib.hid (HA1.out.set (nx' := nx) (bl' := 0) (th' := th) (wd' := wd) (en' := en) (tl' := JT ow v fd jd) (by decide) hq 6 (.int .i64 v) rfl)
  clear HA1
  ((with_reducible refine (within_on HA2.out.k (by omega)).mono ?_); rintro ee w2 ⟨rfl, i2, rfl⟩)
  go_wp2_with fail
  go_ret
  exact ⟨rfl, HA2.out.below (below_drewN' (Below.refl _ _) i2)⟩
set_option maxHeartbeats 2000000 in
theorem cnt_four (hq : 1 < q) (F : VX p b M w) (hs : M.s.st < 1000000) (k : Bq q 131 (PC nx 0 th wd en (JT ow bs fd jd)) w) (hv : M.V adN = 4):
    Calls Tryd.prog 82 #[.pointer (some ⟨q, 0, none⟩), .pointer (some ⟨p, 0, none⟩)] w fun e w' => e = .returned (.int .i64 4) ∧ At3 p b q 131 nx 0 th wd en (JT ow 4 fd jd) (ldM M adN) w w' := by
  have HA := Lib.hid (At3.start F k)
  have _ := hq
  have HV := Lib.hid hv
  clear hv
  clear F k
  go_enter Tryd.func82, Tryd.ntmps82
  go_wp2_with fail
  ((with_reducible refine (HA.out.f.ldA hs adN_at HV.out).mono ?_); rintro ee w1 ⟨rfl, F1, o1⟩)
  have HA1 := Lib.hid (HA.out.mem (by decide) F1 o1)
  obtain ⟨c5, c6, c7, c8⟩ := HA1.out.k.jc
  have z6 := HA1.out.k.free 6
  clear HA F1 o1
  go_wp2_with fail
  have HA2 := Lib.hid (HA1.out.set (nx' := nx) (bl' := 0) (th' := th) (wd' := wd) (en' := en) (tl' := JT ow 4 fd jd) (by decide) hq 6 (.int .i64 4) rfl)
  clear HA1
  ((with_reducible refine (within_on HA2.out.k (by omega)).mono ?_); rintro ee w2 ⟨rfl, i2, rfl⟩)
  go_wp2_with fail
  go_ret
  exact ⟨rfl, HA2.out.below (below_drewN' (Below.refl _ _) i2)⟩
set_option maxHeartbeats 2000000 in
theorem cnt_many (hq : 1 < q) (F : VX p b M w) (hs : M.s.st < 1000000) (k : Bq q 131 (PC nx 0 th wd en (JT ow bs fd jd)) w) (hv : M.V adN = v) (h1 : 4 < v):
    Calls Tryd.prog 82 #[.pointer (some ⟨q, 0, none⟩), .pointer (some ⟨p, 0, none⟩)] w fun e w' => e = .returned (.int .i64 4) ∧ At3 p b q 131 nx 0 th wd en (JT ow 4 fd jd) (ldM M adN) w w' := by
  have HA := Lib.hid (At3.start F k)
  have _ := hq
  have HV := Lib.hid hv
  clear hv
  have h2 : ¬ v = 4 := by omega
  have h3 : ¬ v < 4 := by omega
  clear F k
  go_enter Tryd.func82, Tryd.ntmps82
  go_wp2_with fail
  ((with_reducible refine (HA.out.f.ldA hs adN_at HV.out).mono ?_); rintro ee w1 ⟨rfl, F1, o1⟩)
  have HA1 := Lib.hid (HA.out.mem (by decide) F1 o1)
  obtain ⟨c5, c6, c7, c8⟩ := HA1.out.k.jc
  have z6 := HA1.out.k.free 6
  clear HA F1 o1
  go_wp2_with fail
  have HA2 := Lib.hid (HA1.out.set (nx' := nx) (bl' := 0) (th' := th) (wd' := wd) (en' := en) (tl' := JT ow 4 fd jd) (by decide) hq 6 (.int .i64 4) rfl)
  clear HA1
  ((with_reducible refine (within_on HA2.out.k (by omega)).mono ?_); rintro ee w2 ⟨rfl, i2, rfl⟩)
  go_wp2_with fail
  go_ret
  exact ⟨rfl, HA2.out.below (below_drewN' (Below.refl _ _) i2)⟩
set_option maxHeartbeats 2000000 in
theorem look_more (hq : 1 < q) (F : VX p b M w) (hs : M.s.st < 1000000) (k : Bq q 131 (PC nx bl th wd en (JT ow bs fd jd)) w) (hb : 0 ≤ bl ∧ bl < 4) (hv : M.V (adK bl) = v) (hc : blkC v = false) (hn : blkN v < 4):
    Calls Tryd.prog 83 #[.pointer (some ⟨q, 0, none⟩), .pointer (some ⟨p, 0, none⟩)] w fun e w' => e = .returned (.int .i64 5) ∧ At3 p b q 131 nx bl th v en (JT ow bs fd jd) (ldM M (adK bl)) w w' := by
  have HA := Lib.hid (At3.start F k)
  have _ := hq
  have hu := F.u64 (adK bl)
  rw [hv] at hu
  have hrd := readP (by decide) hq F hs k hb
  rw [hv] at hrd
  have HR := Lib.hid hrd
  have hx : fld v 0 32 = blkN v := rfl
  have hy : (fld v 32 1 != 0) = blkC v := rfl
  have hbk := fun (w : World) (hL : Lay w) => asBlock_any v w hL hu
  rw [hx, hy] at hbk
  have HB := Lib.hid hbk
  clear hbk hrd hx hy hv HA
  rw [hc] at HB
  clear F k
  go_enter Tryd.func83, Tryd.ntmps83
  go_wp2_with fail
  ((with_reducible refine HR.out.mono ?_); rintro ee w1 ⟨rfl, A1⟩)
  have HA1 := Lib.hid A1
  obtain ⟨c0, c1, c2, c3, c4, hz⟩ := A1.k.pc
  obtain ⟨c5, c6, c7, c8⟩ := A1.k.jc
  clear A1 HR hz
  go_wp2_with fail
  ((with_reducible refine (HB.out w1 HA1.out.f.lay).mono ?_); rintro ee w2 ⟨rfl, i, rfl⟩)
  have HA2 := Lib.hid (HA1.out.below (below_drewN' (Below.refl _ w1) i))
  have z1 := HA2.out.k.free 1
  clear HA1 HB
  go_wp2_with fail
  go_ret
  exact ⟨rfl, HA2.out⟩
set_option maxHeartbeats 2000000 in
theorem look_on_shut (hq : 1 < q) (F : VX p b M w) (hs : M.s.st < 1000000) (k : Bq q 131 (PC nx bl th wd en (JT ow bs fd jd)) w) (hb : 0 ≤ bl ∧ bl < 4) (hv : M.V (adK bl) = v) (hc : blkC v = true) (hbs : ¬ bl + 1 = bs):
    Calls Tryd.prog 83 #[.pointer (some ⟨q, 0, none⟩), .pointer (some ⟨p, 0, none⟩)] w fun e w' => e = .returned (.int .i64 4) ∧ At3 p b q 131 nx (bl + 1) th v en (JT ow bs fd jd) (ldM M (adK bl)) w w' := by
  have HA := Lib.hid (At3.start F k)
  have _ := hq
  have hu := F.u64 (adK bl)
  rw [hv] at hu
  have hrd := readP (by decide) hq F hs k hb
  rw [hv] at hrd
  have HR := Lib.hid hrd
  have hx : fld v 0 32 = blkN v := rfl
  have hy : (fld v 32 1 != 0) = blkC v := rfl
  have hbk := fun (w : World) (hL : Lay w) => asBlock_any v w hL hu
  rw [hx, hy] at hbk
  have HB := Lib.hid hbk
  clear hbk hrd hx hy hv HA
  rw [hc] at HB
  have HBS := Lib.hid hbs
  clear hbs
  have hwb := wrap_small (x := bl + 1) (by omega) (by omega)
  clear F k
  go_enter Tryd.func83, Tryd.ntmps83
  go_wp2_with fail
  ((with_reducible refine HR.out.mono ?_); rintro ee w1 ⟨rfl, A1⟩)
  have HA1 := Lib.hid A1
  obtain ⟨c0, c1, c2, c3, c4, hz⟩ := A1.k.pc
  obtain ⟨c5, c6, c7, c8⟩ := A1.k.jc
  clear A1 HR hz
  go_wp2_with fail
  ((with_reducible refine (HB.out w1 HA1.out.f.lay).mono ?_); rintro ee w2 ⟨rfl, i, rfl⟩)
  have HA2 := Lib.hid (HA1.out.below (below_drewN' (Below.refl _ w1) i))
  have z1 := HA2.out.k.free 1
  clear HA1 HB
  go_wp2_with fail
  have HA3 := Lib.hid (HA2.out.set (nx' := nx) (bl' := bl + 1) (th' := th) (wd' := v) (en' := en) (tl' := JT ow bs fd jd) (by decide) hq 1 (.int .i64 (bl + 1)) rfl)
  ((with_reducible refine (within_on HA3.out.k HBS.out).mono ?_); rintro ee w3 ⟨rfl, i2, rfl⟩)
  go_wp2_with fail
  go_ret
  exact ⟨rfl, HA3.out.below (below_drewN' (Below.refl _ _) i2)⟩
set_option maxHeartbeats 2000000 in
theorem look_on_full (hq : 1 < q) (F : VX p b M w) (hs : M.s.st < 1000000) (k : Bq q 131 (PC nx bl th wd en (JT ow bs fd jd)) w) (hb : 0 ≤ bl ∧ bl < 4) (hv : M.V (adK bl) = v) (hc : blkC v = false) (hn : ¬ blkN v < 4) (hbs : ¬ bl + 1 = bs):
    Calls Tryd.prog 83 #[.pointer (some ⟨q, 0, none⟩), .pointer (some ⟨p, 0, none⟩)] w fun e w' => e = .returned (.int .i64 4) ∧ At3 p b q 131 nx (bl + 1) th v en (JT ow bs fd jd) (ldM M (adK bl)) w w' := by
  have HA := Lib.hid (At3.start F k)
  have _ := hq
  have hu := F.u64 (adK bl)
  rw [hv] at hu
  have hrd := readP (by decide) hq F hs k hb
  rw [hv] at hrd
  have HR := Lib.hid hrd
  have hx : fld v 0 32 = blkN v := rfl
  have hy : (fld v 32 1 != 0) = blkC v := rfl
  have hbk := fun (w : World) (hL : Lay w) => asBlock_any v w hL hu
  rw [hx, hy] at hbk
  have HB := Lib.hid hbk
  clear hbk hrd hx hy hv HA
  rw [hc] at HB
  have HBS := Lib.hid hbs
  clear hbs
  have hwb := wrap_small (x := bl + 1) (by omega) (by omega)
  clear F k
  go_enter Tryd.func83, Tryd.ntmps83
  go_wp2_with fail
  ((with_reducible refine HR.out.mono ?_); rintro ee w1 ⟨rfl, A1⟩)
  have HA1 := Lib.hid A1
  obtain ⟨c0, c1, c2, c3, c4, hz⟩ := A1.k.pc
  obtain ⟨c5, c6, c7, c8⟩ := A1.k.jc
  clear A1 HR hz
  go_wp2_with fail
  ((with_reducible refine (HB.out w1 HA1.out.f.lay).mono ?_); rintro ee w2 ⟨rfl, i, rfl⟩)
  have HA2 := Lib.hid (HA1.out.below (below_drewN' (Below.refl _ w1) i))
  have z1 := HA2.out.k.free 1
  clear HA1 HB
  go_wp2_with fail
  have HA3 := Lib.hid (HA2.out.set (nx' := nx) (bl' := bl + 1) (th' := th) (wd' := v) (en' := en) (tl' := JT ow bs fd jd) (by decide) hq 1 (.int .i64 (bl + 1)) rfl)
  ((with_reducible refine (within_on HA3.out.k HBS.out).mono ?_); rintro ee w3 ⟨rfl, i2, rfl⟩)
  go_wp2_with fail
  go_ret
  exact ⟨rfl, HA3.out.below (below_drewN' (Below.refl _ _) i2)⟩
set_option maxHeartbeats 2000000 in
theorem look_last_shut (hq : 1 < q) (F : VX p b M w) (hs : M.s.st < 1000000) (k : Bq q 131 (PC nx bl th wd en (JT ow bs fd jd)) w) (hb : 0 ≤ bl ∧ bl < 4) (hv : M.V (adK bl) = v) (hc : blkC v = true) (hbs : bl + 1 = bs):
    Calls Tryd.prog 83 #[.pointer (some ⟨q, 0, none⟩), .pointer (some ⟨p, 0, none⟩)] w fun e w' => e = .returned (.int .i64 0) ∧ At3 p b q 131 nx (bl + 1) th v 5 (JT ow bs fd jd) (ldM M (adK bl)) w w' := by
  have HA := Lib.hid (At3.start F k)
  have _ := hq
  have hu := F.u64 (adK bl)
  rw [hv] at hu
  have hrd := readP (by decide) hq F hs k hb
  rw [hv] at hrd
  have HR := Lib.hid hrd
  have hx : fld v 0 32 = blkN v := rfl
  have hy : (fld v 32 1 != 0) = blkC v := rfl
  have hbk := fun (w : World) (hL : Lay w) => asBlock_any v w hL hu
  rw [hx, hy] at hbk
  have HB := Lib.hid hbk
  clear hbk hrd hx hy hv HA
  rw [hc] at HB
  have HBS := Lib.hid hbs
  clear hbs
  have hwb := wrap_small (x := bl + 1) (by omega) (by omega)
  clear F k
  go_enter Tryd.func83, Tryd.ntmps83
  go_wp2_with fail
  ((with_reducible refine HR.out.mono ?_); rintro ee w1 ⟨rfl, A1⟩)
  have HA1 := Lib.hid A1
  obtain ⟨c0, c1, c2, c3, c4, hz⟩ := A1.k.pc
  obtain ⟨c5, c6, c7, c8⟩ := A1.k.jc
  clear A1 HR hz
  go_wp2_with fail
  ((with_reducible refine (HB.out w1 HA1.out.f.lay).mono ?_); rintro ee w2 ⟨rfl, i, rfl⟩)
  have HA2 := Lib.hid (HA1.out.below (below_drewN' (Below.refl _ w1) i))
  have z1 := HA2.out.k.free 1
  clear HA1 HB
  go_wp2_with fail
  have HA3 := Lib.hid (HA2.out.set (nx' := nx) (bl' := bl + 1) (th' := th) (wd' := v) (en' := en) (tl' := JT ow bs fd jd) (by decide) hq 1 (.int .i64 (bl + 1)) rfl)
  ((with_reducible refine (within_end HA3.out.k HBS.out).mono ?_); rintro ee w3 ⟨rfl, i2, rfl⟩)
  go_wp2_with fail
  go_ret
  exact ⟨rfl, (HA3.out.below (below_drewN' (Below.refl _ _) i2)).set (by decide) hq 4 (.int .i64 5) rfl⟩
set_option maxHeartbeats 2000000 in
theorem look_last_full (hq : 1 < q) (F : VX p b M w) (hs : M.s.st < 1000000) (k : Bq q 131 (PC nx bl th wd en (JT ow bs fd jd)) w) (hb : 0 ≤ bl ∧ bl < 4) (hv : M.V (adK bl) = v) (hc : blkC v = false) (hn : ¬ blkN v < 4) (hbs : bl + 1 = bs):
    Calls Tryd.prog 83 #[.pointer (some ⟨q, 0, none⟩), .pointer (some ⟨p, 0, none⟩)] w fun e w' => e = .returned (.int .i64 0) ∧ At3 p b q 131 nx (bl + 1) th v 5 (JT ow bs fd jd) (ldM M (adK bl)) w w' := by
  have HA := Lib.hid (At3.start F k)
  have _ := hq
  have hu := F.u64 (adK bl)
  rw [hv] at hu
  have hrd := readP (by decide) hq F hs k hb
  rw [hv] at hrd
  have HR := Lib.hid hrd
  have hx : fld v 0 32 = blkN v := rfl
  have hy : (fld v 32 1 != 0) = blkC v := rfl
  have hbk := fun (w : World) (hL : Lay w) => asBlock_any v w hL hu
  rw [hx, hy] at hbk
  have HB := Lib.hid hbk
  clear hbk hrd hx hy hv HA
  rw [hc] at HB
  have HBS := Lib.hid hbs
  clear hbs
  have hwb := wrap_small (x := bl + 1) (by omega) (by omega)
  clear F k
  go_enter Tryd.func83, Tryd.ntmps83
  go_wp2_with fail
  ((with_reducible refine HR.out.mono ?_); rintro ee w1 ⟨rfl, A1⟩)
  have HA1 := Lib.hid A1
  obtain ⟨c0, c1, c2, c3, c4, hz⟩ := A1.k.pc
  obtain ⟨c5, c6, c7, c8⟩ := A1.k.jc
  clear A1 HR hz
  go_wp2_with fail
  ((with_reducible refine (HB.out w1 HA1.out.f.lay).mono ?_); rintro ee w2 ⟨rfl, i, rfl⟩)
  have HA2 := Lib.hid (HA1.out.below (below_drewN' (Below.refl _ w1) i))
  have z1 := HA2.out.k.free 1
  clear HA1 HB
  go_wp2_with fail
  have HA3 := Lib.hid (HA2.out.set (nx' := nx) (bl' := bl + 1) (th' := th) (wd' := v) (en' := en) (tl' := JT ow bs fd jd) (by decide) hq 1 (.int .i64 (bl + 1)) rfl)
  ((with_reducible refine (within_end HA3.out.k HBS.out).mono ?_); rintro ee w3 ⟨rfl, i2, rfl⟩)
  go_wp2_with fail
  go_ret
  exact ⟨rfl, (HA3.out.below (below_drewN' (Below.refl _ _) i2)).set (by decide) hq 4 (.int .i64 5) rfl⟩
set_option maxHeartbeats 2000000 in
theorem more_true (hq : 1 < q) (F : VX p b M w) (hs : M.s.st < 1000000) (k : Bq q 131 (PC nx bl th wd en (JT ow bs fd jd)) w) (hb : 0 ≤ bl ∧ bl < 4) (hw : U64 wd) (hn : blkN wd < 4) (hc : casV M.V (adK bl) wd = true) :
    Calls Tryd.prog 84 #[.pointer (some ⟨q, 0, none⟩), .pointer (some ⟨p, 0, none⟩)] w fun e w' => e = .returned (.int .i64 6) ∧ At3 p b q 131 nx bl (bl * 4) wd en (JT ow bs fd jd) (csM M (adK bl) wd (addW wd)) w w' := by
  have HA := Lib.hid (At3.start F k)
  have _ := hq
  have hT : 131 ≠ 109 := by decide
  have HC := Lib.hid hc
  obtain ⟨c0, c1, c2, c3, c4, hz⟩ := k.pc
  have hn0 := (blkN_in wd).1
  have HB := Lib.hid (asBlock_any wd w F.lay hw)
  have hx : fld wd 0 32 = blkN wd := rfl
  rw [hx] at HB
  have hwr := wrap32 (x := blkN wd + 1) (by omega) (by omega)
  have hwm := wrap_small (x := bl * 4) (by omega) (by omega)
  have hj := (show U32 (blkN wd + 1) from ⟨by omega, by omega⟩)
  clear hz hc hx
  unfold addW
  generalize blkN wd = n at *
  clear F k
  go_enter Tryd.func84, Tryd.ntmps84
  go_wp2_with fail
  ((with_reducible refine HB.out.mono ?_); rintro ee w1 ⟨rfl, i, rfl⟩)
  have HA1 := Lib.hid (HA.out.below (below_drewN' (Below.refl _ w) i))
  clear HA HB c0 c1 c2 c3 c4
  go_wp2_with fail
  ((with_reducible refine (changeP hT HA1.out.f hs HA1.out.k hb hw hj HC.out).mono ?_); rintro ee w2 ⟨rfl, A2⟩)
  have HA2 := Lib.hid (A2.trans HA1.out.o)
  clear A2 HA1
  obtain ⟨c0, c1, c2, c3, c4, hz⟩ := HA2.out.k.pc
  have z2 := hz 2
  clear hz
  go_wp2_with fail
  go_ret
  exact ⟨rfl, HA2.out.set (by decide) hq 2 (.int .i64 (bl * 4)) rfl⟩
set_option maxHeartbeats 2000000 in
theorem more_false (hq : 1 < q) (F : VX p b M w) (hs : M.s.st < 1000000) (k : Bq q 131 (PC nx bl th wd en (JT ow bs fd jd)) w) (hb : 0 ≤ bl ∧ bl < 4) (hw : U64 wd) (hn : blkN wd < 4) (hc : casV M.V (adK bl) wd = false) :
    Calls Tryd.prog 84 #[.pointer (some ⟨q, 0, none⟩), .pointer (some ⟨p, 0, none⟩)] w fun e w' => e = .returned (.int .i64 4) ∧ At3 p b q 131 nx bl th wd en (JT ow bs fd jd) (csM M (adK bl) wd (addW wd)) w w' := by
  have HA := Lib.hid (At3.start F k)
  have _ := hq
  have hT : 131 ≠ 109 := by decide
  have HC := Lib.hid hc
  obtain ⟨c0, c1, c2, c3, c4, hz⟩ := k.pc
  have hn0 := (blkN_in wd).1
  have HB := Lib.hid (asBlock_any wd w F.lay hw)
  have hx : fld wd 0 32 = blkN wd := rfl
  rw [hx] at HB
  have hwr := wrap32 (x := blkN wd + 1) (by omega) (by omega)
  have hwm := wrap_small (x := bl * 4) (by omega) (by omega)
  have hj := (show U32 (blkN wd + 1) from ⟨by omega, by omega⟩)
  clear hz hc hx
  unfold addW
  generalize blkN wd = n at *
  clear F k
  go_enter Tryd.func84, Tryd.ntmps84
  go_wp2_with fail
  ((with_reducible refine HB.out.mono ?_); rintro ee w1 ⟨rfl, i, rfl⟩)
  have HA1 := Lib.hid (HA.out.below (below_drewN' (Below.refl _ w) i))
  clear HA HB c0 c1 c2 c3 c4
  go_wp2_with fail
  ((with_reducible refine (changeP hT HA1.out.f hs HA1.out.k hb hw hj HC.out).mono ?_); rintro ee w2 ⟨rfl, A2⟩)
  have HA2 := Lib.hid (A2.trans HA1.out.o)
  clear A2 HA1
  go_wp2_with fail
  go_ret
  exact ⟨rfl, HA2.out⟩
set_option maxHeartbeats 2000000 in
theorem take_yes (hq : 1 < q) (F : VX p b M w) (hs : M.s.st < 1000000) (k : Bq q 131 (PC nx bl th wd en (JT ow bs fd jd)) w) (ht : 0 ≤ th ∧ th < 16) (how : 0 ≤ ow ∧ ow < 9223372036854775808) (hc : casV M.V (adT th 0) 0 = true) :
    Calls Tryd.prog 85 #[.pointer (some ⟨q, 0, none⟩), .pointer (some ⟨p, 0, none⟩)] w fun e w' => e = .returned (.int .i64 7) ∧ At3 p b q 131 nx bl th wd en (JT ow bs fd jd) (csM M (adT th 0) 0 (ow + 1)) w w' := by
  have HA := Lib.hid (At3.start F k)
  have _ := hq
  have HC := Lib.hid hc
  have hw1 := wrap64 (x := ow) (by omega) (by omega)
  have hw2 := wrap64 (x := ow + 1) (by omega) (by omega)
  have hw3 := wrap_small (x := th + 1) (by omega) (by omega)
  have HA1 := Lib.hid (HA.out.below (Below.refl _ w).drew)
  have hs0 := Lib.hid HA1.out.k.jc.1
  have hou : U64 (ow + 1) := ⟨by omega, by omega⟩
  clear HA hc
  clear F k
  go_enter Tryd.func85, Tryd.ntmps85
  go_wp2_with fail
  go_region_held3 (fun w9 => w9.cell? ⟨q, 5, none⟩ = some (.int .i64 ow))
    (first | exact hs0.out | exact hs1.out | exact hs2.out)
    (first
      | (go_at_call 105; with_reducible refine (atP HA1.out.k).mono ?_; rintro ee wA ⟨rfl, hA⟩; have HA2 := Lib.hid (HA1.out.below hA); have hs1 := Lib.hid HA2.out.k.jc.1; clear hA)
      | (go_at_call 104; with_reducible refine (HA2.out.f.csA hs (adT_at ht (by decide)) hou HC.out).mono ?_; rintro ee wC ⟨rfl, F5, o5⟩; have HA5 := Lib.hid (HA2.out.mem (by decide) F5 o5); have hs2 := Lib.hid HA5.out.k.jc.1; clear F5 o5))
  all_goals
    obtain ⟨c0, c1, c2, c3, c4, hz⟩ := HA5.out.k.pc
    have z2 := hz 2
    have z4 := hz 4
    clear hz
    go_wp2_with fail
    go_ret
    exact ⟨rfl, HA5.out⟩
set_option maxHeartbeats 2000000 in
theorem take_next (hq : 1 < q) (F : VX p b M w) (hs : M.s.st < 1000000) (k : Bq q 131 (PC nx bl th wd en (JT ow bs fd jd)) w) (ht : 0 ≤ th ∧ th < 16) (how : 0 ≤ ow ∧ ow < 9223372036854775808) (hc : casV M.V (adT th 0) 0 = false) (hm : 0 < (th + 1) % 4) :
    Calls Tryd.prog 85 #[.pointer (some ⟨q, 0, none⟩), .pointer (some ⟨p, 0, none⟩)] w fun e w' => e = .returned (.int .i64 6) ∧ At3 p b q 131 nx bl (th + 1) wd en (JT ow bs fd jd) (csM M (adT th 0) 0 (ow + 1)) w w' := by
  have HA := Lib.hid (At3.start F k)
  have _ := hq
  have HC := Lib.hid hc
  have hw1 := wrap64 (x := ow) (by omega) (by omega)
  have hw2 := wrap64 (x := ow + 1) (by omega) (by omega)
  have hw3 := wrap_small (x := th + 1) (by omega) (by omega)
  have HA1 := Lib.hid (HA.out.below (Below.refl _ w).drew)
  have hs0 := Lib.hid HA1.out.k.jc.1
  have hou : U64 (ow + 1) := ⟨by omega, by omega⟩
  clear HA hc
  clear F k
  go_enter Tryd.func85, Tryd.ntmps85
  go_wp2_with fail
  go_region_held3 (fun w9 => w9.cell? ⟨q, 5, none⟩ = some (.int .i64 ow))
    (first | exact hs0.out | exact hs1.out | exact hs2.out)
    (first
      | (go_at_call 105; with_reducible refine (atP HA1.out.k).mono ?_; rintro ee wA ⟨rfl, hA⟩; have HA2 := Lib.hid (HA1.out.below hA); have hs1 := Lib.hid HA2.out.k.jc.1; clear hA)
      | (go_at_call 104; with_reducible refine (HA2.out.f.csA hs (adT_at ht (by decide)) hou HC.out).mono ?_; rintro ee wC ⟨rfl, F5, o5⟩; have HA5 := Lib.hid (HA2.out.mem (by decide) F5 o5); have hs2 := Lib.hid HA5.out.k.jc.1; clear F5 o5))
  all_goals
    obtain ⟨c0, c1, c2, c3, c4, hz⟩ := HA5.out.k.pc
    have z2 := hz 2
    have z4 := hz 4
    clear hz
    have HA6 := Lib.hid (HA5.out.set (nx' := nx) (bl' := bl) (th' := th + 1) (wd' := wd) (en' := en) (tl' := JT ow bs fd jd) (by decide) hq 2 (.int .i64 (th + 1)) rfl)
    go_wp2_with fail
    go_ret
    exact ⟨rfl, HA6.out⟩
set_option maxHeartbeats 2000000 in
theorem take_last (hq : 1 < q) (F : VX p b M w) (hs : M.s.st < 1000000) (k : Bq q 131 (PC nx bl th wd en (JT ow bs fd jd)) w) (ht : 0 ≤ th ∧ th < 16) (how : 0 ≤ ow ∧ ow < 9223372036854775808) (hc : casV M.V (adT th 0) 0 = false) (hm : (th + 1) % 4 = 0) :
    Calls Tryd.prog 85 #[.pointer (some ⟨q, 0, none⟩), .pointer (some ⟨p, 0, none⟩)] w fun e w' => e = .returned (.int .i64 1) ∧ At3 p b q 131 nx bl (th + 1) wd 7 (JT ow bs fd jd) (csM M (adT th 0) 0 (ow + 1)) w w' := by
  have HA := Lib.hid (At3.start F k)
  have _ := hq
  have HC := Lib.hid hc
  have hw1 := wrap64 (x := ow) (by omega) (by omega)
  have hw2 := wrap64 (x := ow + 1) (by omega) (by omega)
  have hw3 := wrap_small (x := th + 1) (by omega) (by omega)
  have HA1 := Lib.hid (HA.out.below (Below.refl _ w).drew)
  have hs0 := Lib.hid HA1.out.k.jc.1
  have hou : U64 (ow + 1) := ⟨by omega, by omega⟩
  clear HA hc
  clear F k
  go_enter Tryd.func85, Tryd.ntmps85
  go_wp2_with fail
  go_region_held3 (fun w9 => w9.cell? ⟨q, 5, none⟩ = some (.int .i64 ow))
    (first | exact hs0.out | exact hs1.out | exact hs2.out)
    (first
      | (go_at_call 105; with_reducible refine (atP HA1.out.k).mono ?_; rintro ee wA ⟨rfl, hA⟩; have HA2 := Lib.hid (HA1.out.below hA); have hs1 := Lib.hid HA2.out.k.jc.1; clear hA)
      | (go_at_call 104; with_reducible refine (HA2.out.f.csA hs (adT_at ht (by decide)) hou HC.out).mono ?_; rintro ee wC ⟨rfl, F5, o5⟩; have HA5 := Lib.hid (HA2.out.mem (by decide) F5 o5); have hs2 := Lib.hid HA5.out.k.jc.1; clear F5 o5))
  all_goals
    obtain ⟨c0, c1, c2, c3, c4, hz⟩ := HA5.out.k.pc
    have z2 := hz 2
    have z4 := hz 4
    clear hz
    have HA6 := Lib.hid (HA5.out.set (nx' := nx) (bl' := bl) (th' := th + 1) (wd' := wd) (en' := en) (tl' := JT ow bs fd jd) (by decide) hq 2 (.int .i64 (th + 1)) rfl)
    have y4 := HA6.out.k.free 4
    go_wp2_with fail
    go_ret
    exact ⟨rfl, HA6.out.set (by decide) hq 4 (.int .i64 7) rfl⟩
set_option maxHeartbeats 2000000 in
theorem wipe_on (hq : 1 < q) (F : VX p b M w) (hs : M.s.st < 1000000) (k : Bq q 131 (PC nx bl th wd en (JT ow bs fd jd)) w) (ht : 0 ≤ th ∧ th < 16) (hf : 0 ≤ fd ∧ fd < 10) (hm : fd + 1 < 10) :
    Calls Tryd.prog 86 #[.pointer (some ⟨q, 0, none⟩), .pointer (some ⟨p, 0, none⟩)] w fun e w' => e = .returned (.int .i64 7) ∧ At3 p b q 131 nx bl th wd en (JT ow bs (fd + 1) jd) (stM M (adT th fd) 0) w w' := by
  have HA := Lib.hid (At3.start F k)
  have _ := hq
  have hw3 := wrap_small (x := fd + 1) (by omega) (by omega)
  have HA1 := Lib.hid (HA.out.below (Below.refl _ w).drew)
  have hs0 := Lib.hid HA1.out.k.jc.2.2.1
  clear HA
  clear F k
  go_enter Tryd.func86, Tryd.ntmps86
  go_wp2_with fail
  go_region_held3 (fun w9 => w9.cell? ⟨q, 7, none⟩ = some (.int .i64 fd))
    (first | exact hs0.out | exact hs1.out | exact hs2.out)
    (first
      | (go_at_call 105; with_reducible refine (atP HA1.out.k).mono ?_; rintro ee wA ⟨rfl, hA⟩; have HA2 := Lib.hid (HA1.out.below hA); have hs1 := Lib.hid HA2.out.k.jc.2.2.1; clear hA)
      | (go_at_call 32; with_reducible refine (HA2.out.f.stA hs (adT_at ht hf) u64_0').mono ?_; rintro ee wC ⟨rfl, F5, o5⟩; have HA5 := Lib.hid (HA2.out.mem (by decide) F5 o5); have hs2 := Lib.hid HA5.out.k.jc.2.2.1; clear F5 o5))
  all_goals
    obtain ⟨c5, c6, c7, c8⟩ := HA5.out.k.jc
    have z7 := HA5.out.k.free 7
    have HA6 := Lib.hid (HA5.out.set (nx' := nx) (bl' := bl) (th' := th) (wd' := wd) (en' := en) (tl' := JT ow bs (fd + 1) jd) (by decide) hq 7 (.int .i64 (fd + 1)) rfl)
    have z8 := HA6.out.k.free 8
    go_wp2_with fail
    go_ret
    exact ⟨rfl, HA6.out⟩
set_option maxHeartbeats 2000000 in
theorem wipe_last (hq : 1 < q) (F : VX p b M w) (hs : M.s.st < 1000000) (k : Bq q 131 (PC nx bl th wd en (JT ow bs fd jd)) w) (ht : 0 ≤ th ∧ th < 16) (hf : 0 ≤ fd ∧ fd < 10) (hm : ¬ fd + 1 < 10) :
    Calls Tryd.prog 86 #[.pointer (some ⟨q, 0, none⟩), .pointer (some ⟨p, 0, none⟩)] w fun e w' => e = .returned (.int .i64 0) ∧ At3 p b q 131 nx bl th wd en (JT ow bs (fd + 1) true) (stM M (adT th fd) 0) w w' := by
  have HA := Lib.hid (At3.start F k)
  have _ := hq
  have hw3 := wrap_small (x := fd + 1) (by omega) (by omega)
  have HA1 := Lib.hid (HA.out.below (Below.refl _ w).drew)
  have hs0 := Lib.hid HA1.out.k.jc.2.2.1
  clear HA
  clear F k
  go_enter Tryd.func86, Tryd.ntmps86
  go_wp2_with fail
  go_region_held3 (fun w9 => w9.cell? ⟨q, 7, none⟩ = some (.int .i64 fd))
    (first | exact hs0.out | exact hs1.out | exact hs2.out)
    (first
      | (go_at_call 105; with_reducible refine (atP HA1.out.k).mono ?_; rintro ee wA ⟨rfl, hA⟩; have HA2 := Lib.hid (HA1.out.below hA); have hs1 := Lib.hid HA2.out.k.jc.2.2.1; clear hA)
      | (go_at_call 32; with_reducible refine (HA2.out.f.stA hs (adT_at ht hf) u64_0').mono ?_; rintro ee wC ⟨rfl, F5, o5⟩; have HA5 := Lib.hid (HA2.out.mem (by decide) F5 o5); have hs2 := Lib.hid HA5.out.k.jc.2.2.1; clear F5 o5))
  all_goals
    obtain ⟨c5, c6, c7, c8⟩ := HA5.out.k.jc
    have z7 := HA5.out.k.free 7
    have HA6 := Lib.hid (HA5.out.set (nx' := nx) (bl' := bl) (th' := th) (wd' := wd) (en' := en) (tl' := JT ow bs (fd + 1) jd) (by decide) hq 7 (.int .i64 (fd + 1)) rfl)
    have z8 := HA6.out.k.free 8
    go_wp2_with fail
    go_ret
    exact ⟨rfl, HA6.out.set (by decide) hq 8 (.bool true) rfl⟩
set_option maxHeartbeats 2000000 in
theorem ask_none (hq : 1 < q) (F : VX p b M w) (hs : M.s.st < 1000000) (k : Bq q 142 (PC nx bl th wd en []) w) (ht : 0 ≤ th ∧ th < 16) (hv : M.V (adT th 0) = 0) :
    Calls Tryd.prog 98 #[.pointer (some ⟨q, 0, none⟩), .pointer (some ⟨p, 0, none⟩)] w fun e w' => e = .returned (.int .i64 0) ∧ At3 p b q 142 nx bl th wd 6 [] (ldM M (adT th 0)) w w' := by
  have HA := Lib.hid (At3.start F k)
  have _ := hq
  have HV := Lib.hid hv
  clear hv
  clear F k
  go_enter Tryd.func98, Tryd.ntmps98
  go_wp2_with fail
  ((with_reducible refine (atP HA.out.k).mono ?_); rintro ee w1 ⟨rfl, hb1⟩)
  have HA1 := Lib.hid (HA.out.below hb1)
  clear HA hb1
  go_wp2_with fail
  ((with_reducible refine (HA1.out.f.ldA hs (adT_at ht (f := 0) (by decide)) HV.out).mono ?_); rintro ee w2 ⟨rfl, F2, o2⟩)
  have HA2 := Lib.hid (HA1.out.mem (by decide) F2 o2)
  clear HA1 F2 o2
  go_wp2_with fail
  ((with_reducible refine (endP HA2.out.k).mono ?_); rintro ee w3 ⟨rfl, rfl⟩)
  go_wp2_with fail
  go_ret
  exact ⟨rfl, HA2.out.set (by decide) hq 4 (.int .i64 6) rfl⟩
set_option maxHeartbeats 2000000 in
theorem ask_on (hq : 1 < q) (F : VX p b M w) (hs : M.s.st < 1000000) (k : Bq q 142 (PC nx bl th wd en []) w) (ht : 0 ≤ th ∧ th < 16) (hv : M.V (adT th 0) = v) (hn : v ≠ 0) :
    Calls Tryd.prog 98 #[.pointer (some ⟨q, 0, none⟩), .pointer (some ⟨p, 0, none⟩)] w fun e w' => e = .returned (.int .i64 4) ∧ At3 p b q 142 nx bl th wd en [] (ldM M (adT th 0)) w w' := by
  have HA := Lib.hid (At3.start F k)
  have _ := hq
  have HV := Lib.hid hv
  have hvb : (v == 0) = false := beq_eq_false_iff_ne.2 hn
  clear hv hn
  clear F k
  go_enter Tryd.func98, Tryd.ntmps98
  go_wp2_with fail
  ((with_reducible refine (atP HA.out.k).mono ?_); rintro ee w1 ⟨rfl, hb1⟩)
  have HA1 := Lib.hid (HA.out.below hb1)
  clear HA hb1
  go_wp2_with fail
  ((with_reducible refine (HA1.out.f.ldA hs (adT_at ht (f := 0) (by decide)) HV.out).mono ?_); rintro ee w2 ⟨rfl, F2, o2⟩)
  have HA2 := Lib.hid (HA1.out.mem (by decide) F2 o2)
  clear HA1 F2 o2
  go_wp2_with fail
  go_ret
  exact ⟨rfl, HA2.out⟩
set_option maxHeartbeats 2000000 in
theorem inside_on (hq : 1 < q) (F : VX p b M w) (hs : M.s.st < 1000000) (k : Bq q 142 (PC nx bl th wd en []) w) (ht : 0 ≤ th ∧ th < 16) (hv : M.V (adT th 1) = 0) :
    Calls Tryd.prog 99 #[.pointer (some ⟨q, 0, none⟩), .pointer (some ⟨p, 0, none⟩)] w fun e w' => e = .returned (.int .i64 5) ∧ At3 p b q 142 nx bl th wd en [] (ldM M (adT th 1)) w w' := by
  have HA := Lib.hid (At3.start F k)
  have _ := hq
  have HV := Lib.hid hv
  clear hv
  clear F k
  go_enter Tryd.func99, Tryd.ntmps99
  go_wp2_with fail
  ((with_reducible refine (atP HA.out.k).mono ?_); rintro ee w1 ⟨rfl, hb1⟩)
  have HA1 := Lib.hid (HA.out.below hb1)
  clear HA hb1
  go_wp2_with fail
  ((with_reducible refine (HA1.out.f.ldA hs (adT_at ht (f := 1) (by decide)) HV.out).mono ?_); rintro ee w2 ⟨rfl, F2, o2⟩)
  have HA2 := Lib.hid (HA1.out.mem (by decide) F2 o2)
  clear HA1 F2 o2
  go_wp2_with fail
  go_ret
  exact ⟨rfl, HA2.out⟩
set_option maxHeartbeats 2000000 in
theorem inside_bad (hq : 1 < q) (F : VX p b M w) (hs : M.s.st < 1000000) (k : Bq q 142 (PC nx bl th wd en []) w) (ht : 0 ≤ th ∧ th < 16) (hv : M.V (adT th 1) = v) (hn : v ≠ 0) :
    Calls Tryd.prog 99 #[.pointer (some ⟨q, 0, none⟩), .pointer (some ⟨p, 0, none⟩)] w fun e w' => e = .returned (.int .i64 0) ∧ At3 p b q 142 nx bl th wd 4 [] (ldM M (adT th 1)) w w' := by
  have HA := Lib.hid (At3.start F k)
  have _ := hq
  have HV := Lib.hid hv
  have hvb : (v == 0) = false := beq_eq_false_iff_ne.2 hn
  clear hv hn
  clear F k
  go_enter Tryd.func99, Tryd.ntmps99
  go_wp2_with fail
  ((with_reducible refine (atP HA.out.k).mono ?_); rintro ee w1 ⟨rfl, hb1⟩)
  have HA1 := Lib.hid (HA.out.below hb1)
  clear HA hb1
  go_wp2_with fail
  ((with_reducible refine (HA1.out.f.ldA hs (adT_at ht (f := 1) (by decide)) HV.out).mono ?_); rintro ee w2 ⟨rfl, F2, o2⟩)
  have HA2 := Lib.hid (HA1.out.mem (by decide) F2 o2)
  clear HA1 F2 o2
  go_wp2_with fail
  ((with_reducible refine (endP HA2.out.k).mono ?_); rintro ee w3 ⟨rfl, rfl⟩)
  go_wp2_with fail
  go_ret
  exact ⟨rfl, HA2.out.set (by decide) hq 4 (.int .i64 4) rfl⟩
set_option maxHeartbeats 2000000 in
theorem unflag_any (hq : 1 < q) (F : VX p b M w) (hs : M.s.st < 1000000) (k : Bq q 142 (PC nx bl th wd en []) w) (ht : 0 ≤ th ∧ th < 16) :
    Calls Tryd.prog 100 #[.pointer (some ⟨q, 0, none⟩), .pointer (some ⟨p, 0, none⟩)] w fun e w' => e = .returned (.int .i64 6) ∧ At3 p b q 142 nx bl th wd en [] (stM M (adT th 6) 0) w w' := by
  have HA := Lib.hid (At3.start F k)
  have _ := hq
  clear F k
  go_enter Tryd.func100, Tryd.ntmps100
  go_wp2_with fail
  ((with_reducible refine (atP HA.out.k).mono ?_); rintro ee w1 ⟨rfl, hb1⟩)
  have HA1 := Lib.hid (HA.out.below hb1)
  clear HA hb1
  go_wp2_with fail
  ((with_reducible refine (HA1.out.f.stA hs (adT_at ht (f := 6) (by decide)) u64_0').mono ?_); rintro ee w2 ⟨rfl, F2, o2⟩)
  have HA2 := Lib.hid (HA1.out.mem (by decide) F2 o2)
  clear HA1 F2 o2
  go_wp2_with fail
  go_ret
  exact ⟨rfl, HA2.out⟩
set_option maxHeartbeats 2000000 in
theorem free_any (hq : 1 < q) (F : VX p b M w) (hs : M.s.st < 1000000) (k : Bq q 142 (PC nx bl th wd en []) w) (ht : 0 ≤ th ∧ th < 16) :
    Calls Tryd.prog 101 #[.pointer (some ⟨q, 0, none⟩), .pointer (some ⟨p, 0, none⟩)] w fun e w' => e = .returned (.int .i64 1) ∧ At3 p b q 142 nx bl th wd en [] (stM M (adT th 0) 0) w w' := by
  have HA := Lib.hid (At3.start F k)
  have _ := hq
  clear F k
  go_enter Tryd.func101, Tryd.ntmps101
  go_wp2_with fail
  ((with_reducible refine (atP HA.out.k).mono ?_); rintro ee w1 ⟨rfl, hb1⟩)
  have HA1 := Lib.hid (HA.out.below hb1)
  clear HA hb1
  go_wp2_with fail
  ((with_reducible refine (HA1.out.f.stA hs (adT_at ht (f := 0) (by decide)) u64_0').mono ?_); rintro ee w2 ⟨rfl, F2, o2⟩)
  have HA2 := Lib.hid (HA1.out.mem (by decide) F2 o2)
  clear HA1 F2 o2
  go_wp2_with fail
  go_ret
  exact ⟨rfl, HA2.out⟩
end
end Go.Proofs.YtffkjdmpeeagoaaDoor
