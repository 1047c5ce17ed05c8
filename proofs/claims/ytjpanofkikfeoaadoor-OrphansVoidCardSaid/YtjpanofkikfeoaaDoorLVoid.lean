/-
  The law OrphansVoid, walked: it returns true and only makes memory of its own; condition: the tables as laid.
-/
import Derived.Test.YtjpanofkikfeoaaDoorOV1
import Derived.Deep.RegionLaw
import Derived.Deep.DeepCutAuto
import Derived.Test.YtjpanofkikfeoaaDoorD6
namespace Go.Proofs.YtjpanofkikfeoaaDoor
open Go.RowKit Go.Maps

theorem f_pair0 (p b : Nat) (w : World) : (Instr.field 27 (.agg #[.pointer (some ⟨p, 0, none⟩), .pointer (some ⟨b, 0, none⟩)]) 0).run Tryd.prog w = .ok (.pointer (some ⟨p, 0, none⟩)) w := by kernel_rfl
theorem void_long (ao : Option Addr) (cap nn : Nat) (A1 : Option Addr) (cap1 n1 : Nat) (W : World) (hL : Lay W) (hM : LayM W) (hn : ¬ (nn ≤ 300 ∧ n1 ≤ 20)) :
    Calls Tryd.prog 6 #[.slice ao nn cap, .slice A1 n1 cap1] W fun e W' => e = .returned (.bool true) ∧ Below W.heap.size W W' := by
  have HL := Lib.hid hL
  have HM := Lib.hid hM
  have hn' : 300 < nn ∨ (nn ≤ 300 ∧ 20 < n1) := by omega
  clear hL hM hn
  go_enter Tryd.func6, Tryd.ntmps6
  rcases hn' with hn | ⟨hn, hn1⟩
  · have h1 : (300 : Int) < (nn : Int) := by omega
    go_wp2_with fail
    ((with_reducible refine (lives12_any HL.out HM.out).mono ?_); rintro e w4 ⟨rfl, hb⟩)
    go_wp2_with fail
    go_ret
    exact ⟨rfl, hb⟩
  · have h1 : ¬ (300 : Int) < (nn : Int) := by omega
    have h2 : (20 : Int) < (n1 : Int) := by omega
    go_wp2_with fail
    ((with_reducible refine (lives12_any HL.out HM.out).mono ?_); rintro e w4 ⟨rfl, hb⟩)
    go_wp2_with fail
    go_ret
    exact ⟨rfl, hb⟩
theorem slot256 : (Lit.int .i64 256).wf = true := by decide
theorem getD_mem {es : List EP} {i : Nat} (hi : i < es.length) : es.getD i EP.zero ∈ es := by
  rw [List.getD_eq_getElem?_getD, List.getElem?_eq_getElem hi]
  exact List.getElem_mem hi
theorem one_ptr (a b c : Nat) : ∀ u ∈ [Value.pointer (some ⟨a, 0, none⟩), .pointer (some ⟨b, 0, none⟩), .pointer (some ⟨c, 0, none⟩)], u.oneCell' = true := fun u hu => by
  simp only [List.mem_cons, List.not_mem_nil, or_false] at hu
  rcases hu with rfl | rfl | rfl <;> rfl
theorem zG_eq : zeroCs 74 = #[.int .i64 0, .int .u64 0, .int .i64 0, .int .i64 0, .slice none 0 0, .int .i64 0, .int .i64 0] := by kernel_rfl
theorem zT_eq : zeroCs 76 = #[.int .i64 0, .int .u64 0, .int .i64 0, .int .i64 0, .int .i64 0, .int .u32 0, .bool false, .int .u64 0, .int .u64 0, .int .u64 0, .slice none 0 0] := by kernel_rfl
theorem infoPG : (Tryd.prog.info? 40).map (fun i => (i.zero, i.size, i.bytes)) = some (some (.pointer none), 1, 8) := by kernel_rfl
theorem void_first (w1 : World) : PRepO false w1.heap.size [w1.heap.size] (newG []) ((w1.alloc (.cells #[.int .i64 0, .int .u64 0, .int .i64 0, .int .i64 0, .slice none 0 0, .int .i64 0, .int .i64 0] 74)).alloc (.cells #[.int .i64 0, .int .u64 0, .int .i64 0, .int .i64 0, .int .i64 0, .int .u32 0, .bool false, .int .u64 0, .int .u64 0, .int .u64 0, .slice none 0 0] 76)) ∧ PRepO true (w1.heap.size + 1) [w1.heap.size + 1] o0T ((w1.alloc (.cells #[.int .i64 0, .int .u64 0, .int .i64 0, .int .i64 0, .slice none 0 0, .int .i64 0, .int .i64 0] 74)).alloc (.cells #[.int .i64 0, .int .u64 0, .int .i64 0, .int .i64 0, .int .i64 0, .int .u32 0, .bool false, .int .u64 0, .int .u64 0, .int .u64 0, .slice none 0 0] 76)) ∧ Below w1.heap.size w1 ((w1.alloc (.cells #[.int .i64 0, .int .u64 0, .int .i64 0, .int .i64 0, .slice none 0 0, .int .i64 0, .int .i64 0] 74)).alloc (.cells #[.int .i64 0, .int .u64 0, .int .i64 0, .int .i64 0, .int .i64 0, .int .u32 0, .bool false, .int .u64 0, .int .u64 0, .int .u64 0, .slice none 0 0] 76)) := by
  have hA := (Below.refl _ w1).alloc (Nat.le_refl _) (.cells #[.int .i64 0, .int .u64 0, .int .i64 0, .int .i64 0, .slice none 0 0, .int .i64 0, .int .i64 0] 74)
  have hB : Below (w1.alloc (.cells #[.int .i64 0, .int .u64 0, .int .i64 0, .int .i64 0, .slice none 0 0, .int .i64 0, .int .i64 0] 74)).heap.size (w1.alloc (.cells #[.int .i64 0, .int .u64 0, .int .i64 0, .int .i64 0, .slice none 0 0, .int .i64 0, .int .i64 0] 74)) ((w1.alloc (.cells #[.int .i64 0, .int .u64 0, .int .i64 0, .int .i64 0, .slice none 0 0, .int .i64 0, .int .i64 0] 74)).alloc (.cells #[.int .i64 0, .int .u64 0, .int .i64 0, .int .i64 0, .int .i64 0, .int .u32 0, .bool false, .int .u64 0, .int .u64 0, .int .u64 0, .slice none 0 0] 76)) := (Below.refl _ _).alloc (Nat.le_refl _) _
  refine ⟨zeroG ?_, zeroT ?_, hA.trans (hB.mono hA.size)⟩
  · rw [zG_eq]
    exact (hB.block _ (by rw [World.size_alloc]; omega)).trans (alloc_blk _ _)
  · rw [zT_eq]
    have := alloc_blk (w1.alloc (.cells #[.int .i64 0, .int .u64 0, .int .i64 0, .int .i64 0, .slice none 0 0, .int .i64 0, .int .i64 0] 74)) (.cells #[.int .i64 0, .int .u64 0, .int .i64 0, .int .i64 0, .int .i64 0, .int .u32 0, .bool false, .int .u64 0, .int .u64 0, .int .u64 0, .slice none 0 0] 76)
    rw [World.size_alloc] at this
    exact this
set_option maxRecDepth 100000 in
set_option maxHeartbeats 16000000 in
theorem void_good (ao : Option Addr) (cap nn : Nat) (A1 : Option Addr) (cap1 n1 : Nat) (es : List EP) (W : World) (hL : Lay W) (hM : LayM W) (hn : nn ≤ 300) (hn1 : n1 ≤ 20) (hl1 : es.length = n1) (hs1 : SeeE W (.slice A1 n1 cap1) es) (hk1 : ∀ e ∈ es, EP.ok e)
    (hbeg : Calls Tryd.prog 8 #[.slice ao nn cap] W fun e W' => ∃ p m b, e = .returned (.agg #[.pointer (some ⟨p, 0, none⟩), .pointer (some ⟨b, 0, none⟩)]) ∧ Both p m b nn W' ∧ W.heap.size ≤ m ∧ m < p ∧ p < b ∧ Below W.heap.size W W') :
    Calls Tryd.prog 6 #[.slice ao nn cap, .slice A1 n1 cap1] W fun e W' => e = .returned (.bool true) ∧ Below W.heap.size W W' := by
  obtain ⟨i0, hi0, hz0, hz1, hz2⟩ := info_parts infoE
  have HL := Lib.hid hL
  have HM := Lib.hid hM
  have HSE := Lib.hid hs1
  have HOK := Lib.hid hk1
  have HLE := Lib.hid hl1
  have hn' : ¬ (300 : Int) < (nn : Int) := by omega
  have hn1' : ¬ (20 : Int) < (n1 : Int) := by omega
  clear hL hM hs1 hk1 hl1
  go_enter Tryd.func6, Tryd.ntmps6
  go_wp2_with fail
  ((with_reducible refine hbeg.mono ?_); rintro e w1 ⟨p, m, b, rfl, ⟨k, D, s, L, hp, _, _, _, _, _⟩, _, _, _, hb1⟩)
  have HP := Lib.hid hp.prog
  have HB := Lib.hid hb1
  clear hp hb1 hbeg
  have hfp := f_pair0 p b w1
  go_wp2_with fail
  ((with_reducible refine (steps_prog p m k D s.st s.ak s.k s.a s.f s.was s.is s.done w1 HP.out).mono ?_); rintro e w9 ⟨rfl, hq⟩)
  subst hq
  clear hfp
  obtain ⟨r0, rT, hb2⟩ := void_first w1
  have HR0 := Lib.hid r0
  have HRT := Lib.hid rT
  have HB2 := Lib.hid hb2
  clear r0 rT hb2
  go_wp2_with fail
  ((with_reducible refine (VO.new (see_nil _) (by simp) (by decide) bad_nil).mono ?_); rintro e w3 ⟨q2, rfl, hv, hb3⟩)
  have HX := Lib.hid (show VdS w1 (w1.heap.size + 1) [none, some w1.heap.size, some q2] (.slice (some ⟨w3.heap.size, 0, none⟩) 3 3) (w3.alloc (.cells #[.pointer none, .pointer (some ⟨w1.heap.size, 0, none⟩), .pointer (some ⟨q2, 0, none⟩)] 40)) from by
    have hA : Below w3.heap.size w3 (w3.alloc (.cells #[.pointer none, .pointer (some ⟨w1.heap.size, 0, none⟩), .pointer (some ⟨q2, 0, none⟩)] 40)) := (Below.refl _ _).alloc (Nat.le_refl _) _
    have h13 := HB2.out.trans (hb3.mono HB2.out.size)
    refine ⟨h13.trans (hA.mono h13.size), (HRT.out.below hb3).below hA, own_new w3 _ _ [pG none, pG (some w1.heap.size), pG (some q2)] h13.size rfl (by decide), fun x hx => ?_⟩
    simp only [List.mem_cons, List.not_mem_nil, or_false] at hx
    rcases hx with rfl | rfl | rfl
    · exact fun q hq => by cases hq
    · exact VO.below (w := w3) (fun q hq => by injection hq with hq; subst hq; exact ⟨_, [], bad_nil, HR0.out.below hb3⟩) hA
    · exact hv.below hA)
  clear hv hb3 HR0 HRT HB2
  go_upto_region 10 with (fail)
  revert HX
  generalize (w3.alloc (.cells #[.pointer none, .pointer (some ⟨w1.heap.size, 0, none⟩), .pointer (some ⟨q2, 0, none⟩)] 40)) = w4
  generalize w3.heap.size = R0
  intro HX
  have HXX := Lib.hid (show ∃ qs : List (Option Nat), qs.length = 3 ∧ VdS w1 (w1.heap.size + 1) qs (.slice (some ⟨R0, 0, none⟩) 3 3) w4 from ⟨_, rfl, HX.out⟩)
  clear HX
  obtain ⟨zT, hzT⟩ : ∃ zT, w1.heap.size + 1 = zT := ⟨_, rfl⟩
  rw [hzT] at HXX ⊢
  clear hzT
  go_wp2_with fail
  go_loopw [11, 12] (fun vr j wr => ∃ i nq : Nat, ∃ A : Option Addr, ∃ c : Nat, i ≤ n1 ∧ nq = 3 + 3 * i ∧ vr = .slice A nq c ∧ j = .int .i64 (i : Int) ∧ Hid (∃ qs : List (Option Nat), qs.length = nq ∧ VdS w1 zT qs (.slice A nq c) wr)) (fun _ j _ => n1 + 1 - (intOf j).toNat)
  case atStart => exact ⟨0, 3, _, _, Nat.zero_le _, rfl, rfl, rfl, HXX⟩
  case round =>
    clear HXX
    obtain ⟨i, nq, A, c, hi, hnq, rfl, rfl, HR⟩ := hrel
    rename World => w5
    have hge : (0 : Int) ≤ (i : Int) := by omega
    have HNQ := Lib.hid hnq
    clear hnq
    by_cases hlt : i < n1
    · have hlt' : (i : Int) < (n1 : Int) := by omega
      obtain ⟨qs, hqs, H⟩ := HR.out
      have HV := Lib.hid H
      have HQ := Lib.hid hqs
      clear HR H hqs
      obtain ⟨hc0, hc1, g1, o1, rfl⟩ := HSE.out.addr (by omega)
      have hWX := Lib.hid (HB.out.trans (HV.out.low.mono HB.out.size))
      have HSX := Lib.hid (low_see hWX.out HSE.out)
      have HLE6 := Lib.hid (show (flatE es).length = n1 * 6 by rw [flatE_len, HLE.out])
      have hie : i < es.length := by have := HLE.out; omega
      obtain ⟨es1, eg, ek, eb, ec, ed, HE⟩ : ∃ es1 eg ek eb ec ed, Hid (es.getD i EP.zero = ⟨es1, eg, ek, eb, ec, ed⟩) := ⟨_, _, _, _, _, _, Lib.hid rfl⟩
      go_upto_region 13 with (fail)
      go_cut [13] (fun x wx => ∃ g c, x = .slice (some ⟨g, 0, none⟩) (n1 + 1) c ∧ Hid (Below w5.heap.size w5 wx ∧ OwnE wx w5.drew.heap.size (.slice (some ⟨g, 0, none⟩) (n1 + 1) c) (es ++ [⟨es1, eg, ek, eb, ec, ed⟩])))
      case first =>
        have hsd := HSX.out.below (Below.refl _ w5).drew
        have HSD := Lib.hid hsd
        have hsix := hsd.six hie
        rw [HE.out] at hsix
        obtain ⟨x0, x1, x2, x3, x4, x5⟩ := hsix
        dsimp only at x0 x1 x2 x3 x4 x5
        clear hsd
        have HONE := Lib.hid (flatE_one (xs := es))
        have hn0 : 0 < n1 := by omega
        have hBX := Lib.hid (show W.heap.size ≤ w5.drew.heap.size from hWX.out.size)
        have hAL := Lib.hid (show Below w5.drew.heap.size w5.drew (w5.drew.alloc (.cells #[.int .i64 es1, .int .u32 eg, .bool ek, .int .u64 eb, .int .u64 ec, .int .u64 ed] 48)) from (Below.refl _ _).alloc (Nat.le_refl _) _)
        have HSA := Lib.hid (HSD.out.below hAL.out)
        have HBA := Lib.hid (show W.heap.size ≤ (w5.drew.alloc (.cells #[.int .i64 es1, .int .u32 eg, .bool ek, .int .u64 eb, .int .u64 ec, .int .u64 ed] 48)).heap.size from Nat.le_trans hBX.out hAL.out.size)
        have HNA := Lib.hid (show Bq w5.drew.heap.size 48 (EP.cells ⟨es1, eg, ek, eb, ec, ed⟩) (w5.drew.alloc (.cells #[.int .i64 es1, .int .u32 eg, .bool ek, .int .u64 eb, .int .u64 ec, .int .u64 ed] 48)) from Bq.new w5.drew (EP.cells ⟨es1, eg, ek, eb, ec, ed⟩) 48)
        have h5d := Lib.hid (show Below w5.heap.size w5 w5.drew from (Below.refl _ w5).drew)
        go_region_law (first
          | (refine step_append_at _ rfl (.const (.slice none 0 0)) (.tmp 40) 43 rfl w5.drew.heap.size 48 i0 _ 6 40 Tryd.underlying43 hi0 hz0 hz1 hz2 rfl (by decide) (.slice none 0 0) 0 [] (by first | rfl | simp [Act.eval]) (World.ownsRow_nil _ _ _ _) ⟨g1, o1, none⟩ n1 cap1 (flatE es) (by first | rfl | simp [Act.eval]) HLE6.out HSD.out.reads HONE.out (by unfold maxLen; omega) (by omega) (Nat.le_refl _) ?_; intro v6 w6 h6 g6 b6; obtain ⟨g6', c6, rfl, ho6⟩ := own_copy HLE.out h6 hn0; have HO6 := Lib.hid ho6; have HB6 := Lib.hid (grown_below g6); have hsix6 := (HSD.out.below HB6.out).six hie; rw [HE.out] at hsix6; obtain ⟨y0, y1, y2, y3, y4, y5⟩ := hsix6; dsimp only at y0 y1 y2 y3 y4 y5; have HA6 := Lib.hid (show Below w6.heap.size w6 (w6.alloc (.cells #[.int .i64 es1, .int .u32 eg, .bool ek, .int .u64 eb, .int .u64 ec, .int .u64 ed] 48)) from (Below.refl _ _).alloc (Nat.le_refl _) _); clear h6 g6 b6 ho6)
          | (refine step_append_at _ rfl (.const (.slice none 0 0)) (.tmp 40) 43 rfl w5.drew.heap.size 48 i0 _ 6 40 Tryd.underlying43 hi0 hz0 hz1 hz2 rfl (by decide) (.slice none 0 0) 0 [] (by first | rfl | simp [Act.eval]) (World.ownsRow_nil _ _ _ _) ⟨g1, o1, none⟩ n1 cap1 (flatE es) (by first | rfl | simp [Act.eval]) HLE6.out HSA.out.reads HONE.out (by unfold maxLen; omega) (by omega) hAL.out.size ?_; intro v6 w6 h6 g6 b6; obtain ⟨g6', c6, rfl, ho6⟩ := own_copy HLE.out h6 hn0; have HO6 := Lib.hid ho6; have HB6 := Lib.hid (hAL.out.trans ((grown_below g6).mono hAL.out.size)); have HN6 := Lib.hid (HNA.out.below (grown_below g6)); clear h6 g6 b6 ho6)
          | (revert HA6; intro HA6; refine step_append_at _ rfl (.tmp 41) (.tmp 46) 43 rfl w5.drew.heap.size 48 i0 _ 6 40 Tryd.underlying43 hi0 hz0 hz1 hz2 rfl (by decide) (.slice (some ⟨g6', 0, none⟩) n1 c6) n1 (flatE es) (by first | rfl | simp [Act.eval]) ((HO6.out.below HA6.out).cnt HLE.out) ⟨w6.heap.size, 0, none⟩ 1 1 (EP.cells ⟨es1, eg, ek, eb, ec, ed⟩) (by first | rfl | simp [Act.eval]) rfl (row_reads w6 ⟨es1, eg, ek, eb, ec, ed⟩) (cells_oneE _) (by unfold maxLen; omega) (by omega) (Nat.le_trans HB6.out.size HA6.out.size) ?_; intro v7 w7 h7 g7 b7; obtain ⟨g7', c7, rfl, ho7⟩ := own_add HLE.out h7; have HF := Lib.hid (show OwnE w7 w5.drew.heap.size (.slice (some ⟨g7', 0, none⟩) (n1 + 1) c7) (es ++ [⟨es1, eg, ek, eb, ec, ed⟩]) from ho7); have HBF := Lib.hid (own_grown (HO6.out.below HA6.out) (h5d.out.trans ((HB6.out.trans (HA6.out.mono HB6.out.size)).mono h5d.out.size)) (Nat.le_refl _) g7); clear h7 g7 b7 ho7)
          | (revert HN6; intro HN6; refine step_append_at _ rfl (.tmp 41) (.tmp 46) 43 rfl w5.drew.heap.size 48 i0 _ 6 40 Tryd.underlying43 hi0 hz0 hz1 hz2 rfl (by decide) (.slice (some ⟨g6', 0, none⟩) n1 c6) n1 (flatE es) (by first | rfl | simp [Act.eval]) (HO6.out.cnt HLE.out) ⟨w5.drew.heap.size, 0, none⟩ 1 1 (EP.cells ⟨es1, eg, ek, eb, ec, ed⟩) (by first | rfl | simp [Act.eval]) rfl (bq_reads HN6.out) (cells_oneE _) (by unfold maxLen; omega) (by omega) HB6.out.size ?_; intro v7 w7 h7 g7 b7; obtain ⟨g7', c7, rfl, ho7⟩ := own_add HLE.out h7; have HF := Lib.hid (show OwnE w7 w5.drew.heap.size (.slice (some ⟨g7', 0, none⟩) (n1 + 1) c7) (es ++ [⟨es1, eg, ek, eb, ec, ed⟩]) from ho7); have HBF := Lib.hid (own_grown HO6.out (h5d.out.trans (HB6.out.mono h5d.out.size)) (Nat.le_refl _) g7); clear h7 g7 b7 ho7))
        all_goals (go_wp2_with fail)
        all_goals go_meet
        all_goals exact ⟨_, _, rfl, Lib.hid ⟨HBF.out, HF.out⟩⟩
      case rest =>
        obtain ⟨g7, c7, rfl, HC⟩ := hcut
        rename World => w6
        have HONE := Lib.hid (flatE_one (xs := es))
        have hn0 : 0 < n1 := by omega
        have HV6 := Lib.hid (HV.out.below HC.out.1)
        have HO13 := Lib.hid HC.out.2
        have HS6 := Lib.hid (HSX.out.below HC.out.1)
        clear HV HSX HC
        go_upto_region 16 with (at_builtin; go_loud (refine wpList_append_own_at _ rfl (.const (.slice none 0 0)) (.tmp 48) 43 rfl w6.heap.size 48 i0 _ 6 40 Tryd.underlying43 hi0 hz0 hz1 hz2 rfl (by decide) (.slice none 0 0) 0 [] rfl (World.ownsRow_nil _ _ _ _) ⟨g1, o1, none⟩ n1 cap1 (flatE es) rfl HLE6.out HS6.out.reads HONE.out (by unfold maxLen; omega) (by omega) (Nat.le_refl _) ?_; intro v' w7 h7 g7' _ b7; obtain ⟨g8, c8, rfl, ho8⟩ := own_copy HLE.out h7 hn0; have HG8 := Lib.hid (ho8.bq rfl).1; have HO8 := Lib.hid ho8; have HB7 := Lib.hid (grown_below g7'); have hsix7 := ho8.see.six hie; rw [HE.out] at hsix7; obtain ⟨y0, y1, y2, y3, y4, y5⟩ := hsix7; dsimp only at y0 y1 y2 y3 y4 y5; simp only [Nat.zero_add] at y0 y1 y2 y3 y4 y5; have hfz := ho8.freeC (i * 6 + 2); clear h7 g7' b7 ho8))
        clear y0 y1 y2 y3 y4 y5 hfz
        have HB8 := Lib.hid (setc_below (k := i * 6 + 2) (v := .bool true) HB7.out HG8.out)
        have HO8' := Lib.hid (HO8.out.setc (i := i) (j := 2) (v := .bool true) (e' := ⟨es1, eg, true, eb, ec, ed⟩) hie (by decide) (by rw [HE.out]; rfl))
        have HV8 := Lib.hid (HV6.out.below HB8.out)
        have HO13b := Lib.hid (HO13.out.below HB8.out)
        have HS8 := Lib.hid (HS6.out.below HB8.out)
        clear HO8 HV6 HO13 HS6 HB7 HG8 HB8
        revert HO8' HV8 HO13b HS8
        generalize (w7.setCell ⟨g8, i * 6 + 2, none⟩ (.bool true)) = w8
        intro HO8' HV8 HO13b HS8
        go_upto_region 18 with (at_builtin; go_loud (refine wpList_append_own_at _ rfl (.const (.slice none 0 0)) (.tmp 55) 43 rfl w8.heap.size 48 i0 _ 6 40 Tryd.underlying43 hi0 hz0 hz1 hz2 rfl (by decide) (.slice none 0 0) 0 [] rfl (World.ownsRow_nil _ _ _ _) ⟨g1, o1, none⟩ n1 cap1 (flatE es) rfl HLE6.out HS8.out.reads HONE.out (by unfold maxLen; omega) (by omega) (Nat.le_refl _) ?_; intro v' w9 h9 g9' _ b9; obtain ⟨g9, c9, rfl, ho9⟩ := own_copy HLE.out h9 hn0; have HG9 := Lib.hid (ho9.bq rfl).1; have HO9 := Lib.hid ho9; have HB9 := Lib.hid (grown_below g9'); have hsix9 := ho9.see.six hie; rw [HE.out] at hsix9; obtain ⟨y0, y1, y2, y3, y4, y5⟩ := hsix9; dsimp only at y0 y1 y2 y3 y4 y5; simp only [Nat.zero_add] at y0 y1 y2 y3 y4 y5; have hfz := ho9.freeC (i * 6 + 0); simp only [Nat.add_zero] at hfz; clear h9 g9' b9 ho9))
        clear y0 y1 y2 y3 y4 y5 hfz
        have HB10 := Lib.hid (setc_below (k := i * 6) (v := .int .i64 256) HB9.out HG9.out)
        have HO9' := Lib.hid (HO9.out.setc (i := i) (j := 0) (v := .int .i64 256) (e' := ⟨256, eg, ek, eb, ec, ed⟩) hie (by decide) (by rw [HE.out]; rfl))
        have HV10 := Lib.hid (HV8.out.below HB10.out)
        have HO13c := Lib.hid (HO13b.out.below HB10.out)
        have HO8c := Lib.hid (HO8'.out.below HB10.out)
        clear HO9 HV8 HO13b HS8 HB9 HG9 HB10 HO8'
        revert HO9' HV10 HO13c HO8c
        simp only [Nat.add_zero]
        generalize (w9.setCell ⟨g9, i * 6, none⟩ (.int .i64 256)) = w10
        intro HO9' HV10 HO13c HO8c
        go_wp2_with fail
        have hEok : EP.ok ⟨es1, eg, ek, eb, ec, ed⟩ := by
          have h := HOK.out _ (getD_mem hie)
          rw [HE.out] at h
          exact h
        have hbad1 : ¬ mayE (es ++ [⟨es1, eg, ek, eb, ec, ed⟩]) := by have := bad_dup hie; rw [HE.out] at this; exact this
        have hok1 : ∀ e ∈ es ++ [⟨es1, eg, ek, eb, ec, ed⟩], EP.ok e := fun e he => by
          rcases List.mem_append.1 he with h | h
          · exact HOK.out e h
          · rw [List.mem_singleton.1 h]; exact hEok
        have hlen1 : (es ++ [(⟨es1, eg, ek, eb, ec, ed⟩ : EP)]).length < 100000 := by rw [List.length_append, HLE.out]; show n1 + 1 < 100000; omega
        have hN1 := Lib.hid (VO.new HO13c.out.see hok1 hlen1 hbad1)
        have hEok2 : EP.ok ⟨es1, eg, true, eb, ec, ed⟩ := hEok
        have hEok3 : EP.ok ⟨256, eg, ek, eb, ec, ed⟩ := ⟨slot256, hEok.2⟩
        have HB2 := Lib.hid (bad_mark (es := es) (e' := ⟨es1, eg, true, eb, ec, ed⟩) hie rfl)
        have HB3 := Lib.hid (bad_slot (es := es) (e' := ⟨256, eg, ek, eb, ec, ed⟩) hie rfl)
        have HK2 := Lib.hid (ok_set (i := i) HOK.out hEok2)
        have HK3 := Lib.hid (ok_set (i := i) HOK.out hEok3)
        have HL2 := Lib.hid (show (es.set i (⟨es1, eg, true, eb, ec, ed⟩ : EP)).length < 100000 by rw [List.length_set, HLE.out]; omega)
        have HL3 := Lib.hid (show (es.set i (⟨256, eg, ek, eb, ec, ed⟩ : EP)).length < 100000 by rw [List.length_set, HLE.out]; omega)
        clear hEok hbad1 hok1 hlen1 hEok2 hEok3
        ((with_reducible refine hN1.out.mono ?_); rintro e w11 ⟨qa, rfl, va, hb11⟩)
        have HV11 := Lib.hid (HV10.out.below hb11)
        have HVA := Lib.hid va
        have HN2 := Lib.hid (VO.new (HO8c.out.below hb11).see HK2.out HL2.out HB2.out)
        have HO9d := Lib.hid (HO9'.out.below hb11)
        clear hN1 va hb11 HV10 HO8c HO9' HO13c
        go_wp2_with fail
        ((with_reducible refine HN2.out.mono ?_); rintro e w12 ⟨qb, rfl, vb, hb12⟩)
        have HV12 := Lib.hid (HV11.out.below hb12)
        have HVA2 := Lib.hid (HVA.out.below hb12)
        have HVB := Lib.hid vb
        have HN3 := Lib.hid (VO.new (HO9d.out.below hb12).see HK3.out HL3.out HB3.out)
        clear HN2 vb hb12 HV11 HVA HO9d
        go_wp2_with fail
        ((with_reducible refine HN3.out.mono ?_); rintro e w13 ⟨qc, rfl, vc, hb13⟩)
        have hA : Below w13.heap.size w13 (w13.alloc (.cells #[.pointer (some ⟨qa, 0, none⟩), .pointer (some ⟨qb, 0, none⟩), .pointer (some ⟨qc, 0, none⟩)] 40)) := (Below.refl _ _).alloc (Nat.le_refl _) _
        have HV14 := Lib.hid ((HV12.out.below hb13).below hA)
        have HVA4 := Lib.hid ((HVA2.out.below hb13).below hA)
        have HVB4 := Lib.hid ((HVB.out.below hb13).below hA)
        have HVC4 := Lib.hid (vc.below hA)
        have HC5 := Lib.hid (bq_reads (Bq.new w13 [.pointer (some ⟨qa, 0, none⟩), .pointer (some ⟨qb, 0, none⟩), .pointer (some ⟨qc, 0, none⟩)] 40))
        have HROW := Lib.hid (HQ.out ▸ HV14.out.row)
        have HONP := Lib.hid (one_ptr qa qb qc)
        have hnq : nq ≤ 100 := by have := HNQ.out; omega
        obtain ⟨ip, hip, hp0, hp1, hp2⟩ := info_parts infoPG
        clear HN3 vc hb13 HV12 HVA2 HVB hA
        go_wp2_with (at_builtin; go_loud (refine wpList_append_own_at _ rfl (.tmp 62) (.tmp 69) 78 rfl w1.heap.size 40 ip _ 1 8 Tryd.underlying78 hip hp0 hp1 hp2 rfl (by decide) _ nq (qs.map pG) rfl HROW.out ⟨w13.heap.size, 0, none⟩ 3 3 [.pointer (some ⟨qa, 0, none⟩), .pointer (some ⟨qb, 0, none⟩), .pointer (some ⟨qc, 0, none⟩)] rfl rfl HC5.out HONP.out (by unfold maxLen; omega) (by omega) HV14.out.low.size ?_; intro v' w14 h14 g14 _ b14; have HV15 := Lib.hid (HV14.out.push HVA4.out HVB4.out HVC4.out (HQ.out.symm ▸ h14) g14); obtain ⟨g15, c15, rfl⟩ := ownsRow_pos h14 (by omega); clear h14 g14 b14 HV14 HVA4 HVB4 HVC4 HROW HC5))
        go_roundw
        case rel => exact ⟨i + 1, nq + 3, _, _, by omega, by have := HNQ.out; omega, rfl, by go_num, Lib.hid ⟨_, by rw [List.length_append, HQ.out]; rfl, HV15.out⟩⟩
        case measure => simp [intOf]; omega
    · have hlt' : ¬ (i : Int) < (n1 : Int) := by omega
      obtain ⟨qs, hqs, H⟩ := HR.out
      have h3 : 3 ≤ nq := by have := HNQ.out; omega
      have hnq : nq ≤ 100 := by have := HNQ.out; omega
      obtain ⟨gA, cA, eA⟩ := ownsRow_pos (hqs ▸ H.row) (by omega)
      injection eA with eA1 eA2 eA3
      subst eA1 eA3
      have HV := Lib.hid H
      have HQ := Lib.hid hqs
      clear HR H hqs
      go_wp2_with fail
      go_loopw [16] (fun j wr => ∃ jn : Nat, jn ≤ nq ∧ j = .int .i64 (jn : Int) ∧ Hid (VdS w1 zT qs (.slice (some ⟨gA, 0, none⟩) nq c) wr)) (fun j _ => nq + 1 - (intOf j).toNat)
      case atStart => exact ⟨0, Nat.zero_le _, rfl, HV⟩
      case round =>
        clear HV
        obtain ⟨jn, hj, rfl, HV⟩ := hrel
        rename World => w7
        have hge' : (0 : Int) ≤ (jn : Int) := by omega
        by_cases hjl : jn < nq
        · have hjl' : (jn : Int) < (nq : Int) := by omega
          have hjq : jn < qs.length := by have := HQ.out; omega
          have hcj := HV.out.at_ hjq
          have HVO := Lib.hid (HV.out.vo hjq)
          have hst := Lib.hid (HVO.out.step (.pointer (some ⟨p, 0, none⟩)))
          revert hcj HVO hst
          generalize hx : qs.getD jn none = x
          intro hcj HVO hst
          have HX := Lib.hid hx
          clear hx
          have hcap : nq ≤ c := by
            rcases HV.out.row.2 with ⟨e, _⟩ | ⟨g', cap', cur, e, _, hg, hc, _⟩
            · cases e
            · injection e with e1 e2 e3
              omega
          generalize hpx : pG x = px at hcj hst
          have HPX := Lib.hid hpx
          clear hpx
          go_wp2_with fail
          ((with_reducible refine hst.out.mono ?_); rintro e w8 ⟨rfl, hb8⟩)
          have HV8 := Lib.hid (HV.out.below hb8)
          have HVO8 := Lib.hid (HVO.out.below hb8)
          have hcj8 := HV8.out.at_ hjq
          rw [HX.out, HPX.out] at hcj8
          have hov := Lib.hid (HVO8.out.over)
          rw [HPX.out] at hov
          clear hst hb8 hcj HV HVO
          go_wp2_with fail
          ((with_reducible refine hov.out.mono ?_); rintro e w9 ⟨rfl, hb9⟩)
          have HV9 := Lib.hid (HV8.out.below hb9)
          clear hov hb9 hcj8 HV8 HVO8
          go_wp2_with fail
          go_roundw
          case rel => exact ⟨jn + 1, by omega, by go_num, HV9⟩
          case measure => simp [intOf]; omega
        · have hjl' : ¬ (jn : Int) < (nq : Int) := by omega
          go_wp2_with fail
          ((with_reducible refine (takeStep_nil _ _).mono ?_); rintro e w8 ⟨rfl, hb8⟩)
          have HV8 := Lib.hid (HV.out.below hb8)
          clear hb8 HV
          go_wp2_with fail
          ((with_reducible refine (overT_nil _).mono ?_); rintro e w9 ⟨rfl, hb9⟩)
          have HV9 := Lib.hid (HV8.out.below hb9)
          clear hb9 HV8
          go_wp2_with fail
          ((with_reducible refine (gotT_nil _).mono ?_); rintro e w10 ⟨AG, kG, rfl, hb10⟩)
          have HV10 := Lib.hid (HV9.out.below hb10)
          clear hb10 HV9
          go_wp2_with fail
          ((with_reducible refine (HV10.out.stepT _).mono ?_); rintro e w11 ⟨rfl, h11⟩)
          have HV11 := Lib.hid h11
          clear h11 HV10
          go_wp2_with fail
          ((with_reducible refine HV11.out.overT.mono ?_); rintro e w12 ⟨rfl, h12⟩)
          have HV12 := Lib.hid h12
          clear h12 HV11
          go_wp2_with fail
          ((with_reducible refine HV12.out.gotT.mono ?_); rintro e w13 ⟨AH, kH, rfl, h13⟩)
          have HV13 := Lib.hid h13
          clear h13 HV12
          go_wp2_with fail
          ((with_reducible refine (steps_prog p m k D s.st s.ak s.k s.a s.f s.was s.is s.done w13 (HP.out.below HV13.out.low)).mono ?_); rintro e w14 ⟨rfl, hq⟩)
          subst hq
          have HW := Lib.hid (HB.out.trans (HV13.out.low.mono HB.out.size))
          go_wp2_with fail
          ((with_reducible refine (lives12_any (HL.out.below HW.out) (HM.out.below HW.out)).mono ?_); rintro e w15 ⟨rfl, hbl⟩)
          go_wp2_with fail
          go_ret
          exact ⟨rfl, HW.out.trans (hbl.mono HW.out.size)⟩
end Go.Proofs.YtjpanofkikfeoaaDoor
