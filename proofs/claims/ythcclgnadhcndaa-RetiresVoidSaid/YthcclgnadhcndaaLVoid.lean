/-
  The law RetiresVoid, walked: it returns true and only makes memory of its own; condition: what the package does.
-/
import Derived.Test.YthcclgnadhcndaaRS3
import Derived.Deep.RegionLaw
import Derived.Deep.DeepCutAuto
import Derived.Deep.RegionWith
import Derived.BigQuiet
namespace Go.Proofs.Ythcclgnadhcndaa
open Go.RowKit Go.Maps

theorem box_six {g : Nat} {es eg eb ec ed : Int} {ek : Bool} {w : World} (h : Bq g 34 (EP.cells ⟨es, eg, ek, eb, ec, ed⟩) w) : w.cell? ⟨g, 0, none⟩ = some (.int .i64 es) ∧ w.cell? ⟨g, 1, none⟩ = some (.int .u32 eg) ∧ w.cell? ⟨g, 2, none⟩ = some (.bool ek) ∧ w.cell? ⟨g, 3, none⟩ = some (.int .u64 eb) ∧ w.cell? ⟨g, 4, none⟩ = some (.int .u64 ec) ∧ w.cell? ⟨g, 5, none⟩ = some (.int .u64 ed) := ⟨h.cell 0, h.cell 1, h.cell 2, h.cell 3, h.cell 4, h.cell 5⟩
theorem zL_rep (w : World) : SR w w.heap.size [w.heap.size] [] (w.alloc (.cells #[.slice none 0 0, .map none] 49)) := by
  have hA := (Below.refl _ w).alloc (Nat.le_refl _) (.cells #[.slice none 0 0, .map none] 49)
  exact ⟨hA, zeroR (Bq.new w [.slice none 0 0, .map none] 49), fun x hx => by rw [List.mem_singleton.1 hx]; exact Nat.le_refl _⟩
set_option maxRecDepth 100000 in
set_option maxHeartbeats 4000000 in
theorem void_long (es eg eb ec ed : Int) (ek : Bool) (Ab : Option Addr) (nb cb : Nat) (W : World) (hn : ¬ nb ≤ 100) : Calls Try.prog 4 #[.agg #[.int .i64 es, .int .u32 eg, .bool ek, .int .u64 eb, .int .u64 ec, .int .u64 ed], .slice Ab nb cb] W fun e W' => e = .returned (.bool true) ∧ Below W.heap.size W W' := by
  have h1 : (100 : Int) < (nb : Int) := by omega
  have hA := Lib.hid ((Below.refl W.heap.size W).alloc (Nat.le_refl _) (.cells #[.int .i64 es, .int .u32 eg, .bool ek, .int .u64 eb, .int .u64 ec, .int .u64 ed] 34))
  clear hn
  go_enter Try.func4, Try.ntmps4
  go_wp2_with fail
  ((with_reducible refine (lives_any _).mono ?_); rintro e w4 ⟨rfl, hb⟩)
  go_wp2_with fail
  go_ret
  exact ⟨rfl, hA.out.trans (hb.mono hA.out.size)⟩
set_option maxRecDepth 100000 in
set_option maxHeartbeats 32000000 in
theorem void_good (es eg eb ec ed : Int) (ek : Bool) (Ab : Option Addr) (nb cb : Nat) (bs : List Bool) (W : World) (hn : nb ≤ 100) (hV : BoolV W (.slice Ab nb cb) bs) (hk : EP.ok ⟨es, eg, ek, eb, ec, ed⟩) : Calls Try.prog 4 #[.agg #[.int .i64 es, .int .u32 eg, .bool ek, .int .u64 eb, .int .u64 ec, .int .u64 ed], .slice Ab nb cb] W fun e W' => e = .returned (.bool true) ∧ Below W.heap.size W W' := by
  have h1 : ¬ (100 : Int) < (nb : Int) := by omega
  have HW := Lib.hid ((Below.refl W.heap.size W).alloc (Nat.le_refl _) (.cells #[.int .i64 es, .int .u32 eg, .bool ek, .int .u64 eb, .int .u64 ec, .int .u64 ed] 34))
  have HBX := Lib.hid (Bq.new W (EP.cells ⟨es, eg, ek, eb, ec, ed⟩) 34)
  have HV := Lib.hid hV
  have HK := Lib.hid (show RP.ok ⟨es, eg, ek⟩ from ok_rp hk)
  clear hn hV hk
  go_enter Try.func4, Try.ntmps4
  go_upto_region 4 with (fail)
  revert HW HBX
  obtain ⟨X, hX⟩ : ∃ X, X = (W.alloc (.cells #[.int .i64 es, .int .u32 eg, .bool ek, .int .u64 eb, .int .u64 ec, .int .u64 ed] 34)) := ⟨_, rfl⟩
  rw [← hX]
  obtain ⟨gb, hgb⟩ : ∃ gb, gb = W.heap.size := ⟨_, rfl⟩
  rw [← hgb]
  intro HW HBX
  have HBX := Lib.hid (show Bq gb 34 (EP.cells ⟨es, eg, ek, eb, ec, ed⟩) X from hX ▸ HBX.out)
  have HW := Lib.hid (show Below W.heap.size W X from hgb ▸ HW.out)
  clear hX hgb
  go_cut [36] (fun x wx => x = .bool false ∧ Hid (Below X.heap.size X wx))
  case first =>
    have H0 := Lib.hid (show Below X.heap.size X X.drew from (Below.refl _ X).drew)
    obtain ⟨x0, x1, x2, x3, x4, x5⟩ := box_six (HBX.out.below H0.out)
    go_region_with (first
      | (go_at_call 13; with_reducible refine (add_nil es eg eb ec ed ek _).mono ?_; rintro e wa ⟨rfl, ha⟩; have Ha := Lib.hid (H0.out.trans (ha.mono H0.out.size)); obtain ⟨a0, a1, a2, a3, a4, a5⟩ := box_six (HBX.out.below Ha.out); clear ha)
      | (go_at_call 16; with_reducible refine (len_nil _).mono ?_; rintro e wb ⟨rfl, hb⟩; have Hb := Lib.hid (Ha.out.trans (hb.mono Ha.out.size)); obtain ⟨b0, b1, b2, b3, b4, b5⟩ := box_six (HBX.out.below Hb.out); clear hb)
      | (go_at_call 15; with_reducible refine (all_nil _).mono ?_; rintro e wc ⟨Ac, cc, rfl, hc⟩; have Hc := Lib.hid (Hb.out.trans (hc.mono Hb.out.size)); obtain ⟨c0, c1, c2, c3, c4, c5⟩ := box_six (HBX.out.below Hc.out); clear hc)
      | (go_at_call 9; with_reducible refine (sweep_nil _ _).mono ?_; rintro e wd ⟨Ad, cd, rfl, hd⟩; have Hd := Lib.hid (Hc.out.trans (hd.mono Hc.out.size)); obtain ⟨d0, d1, d2, d3, d4, d5⟩ := box_six (HBX.out.below Hd.out); clear hd)
      | (go_at_call 17; with_reducible refine (born_nil _ _).mono ?_; rintro e wf ⟨rfl, hf⟩; have Hf := Lib.hid (Hd.out.trans (hf.mono Hd.out.size)); obtain ⟨f0, f1, f2, f3, f4, f5⟩ := box_six (HBX.out.below Hf.out); clear hf))
    all_goals (go_wp2_with fail)
    all_goals go_meet
    all_goals exact ⟨rfl, Hf⟩
  case rest =>
    obtain ⟨rfl, HC⟩ := hcut
    rename World => wD
    have HWD := Lib.hid (HW.out.trans (HC.out.mono HW.out.size))
    have HBD := Lib.hid (HBX.out.below HC.out)
    have HVD := Lib.hid (HV.out.below HWD.out)
    clear HC HW HBX HV
    go_upto_region 8 with (fail)
    have HJ := Lib.hid (JR.new (ZL := []) (zL_rep wD) (by rw [World.size_alloc]; omega) rfl rfl)
    rw [World.size_alloc] at HJ
    revert HJ
    obtain ⟨Y, hY⟩ : ∃ Y, Y = ((wD.alloc (.cells #[.slice none 0 0, .map none] 49)).alloc (.cells #[.slice none 0 0] 28)) := ⟨_, rfl⟩
    rw [← hY]
    obtain ⟨q, hq⟩ : ∃ q, q = wD.heap.size := ⟨_, rfl⟩
    obtain ⟨K, hK⟩ : ∃ K, K = wD.heap.size + 1 := ⟨_, rfl⟩
    intro HJ
    have HJ := Lib.hid (show JR wD q [q] K (.slice none 0 0) [] [] Y from hq ▸ hK ▸ hY ▸ HJ.out)
    rw [← hK, ← hq]
    clear hY hq hK
    obtain ⟨N, hN⟩ : ∃ N, addN [] ⟨es, eg, ek, eb, ec, ed⟩ = N := ⟨_, rfl⟩
    obtain ⟨l1, hl1⟩ : ∃ l1, addE [] ⟨es, eg, ek, eb, ec, ed⟩ = l1 := ⟨_, rfl⟩
    have HN := Lib.hid hN
    have HL1 := Lib.hid hl1
    have HLE := Lib.hid (show l1.length ≤ 1 from hl1 ▸ add_le [] ⟨es, eg, ek, eb, ec, ed⟩)
    clear hN hl1
    go_cut [54] (fun x wx => x = .bool false ∧ Hid (∃ fp A c, JR wD q fp K (.slice A l1.length c) l1 l1 wx))
    case first =>
      have HJ0 := Lib.hid (HJ.out.below (Below.refl _ Y).drew)
      obtain ⟨x0, x1, x2, x3, x4, x5⟩ := box_six (HBD.out.below HJ0.out.s.low)
      go_region_with (first
        | (go_at_call 16; with_reducible refine HJ0.out.len0.mono ?_; rintro e wa ⟨rfl, ja⟩; have Ha := Lib.hid ja; obtain ⟨a0, a1, a2, a3, a4, a5⟩ := box_six (HBD.out.below Ha.out.s.low); clear ja)
        | (go_at_call 15; with_reducible refine Ha.out.all0.mono ?_; rintro e wb ⟨Ab2, cb2, rfl, jb⟩; have Hb := Lib.hid jb; obtain ⟨b0, b1, b2, b3, b4, b5⟩ := box_six (HBD.out.below Hb.out.s.low); clear jb)
        | (go_at_call 9; with_reducible refine (Hb.out.sweep0 (HVD.out.below Hb.out.s.low)).mono ?_; rintro e wc ⟨Ac2, cc2, fpc, rfl, jc⟩; have Hc := Lib.hid jc; obtain ⟨c0, c1, c2, c3, c4, c5⟩ := box_six (HBD.out.below Hc.out.s.low); clear jc)
        | (go_at_call 13; with_reducible refine (Hc.out.padd1 (by decide) HK.out HN.out HL1.out).mono ?_; rintro e wd ⟨rfl, fpd, jd⟩; have Hd := Lib.hid jd; obtain ⟨d0, d1, d2, d3, d4, d5⟩ := box_six (HBD.out.below Hd.out.s.low); clear jd)
        | (go_at_call 14; with_reducible refine (Hd.out.dadd1 (by decide) HN.out HL1.out).mono ?_; rintro e wf ⟨rfl, Af2, cf2, jf⟩; have Hf := Lib.hid jf; clear jf))
      all_goals (go_wp2_with fail)
      all_goals go_meet
      all_goals exact ⟨rfl, Lib.hid ⟨_, _, _, Hf.out⟩⟩
    case rest =>
      obtain ⟨rfl, HC⟩ := hcut
      rename World => wE
      obtain ⟨fp, A1, c1, hj⟩ := HC.out
      have HJ1 := Lib.hid hj
      clear HC hj HJ HBD HVD
      go_upto_region 10 with (fail)
      go_cut [4] (fun x wx => x = .bool true ∧ Hid (Below W.heap.size W wx))
      case first =>
        have HJ0 := Lib.hid (HJ1.out.below (Below.refl _ wE).drew)
        have x0 := HJ0.out.d.k.cell 0
        dsimp only [List.getElem?_cons_zero] at x0
        go_region_with (first
          | (go_at_call 15; with_reducible refine (HJ0.out.s.all (by have := HLE.out; omega)).mono ?_; rintro e wa ⟨A2, c2, rfl, hr, _, hb, _⟩; have Hr := Lib.hid hr; have Ha := Lib.hid (HJ0.out.below hb); have a0 := Ha.out.d.k.cell 0; dsimp only [List.getElem?_cons_zero] at a0; clear hr hb)
          | (go_at_call 10; with_reducible refine (same_eq Hr.out.own.see Ha.out.d.row.see (by have := HLE.out; omega) rfl).mono ?_; rintro e wb ⟨rfl, hb⟩; have Hb := Lib.hid (HWD.out.trans ((Ha.out.below hb).s.low.mono HWD.out.size)); clear hb)
          | (go_at_call 7; with_reducible refine (lives_any _).mono ?_; rintro e wc ⟨rfl, hb⟩; have Hc := Lib.hid (Hb.out.trans (hb.mono Hb.out.size)); clear hb))
        all_goals (go_wp2_with fail)
        all_goals go_meet
        all_goals exact ⟨rfl, Hc⟩
      case rest =>
        obtain ⟨rfl, HC⟩ := hcut
        go_wp2_with fail
        go_ret
        exact ⟨rfl, HC.out⟩
end Go.Proofs.Ythcclgnadhcndaa
