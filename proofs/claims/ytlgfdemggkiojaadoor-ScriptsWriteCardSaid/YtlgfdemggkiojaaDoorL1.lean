/-
  The law ScriptsWrite walked: it answers true, and changes nothing that was there; conditions: the table of sizes reads as the program lays it; the commands lie as it says, their small numbers fit their kinds.
-/
import Derived.Test.YtlgfdemggkiojaaDoorL0
namespace Go.Proofs.YtlgfdemggkiojaaDoor
open Go.RowKit

/-- What stands between two rounds of the first loop. -/
structure MAt (w0 : World) (l : List Cm) (k : Nat) (v : Value) (w : World) : Prop where
  own : w.ownsRow w0.heap.size 38 9 v k (flatR (l.take k))
  low : Below w0.heap.size w0 w
theorem take_snoc' {l : List Cm} {k : Nat} {c : Cm} (hc : l[k]? = some c) : l.take (k + 1) = l.take k ++ [c] := by
  obtain ⟨hk, rfl⟩ := List.getElem?_eq_some_iff.1 hc
  exact List.take_succ_eq_append_getElem hk

theorem own_last {w : World} {base g k c : Nat} {xs : List Value} {d : Cm} (h : w.ownsRow base 38 9 (.slice (some ⟨g, 0, none⟩) (k + 1) c) (k + 1) (xs ++ rC d)) (j : Nat) (hj : j < 9) : w.cell? ⟨g, k * 9 + j, none⟩ = (rC d)[j]? := by
  have hx : xs.length = k * 9 := by
    have h1 := h.1
    rw [List.length_append] at h1
    have h2 : (rC d).length = 9 := rfl
    omega
  rw [h.cellAt _ (by omega), List.getElem?_append_right (by omega), hx, show k * 9 + j - k * 9 = j by omega]
set_option maxRecDepth 100000 in
set_option maxHeartbeats 4000000 in
theorem lawWrite (A : Option Addr) (cap : Nat) (l : List Cm) (w : World) (hlay : Lay w) (hs : Slc w A l) (hf : ∀ c ∈ l, c.Fit) (hl : l.length ≤ 300) :
    Calls Tryd.prog 4 #[.slice A l.length cap] w fun e w' => e = .returned (.bool true) ∧ Below w.heap.size w w' := by
  obtain ⟨i0, hi, hz0, hz1, hz2⟩ := info_parts Tryd_info38
  have H0 := Lib.hid (⟨World.ownsRow_nil w _ _ _, Below.refl _ _⟩ : MAt w l 0 (.slice none 0 0) w)
  have HLAY := Lib.hid hlay
  have HS := Lib.hid hs
  have HF := Lib.hid hf
  clear hlay hs hf
  go_enter Tryd.func4, Tryd.ntmps4
  go_wp2_with fail
  go_loopw [3, 4] (fun v i wr => ∃ k : Nat, k ≤ l.length ∧ i = .int .i64 (k : Int) ∧ MAt w l k v wr) (fun _ i _ => l.length - (intOf i).toNat)
  case atStart => exact ⟨0, Nat.zero_le _, rfl, H0.out⟩
  case round =>
    obtain ⟨k, hk, rfl, hr⟩ := hrel
    have HR := Lib.hid hr
    clear hr
    by_cases hlt : k < l.length
    · obtain ⟨c, hc⟩ : ∃ c, l[k]? = some c := ⟨_, List.getElem?_eq_getElem hlt⟩
      obtain ⟨g, off, rfl, hcm⟩ := HS.out (fun e => by rw [e] at hlt; simp at hlt)
      obtain ⟨a0, a1, a2, a3, a4, a5, a6, a7, a8⟩ := hcm.below (w' := wr) (HR.out.low.mono (Nat.le_refl _)) k c hc
      have HCM := Lib.hid hcm
      have hfit := HF.out c (List.mem_of_getElem? hc)
      have HC := Lib.hid hc
      have HFIT := Lib.hid hfit
      have hlt' : (k : Int) < (l.length : Int) := by omega
      have hge : (0 : Int) ≤ (k : Int) := by omega
      clear hc hcm hfit
      go_wp2_with fail
      refine (other_v c _ HFIT.out).mono ?_
      rintro e w1 ⟨rfl, hb1⟩
      have HB1 := Lib.hid hb1
      have HL1 := Lib.hid (HR.out.low.trans (hb1.mono HR.out.low.size))
      have hbase : w.heap.size ≤ w1.heap.size := Nat.le_trans HR.out.low.size hb1.size
      have HOWN := Lib.hid ((own_low HR.out.own hb1).alloc (.cells (rC c).toArray 38))
      have HALLOC := Lib.hid (HL1.out.alloc HL1.out.size (.cells (rC c).toArray 38))
      simp only [Cm.r]
      clear hb1 a0 a1 a2 a3 a4 a5 a6 a7 a8
      go_wp2_with (at_builtin; refine wpList_append_own _ rfl (.tmp 19) (.tmp 25) _ rfl w.heap.size 38 i0 _ 9 72 Tryd.underlying27 hi hz0 hz1 hz2 rfl (by decide) _ k (flatR (l.take k)) rfl HOWN.out ⟨w1.heap.size, 0, none⟩ 1 1 (rC c) rfl rfl (cells_new w1 38 (rC c)) (rC_one c) (by unfold maxLen; omega) (by omega) (by simp; omega) ?_; intro v' w2 hown' hgrow _; obtain ⟨g', cap', rfl, hg1, hg2⟩ := hown'.form (by omega); have HO := Lib.hid hown'; have HG := Lib.hid (HALLOC.out.grown hgrow (by simp; omega) (fun k hk => (HOWN.out.lt k hk).1)); clear hown' hgrow)
      obtain ⟨a0, a1, a2, a3, a4, a5, a6, a7, a8⟩ := HCM.out.below (w' := w2) (HG.out.mono (Nat.le_refl _)) k c HC.out
      have b := own_last HO.out
      have hbox : SameBox w2 g (off + k * 9) g' (k * 9) c w2 := ⟨⟨a0, a1, a2, a3, a4, a5, a6, a7, a8, b 0 (by omega), b 1 (by omega), b 2 (by omega), b 3 (by omega), b 4 (by omega), b 5 (by omega), b 6 (by omega), b 7 (by omega), b 8 (by omega)⟩, Lib.hid (Below.refl _ _)⟩
      have hgl := World.block_lt_of_cell? w2 _ a0
      have hgl2 := hg2
      have hltA : (k : Int) < ((k + 1 : Nat) : Int) := by omega
      have hltB : (k : Int) < (k : Int) + 1 := by omega
      clear a0 a1 a2 a3 a4 a5 a6 a7 a8 b
      go_region_held3 (fun w1 => (w1.cell? ⟨g, off + k * 9, none⟩ = some (.int .u8 c.kind) ∧ w1.cell? ⟨g, off + k * 9 + 1, none⟩ = some (.int .i64 c.fr) ∧ w1.cell? ⟨g, off + k * 9 + 2, none⟩ = some (.int .i64 c.to) ∧ w1.cell? ⟨g, off + k * 9 + 3, none⟩ = some (.int .i64 c.at_) ∧ w1.cell? ⟨g, off + k * 9 + 4, none⟩ = some (.int .i64 c.thr) ∧ w1.cell? ⟨g, off + k * 9 + 5, none⟩ = some (.int .u8 c.sch) ∧ w1.cell? ⟨g, off + k * 9 + 6, none⟩ = some (.int .u8 c.op) ∧ w1.cell? ⟨g, off + k * 9 + 7, none⟩ = some (.int .u64 c.key) ∧ w1.cell? ⟨g, off + k * 9 + 8, none⟩ = some (.int .u64 c.val) ∧ w1.cell? ⟨g', k * 9, none⟩ = some (.int .i64 c.kind) ∧ w1.cell? ⟨g', k * 9 + 1, none⟩ = some (.int .i64 c.fr) ∧ w1.cell? ⟨g', k * 9 + 2, none⟩ = some (.int .i64 c.to) ∧ w1.cell? ⟨g', k * 9 + 3, none⟩ = some (.int .i64 c.at_) ∧ w1.cell? ⟨g', k * 9 + 4, none⟩ = some (.int .i64 c.thr) ∧ w1.cell? ⟨g', k * 9 + 5, none⟩ = some (.int .u8 c.sch) ∧ w1.cell? ⟨g', k * 9 + 6, none⟩ = some (.int .i64 c.op) ∧ w1.cell? ⟨g', k * 9 + 7, none⟩ = some (.int .u64 c.key) ∧ w1.cell? ⟨g', k * 9 + 8, none⟩ = some (.int .u64 c.val)) ∧ Hid (Below w2.heap.size w2 w1))
        (first | exact SameBox.drew hbox | (refine SameBox.step hgl hgl2 ?_ hb; assumption))
        (first | (go_at_call 17; refine (may_any c _ HFIT.out).mono ?_; rintro e w' ⟨rfl, hb⟩) | (go_at_call 18; refine (rmay_any c _ HFIT.out).mono ?_; rintro e w' ⟨rfl, hb⟩))
      have hlow := Lib.hid (SameBox.low (w0 := w2) (g := g) (o := off + k * 9) (g2 := g') (o2 := k * 9) (c := c) (by assumption))
      go_wp2
      go_roundw
      case rel =>
        refine ⟨k + 1, by omega, by go_num, ?_, HG.out.trans (hlow.out.mono HG.out.size)⟩
        rw [take_snoc' HC.out, flatR_snoc]
        exact own_low HO.out hlow.out
      case measure => simp [intOf]; omega
    · have hge : (l.length : Int) ≤ (k : Int) := by omega
      have hkl : k = l.length := by omega
      obtain ⟨Am, cm, rfl, hm1, hm2, hm3⟩ := own_slice HR.out.own
      subst hkl
      have hown := HR.out.own
      rw [List.take_length] at hown
      have HOWN := Lib.hid hown
      clear hown hm3
      go_wp2_with fail
      refine (write_s A cap l wr (HLAY.out.below (HR.out.low.mono (Nat.le_refl _))) (HS.out.below (HR.out.low.mono (Nat.le_refl _))) HF.out (by omega)).mono ?_
      rintro e w1 ⟨A1, c1, rfl, h11, h12, hs1, hb1⟩
      have HL1 := Lib.hid (HR.out.low.trans (hb1.mono HR.out.low.size))
      have HOWN1 := Lib.hid (own_low HOWN.out hb1)
      have HS1 := Lib.hid hs1
      clear hb1 hs1 HOWN
      go_wp2_with fail
      refine (rwrite_s Am cm l w1 (rslc_of_own HOWN1.out) HF.out (by omega)).mono ?_
      rintro e w2 ⟨A2, c2, rfl, h21, h22, hs2, hb2⟩
      have HL2 := Lib.hid (HL1.out.trans (hb2.mono HL1.out.size))
      have HOWN2 := Lib.hid (own_low HOWN1.out hb2)
      have d1 := str_of w2 A1 c1 (wroteB l) (HS1.out.below hb2)
      have d2 := str_of w2 A2 c2 (wroteB l) hs2
      have hsame := same_any A Am cap cm l w2 (HS.out.below (HL2.out.mono (Nat.le_refl _))) (rslc_of_own HOWN2.out) HF.out (by omega)
      have HSAME := Lib.hid hsame
      generalize l.all mayC = b
      clear hb2 hs2 HOWN1 hsame
      go_wp2_with (first
        | (go_at_call 14; refine (HSAME.out).mono ?_; rintro e w3 ⟨rfl, hb3⟩; have HL3 := Lib.hid (HL2.out.trans (hb3.mono HL2.out.size)); clear hb3)
        | (go_at_call 8; refine (lives_any _ (HLAY.out.below (HL3.out.mono (Nat.le_refl _)))).mono ?_; rintro e w4 ⟨rfl, hb4⟩; have HL4 := Lib.hid (HL3.out.trans (hb4.mono HL3.out.size)); clear hb4))
      go_ret
      exact ⟨rfl, HL4.out⟩
set_option maxHeartbeats 1000000 in
theorem lawWrite_long (A : Option Addr) (n cap : Nat) (w : World) (hlay : Lay w) (hn : 300 < n) :
    Calls Tryd.prog 4 #[.slice A n cap] w fun e w' => e = .returned (.bool true) ∧ Below w.heap.size w w' := by
  have HLAY := Lib.hid hlay
  clear hlay
  go_enter Tryd.func4, Tryd.ntmps4
  go_wp2_with (go_at_call 8; refine (lives_any _ HLAY.out).mono ?_; rintro e w4 ⟨rfl, hb4⟩; have HL4 := Lib.hid hb4; clear hb4)
  go_ret
  exact ⟨rfl, HL4.out⟩
end Go.Proofs.YtlgfdemggkiojaaDoor
