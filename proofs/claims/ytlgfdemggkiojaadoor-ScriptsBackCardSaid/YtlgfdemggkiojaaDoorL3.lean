/-
  The law ScriptsBack walked: it answers true, and changes nothing that was there; conditions: the table of sizes reads as the program lays it; the commands lie as it says, their small numbers fit their kinds.
-/
import Derived.Test.YtlgfdemggkiojaaDoorL2
namespace Go.Proofs.YtlgfdemggkiojaaDoor
open Go.RowKit

theorem take_one {l : List Cm} {k : Nat} {c : Cm} (hc : l[k]? = some c) : l.take (k + 1) = l.take k ++ [c] := by
  obtain ⟨hk, rfl⟩ := List.getElem?_eq_some_iff.1 hc
  exact List.take_succ_eq_append_getElem hk
theorem all_step {l : List Cm} {k : Nat} {c : Cm} (hc : l[k]? = some c) : (l.take (k + 1)).all mayC = ((l.take k).all mayC && mayC c) := by
  rw [take_one hc, List.all_append]
  simp
set_option maxRecDepth 100000 in
set_option maxHeartbeats 4000000 in
theorem lawBack (A : Option Addr) (cap : Nat) (l : List Cm) (w : World) (hlay : Lay w) (hs : Slc w A l) (hf : ∀ c ∈ l, c.Fit) (hl : l.length ≤ 200) :
    Calls Tryd.prog 6 #[.slice A l.length cap] w fun e w' => e = .returned (.bool true) ∧ Below w.heap.size w w' := by
  have H0 := Lib.hid (Below.refl w.heap.size w)
  have HLAY := Lib.hid hlay
  have HS := Lib.hid hs
  have HF := Lib.hid hf
  clear hlay hs hf
  go_enter Tryd.func6, Tryd.ntmps6
  go_wp2_with fail
  go_loopw [3, 4] (fun f i wr => ∃ k : Nat, k ≤ l.length ∧ i = .int .i64 (k : Int) ∧ f = .bool ((l.take k).all mayC) ∧ Below w.heap.size w wr) (fun _ i _ => l.length - (intOf i).toNat)
  case atStart => exact ⟨0, Nat.zero_le _, rfl, rfl, H0.out⟩
  case round =>
    obtain ⟨k, hk, rfl, rfl, hr⟩ := hrel
    have HR := Lib.hid hr
    clear hr
    by_cases hlt : k < l.length
    · obtain ⟨c, hc⟩ : ∃ c, l[k]? = some c := ⟨_, List.getElem?_eq_getElem hlt⟩
      obtain ⟨g, off, rfl, hcm⟩ := HS.out (fun e => by rw [e] at hlt; simp at hlt)
      obtain ⟨a0, a1, a2, a3, a4, a5, a6, a7, a8⟩ := hcm.below (w' := wr) (HR.out.mono (Nat.le_refl _)) k c hc
      have hfit := HF.out c (List.mem_of_getElem? hc)
      have HC := Lib.hid (all_step hc)
      have HFIT := Lib.hid hfit
      have hlt' : (k : Int) < (l.length : Int) := by omega
      have hge : (0 : Int) ≤ (k : Int) := by omega
      clear hc hcm hfit
      cases hb : (l.take k).all mayC with
      | false =>
        go_wp2_with fail
        go_roundw
        case rel => exact ⟨k + 1, by omega, by go_num, by rw [HC.out, hb]; rfl, HR.out⟩
        case measure => simp [intOf]; omega
      | true =>
        go_wp2_with (go_at_call 17; refine (may_any c _ HFIT.out).mono ?_; rintro e w1 ⟨rfl, hb1⟩; have HL1 := Lib.hid (HR.out.trans (hb1.mono HR.out.size)); clear hb1)
        go_roundw
        case rel => exact ⟨k + 1, by omega, by go_num, by rw [HC.out, hb, Bool.true_and], HL1.out⟩
        case measure => simp [intOf]; omega
    · have hge : (l.length : Int) ≤ (k : Int) := by omega
      have hkl : k = l.length := by omega
      subst hkl
      rw [List.take_length]
      go_wp2_with fail
      refine (write_s A cap l wr (HLAY.out.below (HR.out.mono (Nat.le_refl _))) (HS.out.below (HR.out.mono (Nat.le_refl _))) HF.out (by omega)).mono ?_
      rintro e w1 ⟨A1, c1, rfl, h11, h12, hs1, hb1⟩
      have HL1 := Lib.hid (HR.out.trans (hb1.mono HR.out.size))
      have HS1 := Lib.hid hs1
      clear hb1 hs1
      cases hall : l.all mayC with
      | false =>
        have h0 : (wroteB l).length = 0 := by rw [wroteB_no hall]; rfl
        have HLV := fun W (h : Below w.heap.size w W) => lives_any W (HLAY.out.below (h.mono (Nat.le_refl _)))
        rw [h0]
        clear h0 h11 h12
        go_wp2_with (go_at_call 8; refine (HLV _ HL1.out).mono ?_; rintro e w4 ⟨rfl, hb4⟩; have HL4 := Lib.hid (HL1.out.trans (hb4.mono HL1.out.size)); clear hb4)
        go_ret
        exact ⟨rfl, HL4.out⟩
      | true =>
        have hback := back_all hall (by omega)
        have HBACK := Lib.hid hback
        have hbl := back_length hback
        have hwl := wroteB_yes hall
        rw [hwl] at h11 HS1 ⊢
        clear hback
        go_wp2_with fail
        refine (parse_s A1 c1 (flatB l) w1 (HLAY.out.below (HL1.out.mono (Nat.le_refl _))) HS1.out h11 h12).mono ?_
        rintro e w2 ⟨Am, rfl, hsm, hb2⟩
        rw [hbl]
        have HL2 := Lib.hid (HL1.out.trans (hb2.mono HL1.out.size))
        have HSM := Lib.hid hsm
        clear hb2 hsm h11 h12
        go_wp2_with fail
        go_loopw [8] (fun i wr => ∃ k : Nat, k ≤ l.length ∧ i = .int .i64 (k : Int) ∧ Below w2.heap.size w2 wr) (fun i _ => l.length - (intOf i).toNat)
        case atStart => exact ⟨0, Nat.zero_le _, rfl, Below.refl _ _⟩
        case round =>
          obtain ⟨k, hk, rfl, hr⟩ := hrel
          have HR2 := Lib.hid hr
          clear hr
          by_cases hlt : k < l.length
          · obtain ⟨d, hd⟩ : ∃ d, l[k]? = some d := ⟨_, List.getElem?_eq_getElem hlt⟩
            obtain ⟨c, hc⟩ : ∃ c, (parseC (flatB l))[k]? = some c := ⟨_, List.getElem?_eq_getElem (by omega)⟩
            have hcd := back_at HBACK.out hc hd
            obtain ⟨g2, off2, rfl, hcm2⟩ := (HS.out.below (HL2.out.mono (Nat.le_refl _))) (fun e => by rw [e] at hlt; simp at hlt)
            obtain ⟨g, off, rfl, hcm⟩ := HSM.out (fun e => by rw [e] at hc; simp at hc)
            obtain ⟨a0, a1, a2, a3, a4, a5, a6, a7, a8⟩ := hcm.below (w' := wr) HR2.out k c hc
            obtain ⟨b0, b1, b2, b3, b4, b5, b6, b7, b8⟩ := hcm2.below (w' := wr) HR2.out k d hd
            rw [hcd] at b0 b1 b2 b3 b4 b5 b6 b7 b8
            have hgl := World.block_lt_of_cell? wr _ a0
            have hgl2 := World.block_lt_of_cell? wr _ b0
            have hbox : TwoBox wr g (off + k * 9) g2 (off2 + k * 9) c d.fr d.to wr := ⟨⟨a0, a1, a2, a3, a4, a5, a6, a7, a8, b0, b1, b2, b3, b4, b5, b6, b7, b8⟩, Lib.hid (Below.refl _ _)⟩
            have hlt' : (k : Int) < (l.length : Int) := by omega
            have hge : (0 : Int) ≤ (k : Int) := by omega
            have hnq := neq34_self c.kind 0 0 c.at_ c.thr c.sch c.op c.key c.val
            clear hc hd hcd hcm hcm2 a0 a1 a2 a3 a4 a5 a6 a7 a8 b0 b1 b2 b3 b4 b5 b6 b7 b8
            go_wp2_with fail
            go_region_held3 (fun w1 => (w1.cell? ⟨g, off + k * 9, none⟩ = some (.int .u8 c.kind) ∧ w1.cell? ⟨g, off + k * 9 + 1, none⟩ = some (.int .i64 c.fr) ∧ w1.cell? ⟨g, off + k * 9 + 2, none⟩ = some (.int .i64 c.to) ∧ w1.cell? ⟨g, off + k * 9 + 3, none⟩ = some (.int .i64 c.at_) ∧ w1.cell? ⟨g, off + k * 9 + 4, none⟩ = some (.int .i64 c.thr) ∧ w1.cell? ⟨g, off + k * 9 + 5, none⟩ = some (.int .u8 c.sch) ∧ w1.cell? ⟨g, off + k * 9 + 6, none⟩ = some (.int .u8 c.op) ∧ w1.cell? ⟨g, off + k * 9 + 7, none⟩ = some (.int .u64 c.key) ∧ w1.cell? ⟨g, off + k * 9 + 8, none⟩ = some (.int .u64 c.val) ∧ w1.cell? ⟨g2, off2 + k * 9, none⟩ = some (.int .u8 c.kind) ∧ w1.cell? ⟨g2, off2 + k * 9 + 1, none⟩ = some (.int .i64 d.fr) ∧ w1.cell? ⟨g2, off2 + k * 9 + 2, none⟩ = some (.int .i64 d.to) ∧ w1.cell? ⟨g2, off2 + k * 9 + 3, none⟩ = some (.int .i64 c.at_) ∧ w1.cell? ⟨g2, off2 + k * 9 + 4, none⟩ = some (.int .i64 c.thr) ∧ w1.cell? ⟨g2, off2 + k * 9 + 5, none⟩ = some (.int .u8 c.sch) ∧ w1.cell? ⟨g2, off2 + k * 9 + 6, none⟩ = some (.int .u8 c.op) ∧ w1.cell? ⟨g2, off2 + k * 9 + 7, none⟩ = some (.int .u64 c.key) ∧ w1.cell? ⟨g2, off2 + k * 9 + 8, none⟩ = some (.int .u64 c.val)) ∧ Hid (Below wr.heap.size wr w1))
              (first | exact TwoBox.drew hbox | (refine TwoBox.step hgl hgl2 ?_ hb; assumption))
              (first | (go_at_call 21; refine (bare_any _ _ _ _ _ _ _ _ _ _).mono ?_; rintro e w' ⟨rfl, hb⟩))
            have hlow := Lib.hid (HR2.out.trans ((TwoBox.low (w0 := wr) (g := g) (o := off + k * 9) (g2 := g2) (o2 := off2 + k * 9) (c := c) (fr := d.fr) (u := d.to) (by assumption)).mono HR2.out.size))
            go_wp2
            go_roundw
            case rel => exact ⟨k + 1, by omega, by go_num, hlow.out⟩
            case measure => simp [intOf]; omega
          · have hge : (l.length : Int) ≤ (k : Int) := by omega
            have HL3 := Lib.hid (HL2.out.trans (HR2.out.mono HL2.out.size))
            go_wp2_with (go_at_call 8; refine (lives_any _ (HLAY.out.below (HL3.out.mono (Nat.le_refl _)))).mono ?_; rintro e w4 ⟨rfl, hb4⟩; have HL4 := Lib.hid (HL3.out.trans (hb4.mono HL3.out.size)); clear hb4)
            go_ret
            exact ⟨rfl, HL4.out⟩
set_option maxHeartbeats 1000000 in
theorem lawBack_long (A : Option Addr) (n cap : Nat) (w : World) (hlay : Lay w) (hn : 200 < n) :
    Calls Tryd.prog 6 #[.slice A n cap] w fun e w' => e = .returned (.bool true) ∧ Below w.heap.size w w' := by
  have HLAY := Lib.hid hlay
  clear hlay
  go_enter Tryd.func6, Tryd.ntmps6
  go_wp2_with (go_at_call 8; refine (lives_any _ HLAY.out).mono ?_; rintro e w4 ⟨rfl, hb4⟩; have HL4 := Lib.hid hb4; clear hb4)
  go_ret
  exact ⟨rfl, HL4.out⟩
end Go.Proofs.YtlgfdemggkiojaaDoor
