/-
  The law's look at what is sound, walked; condition: all lies as it says, what it asks of the memory holds.
-/
import Derived.Test.YtmjcbjcnmgleaaaGreatDoorAC1
namespace Go.Proofs.YtmjcbjcnmgleaaaGreatDoor
open Go.RowKit Go.Maps

section
variable {nt B p b G c c' n : Nat} {ly : Nat → LY} {th : Nat → TA} {M : MV} {w w' wr : World} {S : List Int}
theorem LmA.tw (h : LmA p b M w c wr) (W : TW nt B p b G ly th M w) : ∃ M', M'.V = M.V ∧ TW nt B p b G ly th M' wr := by
  obtain ⟨⟨M', e, _, F⟩, o⟩ := h
  exact ⟨M', e, W.onl F o (by simp) (by simp) (by simp)⟩
theorem LmA.header (h : LmA p b M w c wr) (hs : M.s.st + (c : Int) < 1000000) {z : Int} (hz : 0 ≤ z ∧ z < 256) {s : Int} (hst : stW ((maV M.V).hdr z) = s) (h4 : s ≤ 4) :
    Calls Tryz.prog 55 #[.pointer (some ⟨p, 0, none⟩), .int .i64 z] wr fun e w' => ∃ g : Int, e = .returned (.tuple #[.int .u8 s, .int .u32 g]) ∧ LmA p b M w (c + 1) w' ∧ Only p b wr w' := by
  obtain ⟨⟨M', e1, e2, F⟩, o⟩ := h
  refine (header8_anyA F (by omega) hz).mono ?_
  rintro e w' ⟨rfl, F', k⟩
  have hv : fld (M'.V (adH z)) 0 3 = s := by
    rw [e1, ← ma_hdr (V := M.V) hz]
    exact hst
  rw [hv, stS_small h4]
  refine ⟨_, rfl, ⟨⟨ldM M' (adH z), e1, ?_, F'⟩, o.trans (.of_only k)⟩, k⟩
  show M'.s.st + 1 ≤ _
  push_cast
  omega
theorem LmA.seg (h : LmA p b M w c wr) (hs : M.s.st + (c : Int) < 900000) {z : Int} (hz : 0 ≤ z ∧ z < 32) {s : Int} (h1 : (maV M.V).sst z = s) :
    Calls Tryz.prog 28 #[.pointer (some ⟨p, 0, none⟩), .int .i64 z] wr fun e w' => ∃ u : Int, e = .returned (.tuple #[.int .u64 s, .int .u64 u]) ∧ LmA p b M w (c + 2) w' ∧ Only p b wr w' := by
  obtain ⟨⟨M', e1, e2, F⟩, o⟩ := h
  refine (seg9_any F (by omega) hz).mono ?_
  rintro e w' ⟨rfl, F', k⟩
  have hv : M'.V (adG z) = s := by rw [e1, ← ma_sst (V := M.V) hz]; exact h1
  rw [hv]
  refine ⟨_, rfl, ⟨⟨ldM (ldM M' (adG z)) (adP z), e1, ?_, F'⟩, o.trans (.of_only k)⟩, k⟩
  show M'.s.st + 1 + 1 ≤ _
  push_cast
  omega
end
/-- All that the look asks of the memory. -/
structure SouQ (n nt : Nat) (th : Nat → TA) (S : List Int) (A : MA) : Prop where
  n3 : n ≤ 3
  len : (heldsN th nt).length ≤ 60
  sl : S.length ≤ 60
  up : ∀ z ∈ S ++ (heldsN th nt).map (·.1), (0 ≤ z ∧ z < 256) ∧ A.sst (segF z) ≠ 0
  no : ∀ g : Nat, g < n → A.sst (g : Int) = 0 → ∀ z, segF z = (g : Int) → stW (A.hdr z) = 3 ∨ stW (A.hdr z) = 4
section
variable {nt B p b G : Nat} {ly : Nat → LY} {th : Nat → TA} {M : MV} {w : World}
set_option maxRecDepth 100000 in
set_option maxHeartbeats 16000000 in
theorem sound_any {n : Nat} {S : List Int} {T : Int} (W : TW nt B p b G ly th M w) (hs : M.s.st < 800000) (stk : Stk (maV M.V).ms S T) (Q : SouQ n nt th S (maV M.V)) (hnt : nt ≤ 4) :
    Calls Tryz.prog 22 #[.pointer (some ⟨p, 0, none⟩), .slice (some ⟨G, 0, none⟩) nt nt, .int .i64 (n : Int)] w fun e w' => e = .returned (.bool true) ∧ LmA p b M w 400 w' := by
  have HW := Lib.hid W
  have HQ := Lib.hid Q
  have hn3 := Q.n3
  obtain ⟨i0, hi0, hz0, hz1, hz2⟩ := info_parts info_intL
  have hcall := listed_any p b M S T w W.fm stk (by omega) Q.sl
  have hSl := Q.sl
  have h1W : 1 < w.heap.size := by have := W.fm.lay.1; have := W.fm.laym.1; omega
  clear W Q stk
  go_enter Tryz.func22, Tryz.ntmps22
  go_wp2_with fail
  ((with_reducible refine hcall.mono ?_); rintro e w1 ⟨v, rfl, o1, l1⟩)
  have HX := Lib.hid l1
  have HO := Lib.hid (show w1.ownsRow w.heap.size 3 1 v (S ++ seenN th 0 0).length ((S ++ seenN th 0 0).map iV) from by simpa [seenN, heldsN] using o1)
  obtain ⟨A', c', rfl, hnc, hcm, _⟩ := own_slice o1
  clear hcall o1 l1
  go_wp2_with fail
  go_loopw [7, 9] (fun v j wr => ∃ i : Nat, i ≤ nt ∧ j = .int .i64 (i : Int) ∧ Hid (wr.ownsRow w.heap.size 3 1 v (S ++ seenN th i 0).length ((S ++ seenN th i 0).map iV)) ∧ Hid (LmA p b M w 100 wr)) (fun _ j _ => nt - (intOf j).toNat)
  case atStart => exact ⟨0, Nat.zero_le _, rfl, HO, HX⟩
  case round =>
    clear HO HX hnc hcm
    obtain ⟨i, hi, rfl, HO, HX⟩ := hrel
    rename World => w5
    have hge : (0 : Int) ≤ (i : Int) := by omega
    by_cases hlt : i < nt
    · have hlt' : (i : Int) < (nt : Int) := by omega
      go_wp2_with fail
      go_loopw [7, 10] (fun v j wr => ∃ k : Nat, k ≤ (th i).held.length ∧ j = .int .i64 (k : Int) ∧ Hid (wr.ownsRow w.heap.size 3 1 v (S ++ seenN th i k).length ((S ++ seenN th i k).map iV)) ∧ Hid (LmA p b M w 100 wr)) (fun _ j _ => (th i).held.length - (intOf j).toNat)
      case atStart => exact ⟨0, Nat.zero_le _, rfl, HO, HX⟩
      case round =>
        clear HO HX
        obtain ⟨k, hk, rfl, HO, HX⟩ := hrel
        rename World => w6
        have hkg : (0 : Int) ≤ (k : Int) := by omega
        obtain ⟨M2, hM2, W2⟩ := HX.out.tw HW.out
        have hcells := (W2.tl hlt).cells
        obtain ⟨c0, _, _, _⟩ := hcells
        rw [Nat.mul_comm 3 i] at c0
        obtain ⟨A, c, hv, _, _⟩ := W2.row i hlt
        have hr := W2.row i hlt
        rw [hv] at c0 hr
        by_cases hkl : k < (th i).held.length
        · obtain ⟨_, g, off, rfl, _, y0, _, _⟩ := hr.at_ hkl
          rw [Nat.mul_comm 3 k] at y0
          have hst := seenN_step th i hkl
          have hlen := Nat.le_trans (seenN_len th (k := k) hlt) HQ.out.len
          have hkl' : (k : Int) < ((th i).held.length : Int) := by omega
          generalize ((th i).held.getD k (0, 0)).1 = z at y0 hst
          have HST := Lib.hid hst
          obtain ⟨AL, cL, rfl, hncL, hcmL, _⟩ := own_slice HO.out
          have hle : (S ++ seenN th i k).length ≤ 130 := by rw [List.length_append]; omega
          clear hst hv hr hM2 W2 hlen
          generalize hmm : (S ++ seenN th i k).length = mm at *
          generalize (th i).held.length = m at *
          have HMM := Lib.hid hmm
          clear hmm
          have HO2 := Lib.hid (HO.out.alloc (.cells #[.int .i64 z] 3))
          have HA := Lib.hid (show Below w6.heap.size w6 (w6.alloc (.cells #[.int .i64 z] 3)) from (Below.refl _ _).alloc (Nat.le_refl _) _)
          have HC2 := Lib.hid (cells_newL w6 [.int .i64 z] 3)
          have hsz6 : w.heap.size ≤ w6.heap.size := HX.out.onl.size
          go_wp2_with (at_builtin; go_loud (refine wpList_append_own _ rfl (.tmp 45) (.tmp 55) _ rfl w.heap.size 3 i0 _ 1 8 Tryz.underlying61 hi0 hz0 hz1 hz2 rfl (by decide) (.slice AL mm cL) mm ((S ++ seenN th i k).map iV) rfl HO2.out ⟨w6.heap.size, 0, none⟩ 1 1 [.int .i64 z] rfl rfl HC2.out (fun u hu => by rw [List.mem_singleton.1 hu]; rfl) (by unfold maxLen; omega) (by omega) (by have := HA.out.size; omega) ?_; intro v' w7 hown' hgrow _; obtain ⟨A2, c2, rfl, _, _, _⟩ := own_slice hown'; have HO7 := Lib.hid hown'; have HX7 := Lib.hid ((HX.out.below HA.out).grown HO2.out (by decide) hgrow h1W); clear hown' hgrow))
          go_roundw
          case rel =>
            refine ⟨k + 1, by omega, by go_num, Lib.hid ?_, HX7⟩
            have e : S ++ seenN th i (k + 1) = (S ++ seenN th i k) ++ [z] := by rw [HST.out, List.append_assoc]
            rw [e, List.length_append, List.map_append, HMM.out]
            exact HO7.out
          case measure => simp [intOf]; omega
        · have hkl' : ((th i).held.length : Int) ≤ (k : Int) := by omega
          have hkm : k = (th i).held.length := by omega
          have ho := HO.out
          rw [hkm, seenN_next] at ho
          have HO9 := Lib.hid ho
          clear ho hkm hv hr W2 hM2 HO
          generalize (th i).held.length = m at *
          go_wp2_with fail
          go_roundw
          case rel => exact ⟨i + 1, by omega, by go_num, HO9, HX⟩
          case measure => simp [intOf]; omega
    · have hi5 : i = nt := by omega
      have hge5 : (nt : Int) ≤ (i : Int) := by omega
      have ho := HO.out
      rw [hi5, seenN_all] at ho
      have hup := HQ.out.up
      have hlen : (S ++ (heldsN th nt).map (·.1)).length ≤ 120 := by rw [List.length_append, List.length_map]; have := HQ.out.len; omega
      generalize S ++ (heldsN th nt).map (·.1) = xs at ho hup hlen
      obtain ⟨AL, cL, rfl, hncL, hcmL, _⟩ := own_slice ho
      have HO9 := Lib.hid ho
      have HUP := Lib.hid hup
      have HX9 := Lib.hid (HX.out.mono (show 100 ≤ 100 + 2 * 0 by omega))
      clear ho hup HO HX hi5
      go_wp2_with fail
      go_loopw [11] (fun j wr => ∃ i : Nat, i ≤ xs.length ∧ j = .int .i64 (i : Int) ∧ Hid (wr.ownsRow w.heap.size 3 1 (.slice AL xs.length cL) xs.length (xs.map iV)) ∧ Hid (LmA p b M w (100 + 2 * i) wr)) (fun j _ => xs.length - (intOf j).toNat)
      case atStart => exact ⟨0, Nat.zero_le _, rfl, HO9, HX9⟩
      case round =>
        clear HO9 HX9 hge hge5 hlt hi
        obtain ⟨i, hi, rfl, HO, HX⟩ := hrel
        rename World => w8
        have hge : (0 : Int) ≤ (i : Int) := by omega
        by_cases hlt : i < xs.length
        · have hlt' : (i : Int) < (xs.length : Int) := by omega
          obtain ⟨g, hA, _, y0⟩ := (RowI.of_own HO.out rfl).cell hlt
          have hz := HUP.out (xs.getD i 0) (by rw [List.getD_eq_getElem?_getD, List.getElem?_eq_getElem hlt]; simp)
          generalize xs.getD i 0 = z at y0 hz
          obtain ⟨⟨hzl, hzh⟩, hss⟩ := hz
          obtain ⟨gs, hgs⟩ : ∃ gs : Int, segF z = gs := ⟨_, rfl⟩
          have hgr : 0 ≤ gs ∧ gs < 32 := by unfold segF at hgs; omega
          have hof : ofS z = gs := by unfold ofS; rw [if_pos ⟨hzl, hzh⟩]; exact hgs
          rw [hgs] at hss
          obtain ⟨s, hsv⟩ : ∃ s : Int, (maV M.V).sst gs = s := ⟨_, rfl⟩
          rw [hsv] at hss
          subst hA
          have HOF := Lib.hid hof
          have HGR := Lib.hid hgr
          have HSV := Lib.hid hsv
          clear hof hgr hgs hsv hzl hzh
          generalize xs.length = m at *
          go_wp2_with fail
          ((with_reducible refine (segOf_eq HOF.out _).mono ?_); rintro e w9 ⟨rfl, hb9⟩)
          have HO9 := Lib.hid (own_only HX.out HO.out (by decide) (Only.of_below hb9))
          have HX9 := Lib.hid (HX.out.below hb9)
          clear hb9 HO HX y0
          go_wp2_with fail
          ((with_reducible refine (HX9.out.seg (by push_cast; omega) HGR.out HSV.out).mono ?_); rintro e w10 ⟨u, rfl, X10, k10⟩)
          have HO10 := Lib.hid (own_only HX9.out HO9.out (by decide) k10)
          have HX10 := Lib.hid (X10.mono (show 100 + 2 * i + 2 ≤ 100 + 2 * (i + 1) by omega))
          clear X10 k10 HO9 HX9
          go_wp2_with fail
          go_roundw
          case rel => exact ⟨i + 1, by omega, by go_num, HO10, HX10⟩
          case measure => simp [intOf]; omega
        · have hlt' : (xs.length : Int) ≤ (i : Int) := by omega
          have HX11 := Lib.hid (HX.out.mono (show 100 + 2 * i ≤ 340 + 10 * 0 by omega))
          clear HO HX HUP
          generalize xs.length = m at *
          go_wp2_with fail
          go_loopw [14] (fun j wr => ∃ sg : Nat, sg ≤ n ∧ j = .int .i64 (sg : Int) ∧ Hid (LmA p b M w (340 + 10 * sg) wr)) (fun j _ => n - (intOf j).toNat)
          case atStart => exact ⟨0, Nat.zero_le _, rfl, HX11⟩
          case round =>
            clear HX11 hge hlt' hlt hi hncL hcmL hlen
            obtain ⟨sg, hsn, rfl, HX⟩ := hrel
            rename World => w12
            have hge : (0 : Int) ≤ (sg : Int) := by omega
            by_cases hlt : sg < n
            · have hlt' : (sg : Int) < (n : Int) := by omega
              obtain ⟨zs, hzs⟩ : ∃ zs : Nat, zs = 8 * sg := ⟨_, rfl⟩
              have hno := HQ.out.no sg hlt
              obtain ⟨s, hsv⟩ : ∃ s : Int, (maV M.V).sst (sg : Int) = s := ⟨_, rfl⟩
              rw [hsv] at hno
              have HNO := Lib.hid hno
              have HSV := Lib.hid hsv
              have hsl := segSlots_good (n := (sg : Int)) (by omega) (by omega)
              rw [show (sg : Int) * 8 = (zs : Int) by omega] at hsl
              have HZS := Lib.hid hzs
              clear hno hsv hzs
              go_wp2_with fail
              ((with_reducible refine (HX.out.seg (by push_cast; omega) (z := (sg : Int)) (by omega) HSV.out).mono ?_); rintro e w13 ⟨u, rfl, X13, k13⟩)
              have HX13 := Lib.hid X13
              clear X13 k13 HX
              go_wp2_with fail
              ((with_reducible refine (hsl w13).mono ?_); rintro e w14 ⟨rfl, rfl⟩)
              clear hsl
              by_cases hs0 : s = 0
              · subst hs0
                go_wp2_with fail
                go_loopw [19] (fun j wr => ∃ z k : Nat, Hid (z = zs + k) ∧ k ≤ 8 ∧ (z : Int) = (zs : Int) + (k : Int) ∧ j = .int .i64 (z : Int) ∧ Hid (LmA p b M w (342 + 10 * sg + k) wr)) (fun j _ => zs + 8 - (intOf j).toNat)
                case atStart => exact ⟨zs, 0, Lib.hid rfl, by omega, by omega, rfl, Lib.hid (HX13.out.mono (by omega))⟩
                case round =>
                  clear HX13
                  obtain ⟨z, k, HZ, hk8, hzk, rfl, HX⟩ := hrel
                  rename World => w15
                  by_cases hk : k < 8
                  · have hzi : (z : Int) < (zs : Int) + 8 := by omega
                    have hz1 : 0 ≤ (z : Int) ∧ (z : Int) < 256 := by have := HZS.out; omega
                    have hst := HNO.out (by first | rfl | trivial) (z : Int) (by have := HZS.out; unfold segF; omega)
                    have hcall := fun (t : Int) (ht : stW ((maV M.V).hdr (z : Int)) = t) (h4 : t ≤ 4) => HX.out.header (by push_cast; omega) hz1 ht h4
                    have HZK := Lib.hid hzk
                    clear hzk
                    rcases hst with hst | hst
                    · have hc := hcall 3 hst (by decide)
                      clear hcall hst
                      go_wp2_with fail
                      ((with_reducible refine hc.mono ?_); rintro e w16 ⟨gg, rfl, X16, _⟩)
                      have HX16 := Lib.hid (X16.mono (show 342 + 10 * sg + k + 1 ≤ 342 + 10 * sg + (k + 1) by omega))
                      clear X16 hc HX
                      go_wp2_with fail
                      go_roundw
                      case rel => exact ⟨z + 1, k + 1, Lib.hid (by have := HZ.out; omega), by omega, by have := HZK.out; push_cast; omega, by go_num, HX16⟩
                      case measure => simp [intOf]; omega
                    · have hc := hcall 4 hst (by decide)
                      clear hcall hst
                      go_wp2_with fail
                      ((with_reducible refine hc.mono ?_); rintro e w16 ⟨gg, rfl, X16, _⟩)
                      have HX16 := Lib.hid (X16.mono (show 342 + 10 * sg + k + 1 ≤ 342 + 10 * sg + (k + 1) by omega))
                      clear X16 hc HX
                      go_wp2_with fail
                      go_roundw
                      case rel => exact ⟨z + 1, k + 1, Lib.hid (by have := HZ.out; omega), by omega, by have := HZK.out; push_cast; omega, by go_num, HX16⟩
                      case measure => simp [intOf]; omega
                  · have hzi : (zs : Int) + 8 ≤ (z : Int) := by omega
                    have HX17 := Lib.hid (HX.out.mono (show 342 + 10 * sg + k ≤ 340 + 10 * (sg + 1) by omega))
                    clear HX
                    go_wp2_with fail
                    go_roundw
                    case rel => exact ⟨sg + 1, by omega, by go_num, HX17⟩
                    case measure => simp [intOf]; omega
              · go_wp2_with fail
                go_loopw [19] (fun j wr => j = .int .i64 (zs : Int) ∧ Hid (LmA p b M w (342 + 10 * sg) wr)) (fun _ _ => 0)
                case atStart => exact ⟨rfl, Lib.hid (HX13.out.mono (by omega))⟩
                case round =>
                  clear HX13
                  obtain ⟨rfl, HX⟩ := hrel
                  rename World => w15
                  have HX17 := Lib.hid (HX.out.mono (show 342 + 10 * sg ≤ 340 + 10 * (sg + 1) by omega))
                  clear HX
                  go_wp2_with fail
                  go_roundw
                  case rel => exact ⟨sg + 1, by omega, by go_num, HX17⟩
                  case measure => simp [intOf]; omega
            · have hlt' : (n : Int) ≤ (sg : Int) := by omega
              have HX18 := Lib.hid (HX.out.mono (show 340 + 10 * sg ≤ 400 by omega))
              clear HX
              go_wp2_with fail
              go_ret
              exact ⟨rfl, HX18.out⟩
end
end Go.Proofs.YtmjcbjcnmgleaaaGreatDoor
