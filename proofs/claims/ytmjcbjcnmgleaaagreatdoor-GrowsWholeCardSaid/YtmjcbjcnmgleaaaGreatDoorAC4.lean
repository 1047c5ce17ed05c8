/-
  Is each slot, where nothing is under way, held, in the list, parked in a segment that is not mapped, or gone, just once? The law's own look; condition: all lies as it says.
-/
import Derived.Test.YtmjcbjcnmgleaaaGreatDoorAC1
namespace Go.Proofs.YtmjcbjcnmgleaaaGreatDoor
open Go.RowKit Go.Maps

section
variable {nt B p b G : Nat} {ly : Nat → LY} {th : Nat → TA} {M : MV} {w : World}
set_option maxRecDepth 100000 in
set_option maxHeartbeats 16000000 in
theorem settled_any {n : Nat} {S : List Int} {T : Int} (W : TW nt B p b G ly th M w) (hB : 1 < B) (hs : M.s.st < 800000) (stk : Stk (maV M.V).ms S T) (Q : SetQ n nt th S (maV M.V)) (hnt : nt ≤ 4) :
    Calls Tryz.prog 23 #[.pointer (some ⟨p, 0, none⟩), .slice (some ⟨G, 0, none⟩) nt nt, .int .i64 (n : Int)] w fun e w' => e = .returned (.bool true) ∧ LmA p b M w 300 w' := by
  have HW := Lib.hid W
  have HQ := Lib.hid Q
  have hn3 := Q.n3
  have hcall := listed_any p b M S T w W.fm stk (by omega) Q.sl
  have hmk := mk256
  have hSl := Q.sl
  clear W Q stk
  go_enter Tryz.func23, Tryz.ntmps23
  go_wp2_with fail
  ((with_reducible refine hcall.mono ?_); rintro e w1 ⟨v, rfl, o1, l1⟩)
  obtain ⟨A', c', rfl, hnc, hcm, _⟩ := own_slice o1
  have HRI := Lib.hid (RowI.of_own o1 rfl)
  have hbe : Below w1.heap.size w1 (w1.alloc (.cells z256 3)) := (Below.refl _ _).alloc (Nat.le_refl _) _
  have HX := Lib.hid (show StA p b M w w1.heap.size (fun j => (S.take 0).count (j : Int)) (100 + 0) (w1.alloc (.cells z256 3)) from ⟨l1.below hbe, (CntI.new w1).congr fun j _ => by simp, l1.onl.size⟩)
  have HRI := Lib.hid (HRI.out.same fun g _ hg _ => hbe.block g hg)
  clear hcall o1 l1 hbe
  go_upto_region 5 with (fail)
  revert HX HRI
  generalize w1.alloc (.cells z256 3) = w2
  generalize w1.heap.size = H0
  intro HX HRI
  clear hmk
  have h1H : 1 < H0 := by have := HX.out.old; have := HW.out.fm.lt; have := HW.out.pB; omega
  go_wp2_with fail
  go_loopw [10] (fun j wr => ∃ i : Nat, i ≤ S.length ∧ j = .int .i64 (i : Int) ∧ Hid (StA p b M w H0 (fun j => (S.take i).count (j : Int)) (100 + i) wr) ∧ Hid (RowI H0 A' S wr)) (fun j _ => S.length - (intOf j).toNat)
  case atStart => exact ⟨0, Nat.zero_le _, rfl, HX, HRI⟩
  case round =>
    clear HX HRI
    obtain ⟨i, hi, rfl, HX, HRI⟩ := hrel
    rename World => w3
    have hge : (0 : Int) ≤ (i : Int) := by omega
    by_cases hlt : i < S.length
    · have hlt' : (i : Int) < (S.length : Int) := by omega
      have hz := HQ.out.sn (S.getD i 0) (by rw [List.getD_eq_getElem?_getD, List.getElem?_eq_getElem hlt]; simp)
      have htk : S.take (i + 1) = S.take i ++ [S.getD i 0] := by
        rw [List.take_add_one, List.getElem?_eq_getElem hlt, List.getD_eq_getElem?_getD, List.getElem?_eq_getElem hlt]
        rfl
      obtain ⟨g, rfl, hgH, y0⟩ := HRI.out.cell hlt
      obtain ⟨z, hzz⟩ : ∃ z : Nat, S.getD i 0 = (z : Int) := ⟨(S.getD i 0).toNat, by omega⟩
      rw [hzz] at y0 hz htk
      obtain ⟨⟨hz0, hz1⟩, hst⟩ := hz
      have hz256 : z < 256 := by omega
      have hcall := HX.out.header (by push_cast; omega) ⟨hz0, hz1⟩ hst (by decide)
      have hct : (S.take i).count (z : Int) ≤ 60 := Nat.le_trans List.count_le_length (by rw [List.length_take]; omega)
      have HTK := Lib.hid htk
      have HZZ := Lib.hid hzz
      clear htk hzz hst
      go_wp2_with fail
      ((with_reducible refine hcall.mono ?_); rintro e w4 ⟨gg, rfl, X4, k4⟩)
      have HRI4 := Lib.hid (HRI.out.only HX.out.lm k4)
      have y0' : w4.cell? ⟨g, i, none⟩ = some (.int .i64 (z : Int)) := by
        obtain ⟨g2, e2, _, y⟩ := HRI4.out.cell hlt
        injection e2 with e2
        injection e2 with e2
        subst e2
        rw [HZZ.out] at y
        exact y
      have d0 := (X4.cn.at_ hz256).1
      have d1 := (X4.cn.at_ hz256).2 z
      have HX5 := Lib.hid ((X4.put h1H hz256).congr (g := fun j => (S.take (i + 1)).count (j : Int)) fun j _ => by
        rw [HTK.out, List.count_append]
        by_cases e : j = z
        · subst e; simp
        · have : ¬ ((z : Int) = (j : Int)) := by omega
          simp [e, this])
      have HRI5 := Lib.hid (HRI4.out.set z (.int .i64 (((S.take i).count (z : Int) : Int) + 1)))
      try simp only at d0
      try simp only at HX5
      generalize (S.take i).count (z : Int) = ct at d0 HX5 HRI5 hct
      have hcw : IntKind.i64.wrap ((ct : Int) + 1) = (ct : Int) + 1 := by simp [IntKind.wrap, IntKind.bits, IntKind.signed]; omega
      have HI := Lib.hid (show 100 + i + 1 ≤ 100 + (i + 1) by omega)
      clear X4 k4 hcall HX HRI HRI4 y0
      go_wp2_with fail
      go_roundw
      case rel => exact ⟨i + 1, by omega, by go_num, Lib.hid (HX5.out.mono HI.out), HRI5⟩
      case measure => simp [intOf]; omega
    · have hlt' : (S.length : Int) ≤ (i : Int) := by omega
      have hx := HX.out
      rw [List.take_of_length_le (by omega)] at hx
      have HX6 := Lib.hid ((hx.mono (show 100 + i ≤ 160 + (seenN th 0 0).length by omega)).congr (g := fun j => S.count (j : Int) + (seenN th 0 0).count (j : Int)) fun j _ => by simp [seenN, heldsN])
      have hdec : decide (i < S.length) = false := decide_eq_false hlt
      clear HX hx HRI hlt hi
      go_wp2_with fail
      try rw [hdec]
      clear hdec
      go_loopw [13] (fun j wr => ∃ i : Nat, i ≤ nt ∧ j = .int .i64 (i : Int) ∧ Hid (StA p b M w H0 (fun j => S.count (j : Int) + (seenN th i 0).count (j : Int)) (160 + (seenN th i 0).length) wr)) (fun j _ => nt - (intOf j).toNat)
      case atStart => exact ⟨0, Nat.zero_le _, rfl, HX6⟩
      case round =>
        clear HX6 hge hlt'
        obtain ⟨i, hi, rfl, HX⟩ := hrel
        rename World => w5
        have hge : (0 : Int) ≤ (i : Int) := by omega
        by_cases hlt : i < nt
        · have hlt' : (i : Int) < (nt : Int) := by omega
          go_wp2_with fail
          go_loopw [14] (fun j wr => ∃ k : Nat, k ≤ (th i).held.length ∧ j = .int .i64 (k : Int) ∧ Hid (StA p b M w H0 (fun j => S.count (j : Int) + (seenN th i k).count (j : Int)) (160 + (seenN th i k).length) wr)) (fun j _ => (th i).held.length - (intOf j).toNat)
          case atStart => exact ⟨0, Nat.zero_le _, rfl, HX⟩
          case round =>
            clear HX
            obtain ⟨k, hk, rfl, HX⟩ := hrel
            rename World => w6
            have hkg : (0 : Int) ≤ (k : Int) := by omega
            obtain ⟨M2, hM2, W2⟩ := HX.out.tw HW.out
            have hcells := (W2.tl hlt).cells
            obtain ⟨c0, _, _, _⟩ := hcells
            rw [Nat.mul_comm 3 i] at c0
            obtain ⟨A, c, hv, _, _⟩ := W2.row i hlt
            have hr := W2.row i hlt
            have HV := Lib.hid hv
            rw [hv] at c0 hr
            by_cases hkl : k < (th i).held.length
            · obtain ⟨_, g, off, rfl, _, y0, _, _⟩ := hr.at_ hkl
              rw [Nat.mul_comm 3 k] at y0
              have hq := HQ.out.hl i hlt ((th i).held.getD k (0, 0)) (by rw [List.getD_eq_getElem?_getD, List.getElem?_eq_getElem hkl]; simp)
              have HST := Lib.hid (seenN_step th i hkl)
              have hlen := Nat.le_trans (seenN_len th (k := k) hlt) HQ.out.len
              have hlen1 := Nat.le_trans (seenN_len th (k := k + 1) hlt) HQ.out.len
              have hkl' : (k : Int) < ((th i).held.length : Int) := by omega
              obtain ⟨⟨hz0, hz1⟩, hhd, hg0, hg1⟩ := hq
              obtain ⟨z, hzz⟩ : ∃ z : Nat, ((th i).held.getD k (0, 0)).1 = (z : Int) := ⟨((th i).held.getD k (0, 0)).1.toNat, by omega⟩
              obtain ⟨gn, hgn⟩ : ∃ gn : Int, ((th i).held.getD k (0, 0)).2 = gn := ⟨_, rfl⟩
              have HZZ := Lib.hid hzz
              have HGN := Lib.hid hgn
              rw [hzz] at y0 HST hz0 hz1 hhd
              rw [hgn] at hhd hg0 hg1
              have hz256 : z < 256 := by omega
              have hcall := HX.out.live (by push_cast; omega) ⟨hz0, hz1⟩ hhd hg0 hg1
              have hct : S.count (z : Int) + (seenN th i k).count (z : Int) ≤ 120 := by
                have h1 : S.count (z : Int) ≤ S.length := List.count_le_length
                have h2 : (seenN th i k).count (z : Int) ≤ (seenN th i k).length := List.count_le_length
                omega
              clear hzz hgn hv hr hhd hM2 W2
              generalize hml : (th i).held.length = m at *
              go_wp2_with fail
              ((with_reducible refine hcall.mono ?_); rintro e w7 ⟨rfl, X7, k7⟩)
              obtain ⟨M3, hM3, W3⟩ := X7.tw HW.out
              have hcells := (W3.tl hlt).cells
              obtain ⟨c0', _, _, _⟩ := hcells
              rw [Nat.mul_comm 3 i, HV.out] at c0'
              have hr3 := W3.row i hlt
              rw [HV.out, ← hml] at hr3
              rw [← hml] at hkl
              obtain ⟨_, g2, off2, e2, _, y0', y1', _⟩ := hr3.at_ hkl
              injection e2 with e2
              injection e2 with e2 e3
              subst e2 e3
              rw [Nat.mul_comm 3 k, HZZ.out] at y0'
              rw [Nat.mul_comm 3 k, HGN.out] at y1'
              rw [hml] at hkl
              have d0 := (X7.cn.at_ hz256).1
              have d1 := (X7.cn.at_ hz256).2 z
              have HX8 := Lib.hid (((X7.put h1H hz256).congr (g := fun j => S.count (j : Int) + (seenN th i (k + 1)).count (j : Int)) fun j _ => by
                rw [HST.out, List.count_append]
                by_cases e : j = z
                · subst e; simp; omega
                · have : ¬ ((z : Int) = (j : Int)) := by omega
                  simp [e, this]).mono (c' := 160 + (seenN th i (k + 1)).length) (by rw [HST.out, List.length_append]; simp; omega))
              try simp only at d0
              try simp only at HX8
              generalize S.count (z : Int) + (seenN th i k).count (z : Int) = ct at d0 HX8 hct
              have hcw : IntKind.i64.wrap ((ct : Int) + 1) = (ct : Int) + 1 := by simp [IntKind.wrap, IntKind.bits, IntKind.signed]; omega
              clear X7 k7 hcall HX c0 y0 hr3 W3 hM3 HST
              go_wp2_with fail
              go_roundw
              case rel => exact ⟨k + 1, by omega, by go_num, HX8⟩
              case measure => simp [intOf]; omega
            · have hkl' : ((th i).held.length : Int) ≤ (k : Int) := by omega
              have hkm : k = (th i).held.length := by omega
              have hx := HX.out
              rw [hkm, seenN_next] at hx
              have HX9 := Lib.hid hx
              clear HX hx hkm hv hr W2 hM2 HV
              generalize (th i).held.length = m at *
              go_wp2_with fail
              go_roundw
              case rel => exact ⟨i + 1, by omega, by go_num, HX9⟩
              case measure => simp [intOf]; omega
        · have hi5 : i = nt := by omega
          have hge5 : (nt : Int) ≤ (i : Int) := by omega
          have hx := HX.out
          rw [hi5, seenN_all] at hx
          have hlen := HQ.out.len
          have HX9 := Lib.hid ((hx.mono (c' := 220 + 10 * 0) (by rw [List.length_map]; omega)).congr (g := fun j => S.count (j : Int) + ((heldsN th nt).map (·.1)).count (j : Int) + (if j < 8 * 0 then rz (maV M.V) (j : Int) else 0)) fun j _ => by simp)
          clear HX hx hi5
          go_wp2_with fail
          go_loopw [17] (fun j wr => ∃ sg : Nat, sg ≤ n ∧ j = .int .i64 (sg : Int) ∧ Hid (StA p b M w H0 (fun j => S.count (j : Int) + ((heldsN th nt).map (·.1)).count (j : Int) + (if j < 8 * sg then rz (maV M.V) (j : Int) else 0)) (220 + 10 * sg) wr)) (fun j _ => n - (intOf j).toNat)
          case atStart => exact ⟨0, Nat.zero_le _, rfl, HX9⟩
          case round =>
            clear HX9 hge hge5 hlt hi
            obtain ⟨sg, hsn, rfl, HX⟩ := hrel
            rename World => w10
            have hge : (0 : Int) ≤ (sg : Int) := by omega
            by_cases hlt : sg < n
            · have hlt' : (sg : Int) < (n : Int) := by omega
              obtain ⟨zs, hzs⟩ : ∃ zs : Nat, zs = 8 * sg := ⟨_, rfl⟩
              obtain ⟨q1, q2, q3, q4⟩ := HQ.out.seg sg hlt
              obtain ⟨P8, hP8⟩ : ∃ P8 : Nat, P8 = nR (maV M.V) (sg : Int) := ⟨_, rfl⟩
              rw [← hP8] at q2
              have hP9 : P8 = pS (maV M.V) 3 zs 8 + pS (maV M.V) 4 zs 8 := by rw [hzs, pS_nR]; exact hP8
              have hx0 := HX.out
              rw [← hzs] at hx0
              have HX := Lib.hid hx0
              have HZS := Lib.hid hzs
              have HP9 := Lib.hid hP9
              have HQ4 := Lib.hid q4
              have hsl := segSlots_good (n := (sg : Int)) (by omega) (by omega)
              rw [show (sg : Int) * 8 = (zs : Int) by omega] at hsl
              have hP88 : P8 ≤ 8 := by rw [hP8]; unfold nR; have h := rz_le (maV M.V); have := h (8 * sg); have := h (8 * sg + 1); have := h (8 * sg + 2); have := h (8 * sg + 3); have := h (8 * sg + 4); have := h (8 * sg + 5); have := h (8 * sg + 6); have := h (8 * sg + 7); omega
              clear hx0 hzs hP8 hP9 q4
              obtain ⟨s, hss⟩ : ∃ s : Int, (maV M.V).sst (sg : Int) = s := ⟨_, rfl⟩
              have hseg := HX.out.seg (by push_cast; omega) (z := (sg : Int)) (by omega) hss q2
              have HSS := Lib.hid hss
              rw [hss] at q1 q3
              have hz8s : zs + 8 ≤ 8 * n := by have := HZS.out; omega
              have q3' : s = 0 → P8 = 8 := fun h => by
                have := q3 h
                rw [q2] at this
                omega
              clear hss q2 q3
              have hs2 : ¬ s = 2 := by omega
              have hmay : ∀ ww : World, Calls Tryz.prog 57 #[.int .u64 s, .int .u64 (P8 : Int)] ww fun e w' => e = .returned (.bool true) ∧ w' = ww := by
                intro ww
                rcases q1 with h | h
                · subst h
                  have h8 : P8 = 8 := q3' rfl
                  subst h8
                  exact may_zero ww
                · subst h
                  exact may_one (by omega) ww
              clear q3'
              go_wp2_with fail
              ((with_reducible refine hseg.mono ?_); rintro e w11 ⟨rfl, X11, k11⟩)
              have HX11 := Lib.hid X11
              clear X11 k11 hseg HX
              go_wp2_with fail
              ((with_reducible refine (hsl w11).mono ?_); rintro e w9 ⟨rfl, rfl⟩)
              have HC := Lib.hid (show Bq w9.heap.size 136 [.int .i64 0, .int .i64 0, .int .i64 0, .int .i64 0, .int .i64 0] (w9.alloc (.cells #[.int .i64 0, .int .i64 0, .int .i64 0, .int .i64 0, .int .i64 0] 136)) from Bq.new w9 [.int .i64 0, .int .i64 0, .int .i64 0, .int .i64 0, .int .i64 0] 136)
              have HX12 := Lib.hid (HX11.out.below ((Below.refl _ w9).alloc (Nat.le_refl _) (.cells #[.int .i64 0, .int .i64 0, .int .i64 0, .int .i64 0, .int .i64 0] 136)))
              have hCw : w.heap.size ≤ w9.heap.size := HX11.out.lm.onl.size
              have h1C : 1 < w9.heap.size := by have := HX11.out.old; have := HX11.out.cn.lt; omega
              clear HX11 hsl
              go_wp2_with fail
              revert HC HX12 hCw h1C
              generalize w9.alloc (.cells #[.int .i64 0, .int .i64 0, .int .i64 0, .int .i64 0, .int .i64 0] 136) = w12
              generalize w9.heap.size = C
              intro HC HX12 hCw h1C
              go_loopw [23] (fun j wr => ∃ z k pk gn : Nat, Hid (z = zs + k ∧ pk = pS (maV M.V) 3 zs k ∧ gn = pS (maV M.V) 4 zs k) ∧ k ≤ 8 ∧ pk ≤ k ∧ gn ≤ k ∧ (z : Int) = (zs : Int) + (k : Int) ∧ j = .int .i64 (z : Int) ∧ Hid (StA p b M w H0 (fun j => S.count (j : Int) + ((heldsN th nt).map (·.1)).count (j : Int) + (if j < z then rz (maV M.V) (j : Int) else 0)) (222 + 10 * sg + k) wr) ∧ Hid (Bq C 136 [.int .i64 0, .int .i64 0, .int .i64 0, .int .i64 (pk : Int), .int .i64 (gn : Int)] wr)) (fun j _ => zs + 8 - (intOf j).toNat)
              case atStart => exact ⟨zs, 0, 0, 0, Lib.hid ⟨rfl, rfl, rfl⟩, by omega, by omega, by omega, by omega, rfl, Lib.hid (HX12.out.mono (by omega)), HC⟩
              case round =>
                clear HX12 HC
                obtain ⟨z, k, pk, gn, HZ, hk8, hpk, hgn, hzk, rfl, HX, HC⟩ := hrel
                rename World => w13
                by_cases hk : k < 8
                · have hz0 : (0 : Int) ≤ (z : Int) := by omega
                  have hz8 : z < 8 * n := by omega
                  have hz256 : z < 256 := by omega
                  have hz1 : (z : Int) < 256 := by omega
                  have hzi : (z : Int) < (zs : Int) + 8 := by omega
                  have hst := HQ.out.st z hz8
                  have hone := HQ.out.one z hz8
                  have hsg : segF (z : Int) = (sg : Int) := by have := HZS.out; unfold segF; omega
                  have hnp := HQ4.out (z : Int) hsg
                  rw [HSS.out] at hnp
                  obtain ⟨t, ht⟩ : ∃ t : Int, stW ((maV M.V).hdr (z : Int)) = t := ⟨_, rfl⟩
                  have hrz : rz (maV M.V) (z : Int) = if t = 3 ∨ t = 4 then 1 else 0 := by unfold rz; rw [ht]
                  have hzc : ((zs + k : Nat) : Int) = (z : Int) := by omega
                  have hp3 : pS (maV M.V) 3 zs (k + 1) = pS (maV M.V) 3 zs k + (if t = 3 then 1 else 0) := by
                    show _ + (if stW ((maV M.V).hdr ((zs + k : Nat) : Int)) = 3 then 1 else 0) = _
                    rw [hzc, ht]
                  have hp4 : pS (maV M.V) 4 zs (k + 1) = pS (maV M.V) 4 zs k + (if t = 4 then 1 else 0) := by
                    show _ + (if stW ((maV M.V).hdr ((zs + k : Nat) : Int)) = 4 then 1 else 0) = _
                    rw [hzc, ht]
                  rw [ht] at hst hnp
                  rw [hrz] at hone
                  have hcall := HX.out.header (by push_cast; omega) ⟨hz0, hz1⟩ ht hst.2
                  have HZK := Lib.hid hzk
                  clear hsg hzc ht hzk
                  by_cases h34 : t = 3 ∨ t = 4
                  · have hz00 : S.count (z : Int) + ((heldsN th nt).map (·.1)).count (z : Int) = 0 := by rw [if_pos h34] at hone; omega
                    have hrz1 : rz (maV M.V) (z : Int) = 1 := by rw [hrz, if_pos h34]
                    have hfin : ∀ w8, StA p b M w H0 (fun j => S.count (j : Int) + ((heldsN th nt).map (·.1)).count (j : Int) + (if j < z then rz (maV M.V) (j : Int) else 0)) (222 + 10 * sg + k + 1) w8 → w8.cell? ⟨H0, z, none⟩ = some (.int .i64 0) ∧ w8.frozen? ⟨H0, z, none⟩ = false ∧ StA p b M w H0 (fun j => S.count (j : Int) + ((heldsN th nt).map (·.1)).count (j : Int) + (if j < z + 1 then rz (maV M.V) (j : Int) else 0)) (222 + 10 * sg + (k + 1)) (w8.setCell ⟨H0, z, none⟩ (.int .i64 1)) := by
                      intro w8 X8
                      have e0 : S.count (z : Int) + ((heldsN th nt).map (·.1)).count (z : Int) + (if z < z then rz (maV M.V) (z : Int) else 0) = 0 := by rw [hz00, if_neg (Nat.lt_irrefl _)]
                      have d0 := (X8.cn.at_ hz256).1
                      rw [e0] at d0
                      have hp := X8.put h1H hz256
                      rw [e0] at hp
                      refine ⟨d0, (X8.cn.at_ hz256).2 z, (hp.congr fun j _ => ?_).mono (by omega)⟩
                      by_cases e : j = z
                      · subst e
                        simp
                        omega
                      · rw [if_neg e]
                        by_cases e2 : j < z
                        · rw [if_pos e2, if_pos (by omega)]
                        · rw [if_neg e2, if_neg (by omega)]
                    have HFIN := Lib.hid hfin
                    clear hfin hone hrz hz00 hrz1
                    rcases h34 with h34 | h34
                    · subst h34
                      have hs0 : s = 0 := q1.resolve_right fun h => hnp h rfl
                      subst hs0
                      have hZ2 := Lib.hid (show z + 1 = zs + (k + 1) ∧ pk + 1 = pS (maV M.V) 3 zs (k + 1) ∧ gn = pS (maV M.V) 4 zs (k + 1) from ⟨by have := HZ.out.1; omega, by rw [hp3, ← HZ.out.2.1]; rfl, by rw [hp4, ← HZ.out.2.2]; rfl⟩)
                      have hcw : IntKind.i64.wrap ((pk : Int) + 1) = (pk : Int) + 1 := by simp [IntKind.wrap, IntKind.bits, IntKind.signed]; omega
                      clear hp3 hp4 hst hnp
                      go_wp2_with fail
                      ((with_reducible refine hcall.mono ?_); rintro e w14 ⟨gg, rfl, X14, k14⟩)
                      have HC14 := HC.out.same (k14.block C HC.out.lt (HX.out.lm.ne (by decide) HC.out).1 (HX.out.lm.ne (by decide) HC.out).2)
                      obtain ⟨f0, f1, f2, f3, f4, f5⟩ := Bq.s5 HC14
                      have HX15 := Lib.hid (X14.setC HC14 (by decide) (by decide) hCw h1C 3 (.int .i64 ((pk : Int) + 1)))
                      have HC15 := Lib.hid (HC14.set 3 (.int .i64 ((pk : Int) + 1)) (cs' := [.int .i64 0, .int .i64 0, .int .i64 0, .int .i64 ((pk : Int) + 1), .int .i64 (gn : Int)]) rfl)
                      have f6 := f5 3
                      clear X14 k14 hcall HX HC HC14
                      go_upto_region 35 with (fail)
                      revert HX15 HC15
                      generalize w14.setCell ⟨C, 3, none⟩ (.int .i64 ((pk : Int) + 1)) = w15
                      intro HX15 HC15
                      clear f0 f1 f2 f3 f4 f5 f6
                      obtain ⟨d0, d1, d2⟩ := HFIN.out w15 HX15.out
                      have HX16 := Lib.hid d2
                      have HC16 := Lib.hid (show Bq C 136 [.int .i64 0, .int .i64 0, .int .i64 0, .int .i64 ((pk + 1 : Nat) : Int), .int .i64 (gn : Int)] _ from HC15.out.setO (HX15.out.cn.neB HC15.out (by decide)) z (.int .i64 1))
                      clear d2 HX15 HC15
                      go_wp2_with fail
                      go_roundw
                      case rel => exact ⟨z + 1, k + 1, pk + 1, gn, hZ2, by omega, by omega, by omega, by have := HZK.out; push_cast; omega, by go_num, HX16, HC16⟩
                      case measure => simp [intOf]; have := HZ.out.1; omega
                    · subst h34
                      have hZ2 := Lib.hid (show z + 1 = zs + (k + 1) ∧ pk = pS (maV M.V) 3 zs (k + 1) ∧ gn + 1 = pS (maV M.V) 4 zs (k + 1) from ⟨by have := HZ.out.1; omega, by rw [hp3, ← HZ.out.2.1]; rfl, by rw [hp4, ← HZ.out.2.2]; rfl⟩)
                      have hcw : IntKind.i64.wrap ((gn : Int) + 1) = (gn : Int) + 1 := by simp [IntKind.wrap, IntKind.bits, IntKind.signed]; omega
                      clear hp3 hp4 hst hnp
                      go_wp2_with fail
                      ((with_reducible refine hcall.mono ?_); rintro e w14 ⟨gg, rfl, X14, k14⟩)
                      have HC14 := HC.out.same (k14.block C HC.out.lt (HX.out.lm.ne (by decide) HC.out).1 (HX.out.lm.ne (by decide) HC.out).2)
                      obtain ⟨f0, f1, f2, f3, f4, f5⟩ := Bq.s5 HC14
                      have HX15 := Lib.hid (X14.setC HC14 (by decide) (by decide) hCw h1C 4 (.int .i64 ((gn : Int) + 1)))
                      have HC15 := Lib.hid (HC14.set 4 (.int .i64 ((gn : Int) + 1)) (cs' := [.int .i64 0, .int .i64 0, .int .i64 0, .int .i64 (pk : Int), .int .i64 ((gn : Int) + 1)]) rfl)
                      have f6 := f5 4
                      clear X14 k14 hcall HX HC HC14
                      go_upto_region 40 with (fail)
                      revert HX15 HC15
                      generalize w14.setCell ⟨C, 4, none⟩ (.int .i64 ((gn : Int) + 1)) = w15
                      intro HX15 HC15
                      clear f0 f1 f2 f3 f4 f5 f6
                      obtain ⟨d0, d1, d2⟩ := HFIN.out w15 HX15.out
                      have HX16 := Lib.hid d2
                      have HC16 := Lib.hid (show Bq C 136 [.int .i64 0, .int .i64 0, .int .i64 0, .int .i64 (pk : Int), .int .i64 ((gn + 1 : Nat) : Int)] _ from HC15.out.setO (HX15.out.cn.neB HC15.out (by decide)) z (.int .i64 1))
                      clear d2 HX15 HC15
                      go_wp2_with fail
                      go_roundw
                      case rel => exact ⟨z + 1, k + 1, pk, gn + 1, hZ2, by omega, by omega, by omega, by have := HZK.out; push_cast; omega, by go_num, HX16, HC16⟩
                      case measure => simp [intOf]; have := HZ.out.1; omega
                  · have hz00 : S.count (z : Int) + ((heldsN th nt).map (·.1)).count (z : Int) = 1 := by rw [if_neg h34] at hone; omega
                    have hrz0 : rz (maV M.V) (z : Int) = 0 := by rw [hrz, if_neg h34]
                    have hZ2 := Lib.hid (show z + 1 = zs + (k + 1) ∧ pk = pS (maV M.V) 3 zs (k + 1) ∧ gn = pS (maV M.V) 4 zs (k + 1) from ⟨by have := HZ.out.1; omega, by rw [hp3, if_neg (by omega), ← HZ.out.2.1]; rfl, by rw [hp4, if_neg (by omega), ← HZ.out.2.2]; rfl⟩)
                    have hfin : ∀ w8, StA p b M w H0 (fun j => S.count (j : Int) + ((heldsN th nt).map (·.1)).count (j : Int) + (if j < z then rz (maV M.V) (j : Int) else 0)) (222 + 10 * sg + k + 1) w8 → w8.cell? ⟨H0, z, none⟩ = some (.int .i64 1) ∧ StA p b M w H0 (fun j => S.count (j : Int) + ((heldsN th nt).map (·.1)).count (j : Int) + (if j < z + 1 then rz (maV M.V) (j : Int) else 0)) (222 + 10 * sg + (k + 1)) w8 := by
                      intro w8 X8
                      have e0 : S.count (z : Int) + ((heldsN th nt).map (·.1)).count (z : Int) + (if z < z then rz (maV M.V) (z : Int) else 0) = 1 := by rw [hz00, if_neg (Nat.lt_irrefl _)]
                      have d0 := (X8.cn.at_ hz256).1
                      rw [e0] at d0
                      refine ⟨d0, (X8.congr fun j _ => ?_).mono (by omega)⟩
                      by_cases e : j = z
                      · subst e
                        simp [hrz0]
                      · by_cases e2 : j < z
                        · rw [if_pos e2, if_pos (by omega)]
                        · rw [if_neg e2, if_neg (by omega)]
                    have HFIN := Lib.hid hfin
                    have h012 : t = 0 ∨ t = 1 ∨ t = 2 := by omega
                    clear hfin hone hrz hz00 hrz0 hp3 hp4 hst hnp h34
                    rcases h012 with rfl | rfl | rfl
                    all_goals
                      go_wp2_with fail
                      ((with_reducible refine hcall.mono ?_); rintro e w14 ⟨gg, rfl, X14, k14⟩)
                      have HC14 := Lib.hid (HC.out.same (k14.block C HC.out.lt (HX.out.lm.ne (by decide) HC.out).1 (HX.out.lm.ne (by decide) HC.out).2))
                      obtain ⟨d0, d2⟩ := HFIN.out w14 X14
                      have HX16 := Lib.hid d2
                      clear X14 k14 hcall d2 HX HC
                      go_wp2_with fail
                      go_roundw
                      case rel => exact ⟨z + 1, k + 1, pk, gn, hZ2, by omega, by omega, by omega, by have := HZK.out; push_cast; omega, by go_num, HX16, HC14⟩
                      case measure => simp [intOf]; have := HZ.out.1; omega
                · have hk8' : k = 8 := by omega
                  have hz3 : (zs : Int) + 8 ≤ (z : Int) := by omega
                  have hsum : (pk : Int) + (gn : Int) = (P8 : Int) := by
                    have h1 := HP9.out
                    have h2 := HZ.out
                    rw [hk8'] at h2
                    omega
                  have hA := aside_any (pk := (pk : Int)) (gn := (gn : Int)) (by omega) (by omega) w13
                  rw [hsum] at hA
                  have hw : IntKind.u64.wrap (P8 : Int) = (P8 : Int) := by rw [IntKind.wrap_u64]; omega
                  obtain ⟨f0, f1, f2, f3, f4, f5⟩ := Bq.s5 HC.out
                  have HX14 := Lib.hid (show StA p b M w H0 (fun j => S.count (j : Int) + ((heldsN th nt).map (·.1)).count (j : Int) + (if j < 8 * (sg + 1) then rz (maV M.V) (j : Int) else 0)) (220 + 10 * (sg + 1)) w13 from (HX.out.mono (by omega)).congr fun j _ => by rw [show z = 8 * (sg + 1) by have := HZ.out.1; have := HZS.out; omega])
                  clear HX HC hsum hk8'
                  go_wp2_with fail
                  ((with_reducible refine hA.mono ?_); rintro e w14 ⟨rfl, hb14⟩)
                  have HX15 := Lib.hid (HX14.out.below hb14)
                  clear HX14 hb14 hA f0 f1 f2 f3 f4 f5
                  go_wp2_with fail
                  ((with_reducible refine (hmay _).mono ?_); rintro e w' ⟨rfl, rfl⟩)
                  go_wp2_with fail
                  go_roundw
                  case rel => exact ⟨sg + 1, by omega, by go_num, HX15⟩
                  case measure => simp [intOf]; omega
            · have hlt' : (n : Int) ≤ (sg : Int) := by omega
              have hx := HX.out.lm.mono (c' := 300) (by omega)
              have HX9 := Lib.hid hx
              clear HX hx
              go_wp2_with fail
              go_ret
              exact ⟨rfl, HX9.out⟩
end
end Go.Proofs.YtmjcbjcnmgleaaaGreatDoor
