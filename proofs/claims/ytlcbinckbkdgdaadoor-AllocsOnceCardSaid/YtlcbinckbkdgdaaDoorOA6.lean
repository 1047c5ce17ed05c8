/-
  Is each slot live, in the list, parked, or gone? The law's own look; condition: all lies as it says.
-/
import Derived.Test.YtlcbinckbkdgdaaDoorOA4
namespace Go.Proofs.YtlcbinckbkdgdaaDoor
open Go.RowKit Go.Maps

theorem zero_cnt : Tryd.zeroCells101 = Array.replicate 256 (.int .i64 0) := by kernel_rfl
/-- How often each slot has been met. -/
def CntAt (H0 : Nat) (f : Nat → Nat) (w : World) : Prop := ∃ cur, w.heap[H0]? = some (.cells cur 101 (0, 0)) ∧ cur.size = 256 ∧ ∀ j : Nat, j < 256 → cur[j]? = some (.int .i64 (f j : Int))
theorem CntAt.new (w : World) : CntAt w.heap.size (fun _ => 0) (w.alloc (.cells Tryd.zeroCells101 101)) :=
  ⟨Tryd.zeroCells101, alloc_blk _ _, by rw [zero_cnt]; simp, fun j hj => by rw [zero_cnt, Array.getElem?_eq_getElem (by simpa using hj)]; simp⟩
section
variable {B p b G H0 c c' n : Nat} {f g : Nat → Nat} {ly : Nat → LY} {th : Nat → TA} {M M1 : MV} {w w' wr w1 : World}
theorem CntAt.at_ (h : CntAt H0 f w) {j : Nat} (hj : j < 256) : w.cell? ⟨H0, j, none⟩ = some (.int .i64 (f j : Int)) ∧ ∀ i, w.frozen? ⟨H0, i, none⟩ = false := by
  obtain ⟨cur, h1, h2, h3⟩ := h
  exact ⟨(cell_of_row w H0 j cur _ (0, 0) h1).trans (h3 j hj), fun i => by simp [World.frozen?, h1]⟩
theorem CntAt.lt (h : CntAt H0 f w) : H0 < w.heap.size := by
  obtain ⟨cur, h1, _⟩ := h
  exact (Array.getElem?_eq_some_iff.1 h1).1
theorem CntAt.same (h : CntAt H0 f w) (hs : w'.heap[H0]? = w.heap[H0]?) : CntAt H0 f w' := by
  obtain ⟨cur, h1, h2⟩ := h
  exact ⟨cur, hs.trans h1, h2⟩
theorem CntAt.congr (h : CntAt H0 f w) (e : ∀ j, j < 256 → f j = g j) : CntAt H0 g w := by
  obtain ⟨cur, h1, h2, h3⟩ := h
  exact ⟨cur, h1, h2, fun j hj => by rw [h3 j hj, e j hj]⟩
theorem CntAt.put (h : CntAt H0 f w) {z : Nat} (_ : z < 256) : CntAt H0 (fun j => if j = z then f j + 1 else f j) (w.setCell ⟨H0, z, none⟩ (.int .i64 ((f z : Int) + 1))) := by
  obtain ⟨cur, h1, h2, h3⟩ := h
  refine ⟨_, setCell_blk h1 z _, by simpa using h2, fun j hj => ?_⟩
  rw [Array.getElem?_setIfInBounds]
  by_cases e : z = j
  · subst e
    rw [if_pos rfl, if_pos (by omega)]
    simp
  · rw [if_neg e, h3 j hj]
    simp [show ¬ j = z from fun h => e h.symm]
/-- What whole stands at. -/
structure WhA (p b : Nat) (M : MV) (w : World) (H0 : Nat) (f : Nat → Nat) (c : Nat) (wr : World) : Prop where
  lm : LmA p b M w c wr
  cn : CntAt H0 f wr
  old : w.heap.size ≤ H0
theorem WhA.tw (h : WhA p b M w H0 f c wr) (W : TW B p b G ly th M w) : ∃ M', M'.V = M.V ∧ TW B p b G ly th M' wr := by
  obtain ⟨⟨⟨M', e, _, F⟩, o⟩, _⟩ := h
  exact ⟨M', e, W.onl F o (by simp) (by simp) (by simp)⟩
theorem WhA.ne (h : WhA p b M w H0 f c wr) : H0 ≠ p ∧ H0 ≠ b := by
  obtain ⟨cur, h1, _⟩ := h.cn
  exact h.lm.ne (by decide) h1
theorem WhA.below (h : WhA p b M w H0 f c wr) (hb : Below wr.heap.size wr w') : WhA p b M w H0 f c w' := ⟨h.lm.below hb, h.cn.same (hb.block H0 h.cn.lt), h.old⟩
theorem WhA.mono (h : WhA p b M w H0 f c wr) (hc : c ≤ c') : WhA p b M w H0 f c' wr := ⟨h.lm.mono hc, h.cn, h.old⟩
theorem WhA.congr (h : WhA p b M w H0 f c wr) (e : ∀ j, j < 256 → f j = g j) : WhA p b M w H0 g c wr := ⟨h.lm, h.cn.congr e, h.old⟩
theorem WhA.put (h : WhA p b M w H0 f c wr) (h1 : 1 < H0) {z : Nat} (hz : z < 256) : WhA p b M w H0 (fun j => if j = z then f j + 1 else f j) c (wr.setCell ⟨H0, z, none⟩ (.int .i64 ((f z : Int) + 1))) := by
  have hn := h.ne
  obtain ⟨⟨⟨M', e1, e2, F⟩, o⟩, cn, old⟩ := h
  exact ⟨⟨⟨M', e1, e2, F.setQ hn.1 hn.2 h1 _ _⟩, o.past (E := [H0]) (Onl.setCell _ (by simp) z _) (fun x hx => by rw [List.mem_singleton.1 hx]; exact old)⟩, cn.put hz, old⟩
/-- A header is looked at. -/
theorem WhA.header (h : WhA p b M w H0 f c wr) (hs : M.s.st + (c : Int) < 1000000) {z : Int} (hz : 0 ≤ z ∧ z < 256) {s : Int} (hst : stW ((maV M.V).hdr z) = s) (_ : 0 ≤ s) (h4 : s ≤ 4) :
    Calls Tryd.prog 26 #[.pointer (some ⟨p, 0, none⟩), .int .i64 z] wr fun e w' => ∃ g : Int, e = .returned (.tuple #[.int .u8 s, .int .u32 g]) ∧ WhA p b M w H0 f (c + 1) w' ∧ Only p b wr w' := by
  have hn := h.ne
  obtain ⟨⟨⟨M', e1, e2, F⟩, o⟩, cn, old⟩ := h
  refine (header8_any F (by omega) hz).mono ?_
  rintro e w' ⟨rfl, F', k⟩
  have hv : fld (M'.V (adH z)) 0 3 = s := by rw [e1, ← ma_hdr (V := M.V) hz]; exact hst
  rw [hv, stS_small h4]
  refine ⟨fld (M'.V (adH z)) 3 32, rfl, ⟨⟨⟨ldM M' (adH z), e1, ?_, F'⟩, o.trans (.of_only k)⟩, cn.same (k.block H0 cn.lt hn.1 hn.2), old⟩, k⟩
  · show M'.s.st + 1 ≤ _
    push_cast
    omega
theorem LmA.trans (h : LmA p b M w c w1) (hM : M1.V = M.V) (hs : M1.s.st ≤ M.s.st + (c : Int)) (k : LmA p b M1 w1 c' w') : LmA p b M w (c + c') w' := by
  obtain ⟨⟨M', e1, e2, F⟩, o⟩ := k
  exact ⟨⟨M', e1.trans hM, by push_cast; omega, F⟩, h.onl.trans o⟩
end
/-- .. a word. -/
theorem WhA.load {p b H0 c : Nat} {f : Nat → Nat} {M : MV} {w wr : World} (h : WhA p b M w H0 f c wr) (hs : M.s.st + (c : Int) < 1000000) (x : Ad) :
    Calls Tryd.prog 27 #[.pointer (some ⟨p, 0, none⟩), .agg #[.int .u8 x.k, .int .i64 x.a, .int .i64 x.f]] wr fun e w' => e = .returned (.int .u64 (M.V x)) ∧ WhA p b M w H0 f (c + 1) w' := by
  have hn := h.ne
  refine (h.lm.load hs x).mono ?_
  rintro e w' ⟨rfl, k1, k2⟩
  exact ⟨rfl, k1, h.cn.same (k2.block H0 h.cn.lt hn.1 hn.2), h.old⟩
/-- How many of the first k from a on are in R. -/
def rsum (R : List Int) (a : Nat) : Nat → Nat
  | 0 => 0
  | k + 1 => rsum R a k + R.count ((a + k : Nat) : Int)
theorem stS_small' {s : Int} (h4 : s ≤ 4) : stS s = s := stS_small h4
/-- All that whole asks of the memory. -/
structure WhQ (n : Nat) (th : Nat → TA) (S R : List Int) (A : MA) : Prop where
  n3 : n ≤ 3
  hl : ∀ i, i < 5 → ∀ x ∈ (th i).held, (0 ≤ x.1 ∧ x.1 < 256) ∧ A.hdr x.1 = headerW 1 x.2 ∧ 0 ≤ x.2 ∧ x.2 < 4294967296
  nd : ((heldsA th 5).map (·.1)).Nodup
  len : (heldsA th 5).length ≤ 30
  sl : S.length ≤ 60
  sn : ∀ z ∈ S, (0 ≤ z ∧ z < 256) ∧ stW (A.hdr z) = 0
  st : ∀ z : Nat, z < 8 * n → ∃ s, stW (A.hdr z) = s ∧ 0 ≤ s ∧ s ≤ 4 ∧ ((s = 3 ∨ s = 4) → R.count (z : Int) = 1) ∧ (¬ (s = 3 ∨ s = 4) → R.count (z : Int) = 0)
  one : ∀ z : Nat, z < 8 * n → ((heldsA th 5).map (·.1)).count (z : Int) + S.count (z : Int) + R.count (z : Int) = 1
  cap : ∀ z : Int, ((heldsA th 5).map (·.1)).count z ≤ 30 ∧ S.count z ≤ 60
  told : ∀ g : Nat, g < n → A.spk g = (rsum R (8 * g) 8 : Int)
section
variable {B p b G : Nat} {ly : Nat → LY} {th : Nat → TA} {M : MV} {w w' w0 : World}
set_option maxRecDepth 100000 in
set_option maxHeartbeats 16000000 in
theorem whole_any {n : Nat} {S R : List Int} {T : Int} (W : TW B p b G ly th M w) (hB : 1 < B) (hs : M.s.st < 800000) (stk : Stk (maV M.V).ms S T) (Q : WhQ n th S R (maV M.V)) :
    Calls Tryd.prog 24 #[.slice (some ⟨G, 0, none⟩) 5 5, .pointer (some ⟨p, 0, none⟩), .int .i64 (n : Int)] w fun e w' => e = .returned (.bool true) ∧ LmA p b M w 500 w' := by
  have HW := Lib.hid W
  have HQ := Lib.hid Q
  have HSTK := Lib.hid stk
  have hn3 := Q.n3
  have hlive := live_any (n := 30) W hB (by omega) Q.hl Q.nd Q.len (by decide)
  clear W Q stk
  go_enter Tryd.func24, Tryd.ntmps24
  go_wp2_with fail
  ((with_reducible refine hlive.mono ?_); rintro e w1 ⟨rfl, M1, hM1, hst1, F1, o1⟩)
  have hbe : Below w1.heap.size w1 (w1.alloc (.cells Tryd.zeroCells101 101)) := (Below.refl _ _).alloc (Nat.le_refl _) _
  have HX := Lib.hid (show WhA p b M w w1.heap.size (fun j => (seenL th 0 0).count (j : Int)) 30 (w1.alloc (.cells Tryd.zeroCells101 101)) from ⟨(LmA.mk ⟨M1, hM1, by exact_mod_cast hst1, F1⟩ o1).below hbe, (CntAt.new w1).congr fun j _ => by simp [seenL, heldsA], o1.size⟩)
  clear hlive hM1 hst1 F1 o1 hbe
  go_upto_region 4 with (fail)
  revert HX
  generalize w1.alloc (.cells Tryd.zeroCells101 101) = w2
  generalize w1.heap.size = H0
  intro HX
  have h1H : 1 < H0 := by have := HX.out.old; have := HW.out.fm.lt; have := HW.out.pB; omega
  go_wp2_with fail
  go_loopw [8] (fun j wr => ∃ i : Nat, i ≤ 5 ∧ j = .int .i64 (i : Int) ∧ Hid (WhA p b M w H0 (fun j => (seenL th i 0).count (j : Int)) 30 wr)) (fun j _ => 5 - (intOf j).toNat)
  case atStart => exact ⟨0, Nat.zero_le _, rfl, HX⟩
  case round =>
    clear HX
    obtain ⟨i, hi, rfl, HX⟩ := hrel
    have hge : (0 : Int) ≤ (i : Int) := by omega
    by_cases hlt : i < 5
    · have hlt' : (i : Int) < 5 := by omega
      go_wp2_with fail
      go_loopw [9] (fun j wr => ∃ k : Nat, k ≤ (th i).held.length ∧ j = .int .i64 (k : Int) ∧ Hid (WhA p b M w H0 (fun j => (seenL th i k).count (j : Int)) 30 wr)) (fun j _ => (th i).held.length - (intOf j).toNat)
      case atStart => exact ⟨0, Nat.zero_le _, rfl, HX⟩
      case round =>
        clear HX
        obtain ⟨k, hk, rfl, HX⟩ := hrel
        rename World => w3
        have hkg : (0 : Int) ≤ (k : Int) := by omega
        obtain ⟨M2, hM2, W2⟩ := HX.out.tw HW.out
        have hcells := (W2.tl hlt).cells
        obtain ⟨c0, _, _, _⟩ := hcells
        rw [Nat.mul_comm 3 i] at c0
        obtain ⟨A, c, hv, _, _⟩ := W2.row i hlt
        have hr := W2.row i hlt
        rw [hv] at c0 hr
        by_cases hkl : k < (th i).held.length
        · obtain ⟨_, g, off, rfl, _, y0, _, _⟩ := hr.at_ hkl
          rw [Nat.mul_comm 3 k] at y0
          have hz := (HQ.out.hl i hlt ((th i).held.getD k (0, 0)) (by rw [List.getD_eq_getElem?_getD, List.getElem?_eq_getElem hkl]; simp)).1
          have HST := Lib.hid (seenL_step th i hkl)
          have hcnt : ∀ z : Int, (seenL th i k).count z ≤ 30 := fun z => Nat.le_trans List.count_le_length (Nat.le_trans (seenL_len th hlt) HQ.out.len)
          have hkl' : (k : Int) < ((th i).held.length : Int) := by omega
          generalize (th i).held.getD k (0, 0) = x at y0 hz HST
          obtain ⟨z, hzz⟩ : ∃ z : Nat, x.1 = (z : Int) := ⟨x.1.toNat, by omega⟩
          rw [hzz] at y0 HST hz
          have hz256 : z < 256 := by omega
          have hz0 : (0 : Int) ≤ (z : Int) := by omega
          have hz1 : (z : Int) < 256 := by omega
          have d0 := (HX.out.cn.at_ hz256).1
          have d1 := (HX.out.cn.at_ hz256).2 z
          have hcz := hcnt (z : Int)
          have HX5 := Lib.hid ((HX.out.put h1H hz256).congr (g := fun j => (seenL th i (k + 1)).count (j : Int)) fun j _ => by
            rw [HST.out, List.count_append]
            by_cases e : j = z
            · subst e; simp
            · have : ¬ ((z : Int) = (j : Int)) := by omega
              simp [e, this])
          try simp only at d0
          try simp only at HX5
          generalize (seenL th i k).count (z : Int) = ct at d0 HX5 hcz
          have hcw : IntKind.i64.wrap ((ct : Int) + 1) = (ct : Int) + 1 := by simp [IntKind.wrap, IntKind.bits, IntKind.signed]; omega
          clear hzz hv hr hz hcnt HX W2 hM2 HST
          generalize (th i).held.length = m at *
          go_wp2_with fail
          go_roundw
          case rel => exact ⟨k + 1, by omega, by go_num, HX5⟩
          case measure => simp [intOf]; omega
        · have hkl' : ((th i).held.length : Int) ≤ (k : Int) := by omega
          have hkm : k = (th i).held.length := by omega
          have hx := HX.out
          rw [hkm, seenL_next] at hx
          have HX5 := Lib.hid hx
          clear HX hx hkm hv hr W2 hM2
          generalize (th i).held.length = m at *
          go_wp2_with fail
          go_roundw
          case rel => exact ⟨i + 1, by omega, by go_num, HX5⟩
          case measure => simp [intOf]; omega
    · have hi5 : i = 5 := by omega
      have hge5 : (5 : Int) ≤ (i : Int) := by omega
      have hx := HX.out
      rw [hi5] at hx
      obtain ⟨M3, hM3, hst3, F3⟩ := hx.lm.mem
      have hcall := listed_any p b M3 S T wr F3 (by rw [hM3]; exact HSTK.out) (by omega) HQ.out.sl
      have HX5 := Lib.hid hx
      have HM3 := Lib.hid hM3
      have HS3 := Lib.hid hst3
      clear HX hx hi5 hM3 hst3 F3
      go_wp2_with fail
      ((with_reducible refine hcall.mono ?_); rintro e w4 ⟨v, rfl, o4, l4⟩)
      have HX6 := Lib.hid (show WhA p b M w H0 (fun j => ((heldsA th 5).map (·.1)).count (j : Int) + (S.take 0).count (j : Int)) (130 + 0) w4 from (WhA.mk (HX5.out.lm.trans HM3.out HS3.out l4) (HX5.out.cn.same (l4.onl.block H0 HX5.out.cn.lt HX5.out.ne.1 HX5.out.ne.2 (by simp))) HX5.out.old).congr fun j _ => by simp [seenL])
      have HO := Lib.hid o4
      have hHN : H0 < wr.heap.size := HX5.out.cn.lt
      have hN4 : wr.heap.size ≤ w4.heap.size := l4.onl.size
      clear hcall o4 l4 HX5 HM3 HS3 hge5 hge hlt hi
      generalize wr.heap.size = N at *
      obtain ⟨A', c', rfl, hnc, hcm, _⟩ := own_slice HO.out
      have hSl := HQ.out.sl
      go_wp2_with fail
      go_loopw [12] (fun j wr => ∃ i : Nat, i ≤ S.length ∧ j = .int .i64 (i : Int) ∧ Hid (WhA p b M w H0 (fun j => ((heldsA th 5).map (·.1)).count (j : Int) + (S.take i).count (j : Int)) (130 + i) wr) ∧ Hid (wr.ownsRow N 3 1 (.slice A' S.length c') S.length (S.map iV))) (fun j _ => S.length - (intOf j).toNat)
      case atStart => exact ⟨0, Nat.zero_le _, rfl, HX6, HO⟩
      case round =>
        clear HX6 HO
        obtain ⟨i, hi, rfl, HX, HO⟩ := hrel
        rename World => w5
        have hge : (0 : Int) ≤ (i : Int) := by omega
        by_cases hlt : i < S.length
        · have hlt' : (i : Int) < (S.length : Int) := by omega
          have hz := HQ.out.sn (S.getD i 0) (by rw [List.getD_eq_getElem?_getD, List.getElem?_eq_getElem hlt]; simp)
          have hcap := HQ.out.cap
          have htk : S.take (i + 1) = S.take i ++ [S.getD i 0] := by
            rw [List.take_add_one, List.getElem?_eq_getElem hlt, List.getD_eq_getElem?_getD, List.getElem?_eq_getElem hlt]
            rfl
          obtain ⟨g, rfl, _, _⟩ : ∃ g, A' = some ⟨g, 0, none⟩ ∧ N ≤ g ∧ g < w5.heap.size := by
            rcases HO.out.2 with ⟨_, h0⟩ | ⟨g, cap, cur, hv, hg, hh, _⟩
            · omega
            · injection hv with hv
              exact ⟨g, hv, hg, (Array.getElem?_eq_some_iff.1 hh).1⟩
          have y0 : w5.cell? ⟨g, i, none⟩ = some (.int .i64 (S.getD i 0)) := by
            rcases HO.out.2 with ⟨hv, _⟩ | ⟨g', cap, cur, hv, _, hh, _, _, _, ht⟩
            · cases hv
            · injection hv with hv
              injection hv with hv
              injection hv with hv
              subst hv
              have := ints_at (l := S) 0 hlt
              rw [← ht, List.getElem?_take, if_pos (by omega)] at this
              rw [cell_of_row _ _ i cur 3 (0, 0) hh]
              simpa using this
          obtain ⟨z, hzz⟩ : ∃ z : Nat, S.getD i 0 = (z : Int) := ⟨(S.getD i 0).toNat, by omega⟩
          rw [hzz] at y0 hz htk
          obtain ⟨⟨hz0, hz1⟩, hst⟩ := hz
          have hz256 : z < 256 := by omega
          have hcall := HX.out.header (by push_cast; omega) ⟨hz0, hz1⟩ hst (by decide) (by decide)
          have hct : ((heldsA th 5).map (·.1)).count (z : Int) + (S.take i).count (z : Int) ≤ 90 := by
            have h1 := (hcap (z : Int)).1
            have h2 := (hcap (z : Int)).2
            have h3 : (S.take i).count (z : Int) ≤ S.count (z : Int) := by
              conv => rhs; rw [← List.take_append_drop i S]
              rw [List.count_append]
              omega
            omega
          have HTK := Lib.hid htk
          clear htk hcap hzz hst
          have hlen5 : i < 60 := by omega
          go_wp2_with fail
          ((with_reducible refine hcall.mono ?_); rintro e w6 ⟨gg, rfl, X6, k6⟩)
          have HO6 := Lib.hid (own_only HX.out.lm HO.out (by decide) k6)
          have y0' : w6.cell? ⟨g, i, none⟩ = some (.int .i64 (z : Int)) := by
            obtain ⟨cur, hcur⟩ : ∃ cur, w5.heap[g]? = some (.cells cur 3 (0, 0)) := by
              rcases HO.out.2 with ⟨hv, _⟩ | ⟨g', cap, cur, hv, _, hh, _⟩
              · cases hv
              · injection hv with hv
                injection hv with hv
                injection hv with hv
                subst hv
                exact ⟨cur, hh⟩
            exact (World.cell?_of_block (a := ⟨g, i, none⟩) (k6.block g (Array.getElem?_eq_some_iff.1 hcur).1 (HX.out.lm.ne (by decide) hcur).1 (HX.out.lm.ne (by decide) hcur).2)).trans y0
          have d0 := (X6.cn.at_ hz256).1
          have d1 := (X6.cn.at_ hz256).2 z
          have HX7 := Lib.hid ((X6.put h1H hz256).congr (g := fun j => ((heldsA th 5).map (·.1)).count (j : Int) + (S.take (i + 1)).count (j : Int)) fun j _ => by
            rw [HTK.out, List.count_append]
            by_cases e : j = z
            · subst e; simp; omega
            · have : ¬ ((z : Int) = (j : Int)) := by omega
              simp [e, this])
          have HO7 := Lib.hid (show (w6.setCell ⟨H0, z, none⟩ (.int .i64 ((((heldsA th 5).map (·.1)).count (z : Int) + (S.take i).count (z : Int) : Nat) + 1 : Int))).ownsRow N 3 1 (.slice (some ⟨g, 0, none⟩) S.length c') S.length (S.map iV) from by
            rcases HO6.out.2 with h2 | ⟨g', cap, cur, hv, hg, hh, r⟩
            · exact ⟨HO6.out.1, .inl h2⟩
            · exact ⟨HO6.out.1, .inr ⟨g', cap, cur, hv, hg, (Below.heap_setCell w6 ⟨H0, z, none⟩ _ g' (by simp only; omega)).trans hh, r⟩⟩)
          try simp only at d0
          try simp only at HX7
          generalize ((heldsA th 5).map (·.1)).count (z : Int) + (S.take i).count (z : Int) = ct at d0 HX7 HO7 hct
          have hcw : IntKind.i64.wrap ((ct : Int) + 1) = (ct : Int) + 1 := by simp [IntKind.wrap, IntKind.bits, IntKind.signed]; omega
          have HI := Lib.hid (show 130 + i + 1 ≤ 130 + (i + 1) by omega)
          clear X6 k6 hcall HX HO HO6
          go_wp2_with fail
          go_roundw
          case rel => exact ⟨i + 1, by omega, by go_num, Lib.hid (HX7.out.mono HI.out), HO7⟩
          case measure => simp [intOf]; omega
        · have hlt' : (S.length : Int) ≤ (i : Int) := by omega
          have hx := HX.out
          rw [List.take_of_length_le (by omega)] at hx
          have HX8 := Lib.hid ((hx.mono (show 130 + i ≤ 200 + 9 * 0 by omega)).congr (g := fun j => ((heldsA th 5).map (·.1)).count (j : Int) + S.count (j : Int) + (if j < 8 * 0 then R.count (j : Int) else 0)) fun j _ => by simp)
          have hdec : decide (i < S.length) = false := decide_eq_false hlt
          clear HX hx HO hlt hi
          go_wp2_with fail
          try rw [hdec]
          clear hdec
          go_loopw [15] (fun j wr => ∃ sg : Nat, sg ≤ n ∧ j = .int .i64 (sg : Int) ∧ Hid (WhA p b M w H0 (fun j => ((heldsA th 5).map (·.1)).count (j : Int) + S.count (j : Int) + (if j < 8 * sg then R.count (j : Int) else 0)) (200 + 9 * sg) wr)) (fun j _ => n - (intOf j).toNat)
          case atStart => exact ⟨0, Nat.zero_le _, rfl, HX8⟩
          case round =>
            clear HX8 hge hlt'
            obtain ⟨sg, hsn, rfl, HX⟩ := hrel
            rename World => w6
            have hge : (0 : Int) ≤ (sg : Int) := by omega
            by_cases hlt : sg < n
            · have hlt' : (sg : Int) < (n : Int) := by omega
              obtain ⟨zs, hzs⟩ : ∃ zs : Nat, zs = 8 * sg := ⟨_, rfl⟩
              obtain ⟨t8, ht8⟩ : ∃ t8 : Int, t8 = ((sg : Int) + 1) * 8 := ⟨_, rfl⟩
              have hm1 : IntKind.i64.wrap ((sg : Int) * 8) = (zs : Int) := by simp [IntKind.wrap, IntKind.bits, IntKind.signed]; omega
              have hm2 : IntKind.i64.wrap ((sg : Int) + 1) = (sg : Int) + 1 := by simp [IntKind.wrap, IntKind.bits, IntKind.signed]; omega
              have hm3 : IntKind.i64.wrap (((sg : Int) + 1) * 8) = t8 := by simp [IntKind.wrap, IntKind.bits, IntKind.signed]; omega
              have hx0 := HX.out
              rw [← hzs] at hx0
              have HX := Lib.hid hx0
              have HT8 := Lib.hid ht8
              have HZS := Lib.hid hzs
              clear hx0 ht8 hzs
              go_wp2_with fail
              go_loopw [16, 17] (fun jp ji wr => ∃ z k pk : Nat, Hid (z = 8 * sg + k ∧ pk = rsum R (8 * sg) k) ∧ k ≤ 8 ∧ pk ≤ k ∧ (z : Int) = (sg : Int) * 8 + (k : Int) ∧ jp = .int .u64 (pk : Int) ∧ ji = .int .i64 (z : Int) ∧ Hid (WhA p b M w H0 (fun j => ((heldsA th 5).map (·.1)).count (j : Int) + S.count (j : Int) + (if j < z then R.count (j : Int) else 0)) (200 + 9 * sg + k) wr)) (fun _ ji _ => 8 * sg + 8 - (intOf ji).toNat)
              case atStart => exact ⟨zs, 0, 0, Lib.hid ⟨by rw [HZS.out]; rfl, rfl⟩, by omega, by omega, by have := HZS.out; omega, rfl, rfl, HX⟩
              case round =>
                clear HX
                obtain ⟨z, k, pk, HZ, hk8, hpk, hzk, rfl, rfl, HX⟩ := hrel
                rename World => w7
                by_cases hk : k < 8
                · have hz0 : (0 : Int) ≤ (z : Int) := by omega
                  have hz8 : z < 8 * n := by have := HZ.out.1; omega
                  have hz256 : z < 256 := by omega
                  have hz1 : (z : Int) < 256 := by omega
                  have hzi : (z : Int) < t8 := by have := HT8.out; omega
                  obtain ⟨s, hst, hs0, hs4, hr1, hr2⟩ := HQ.out.st z hz8
                  have hone := HQ.out.one z hz8
                  have hcall := HX.out.header (by push_cast; omega) ⟨hz0, hz1⟩ hst hs0 hs4
                  clear hzk hst
                  have hpw : IntKind.u64.wrap ((pk : Int) + 1) = (pk : Int) + 1 := by rw [IntKind.wrap_u64]; omega
                  by_cases hs34 : s = 3 ∨ s = 4
                  · have hrc := hr1 hs34
                    have hZ2 := Lib.hid (show z + 1 = 8 * sg + (k + 1) ∧ pk + 1 = rsum R (8 * sg) (k + 1) from ⟨by have := HZ.out.1; omega, by
                      show _ = rsum R (8 * sg) k + R.count ((8 * sg + k : Nat) : Int)
                      rw [← HZ.out.1, hrc, ← HZ.out.2]⟩)
                    have hz00 : ((heldsA th 5).map (·.1)).count (z : Int) + S.count (z : Int) = 0 := by omega
                    have HRC := Lib.hid hrc
                    have HZ00 := Lib.hid hz00
                    clear hone hr1 hr2 hrc hz00
                    have hfin : ∀ w8, WhA p b M w H0 (fun j => ((heldsA th 5).map (·.1)).count (j : Int) + S.count (j : Int) + (if j < z then R.count (j : Int) else 0)) (200 + 9 * sg + k + 1) w8 → w8.cell? ⟨H0, z, none⟩ = some (.int .i64 0) ∧ w8.frozen? ⟨H0, z, none⟩ = false ∧ WhA p b M w H0 (fun j => ((heldsA th 5).map (·.1)).count (j : Int) + S.count (j : Int) + (if j < z + 1 then R.count (j : Int) else 0)) (200 + 9 * sg + k + 1) (w8.setCell ⟨H0, z, none⟩ (.int .i64 1)) := by
                      intro w8 X8
                      have e0 : ((heldsA th 5).map (·.1)).count (z : Int) + S.count (z : Int) + (if z < z then R.count (z : Int) else 0) = 0 := by rw [HZ00.out, if_neg (Nat.lt_irrefl _)]
                      have d0 := (X8.cn.at_ hz256).1
                      rw [e0] at d0
                      have hp := X8.put h1H hz256
                      rw [e0] at hp
                      refine ⟨d0, (X8.cn.at_ hz256).2 z, hp.congr fun j _ => ?_⟩
                      by_cases e : j = z
                      · subst e
                        have h1 := HZ00.out
                        have h2 := HRC.out
                        simp
                        omega
                      · rw [if_neg e]
                        by_cases e2 : j < z
                        · rw [if_pos e2, if_pos (by omega)]
                        · rw [if_neg e2, if_neg (by omega)]
                    have HFIN := Lib.hid hfin
                    clear hfin
                    rcases hs34 with rfl | rfl
                    all_goals
                      go_wp2_with fail
                      ((with_reducible refine hcall.mono ?_); rintro e w8 ⟨gg, rfl, X8, k8⟩)
                      obtain ⟨d0, d1, d2⟩ := HFIN.out w8 X8
                      have HX9 := Lib.hid d2
                      clear X8 k8 hcall d2
                      go_wp2_with fail
                      go_roundw
                      case rel => exact ⟨z + 1, k + 1, pk + 1, hZ2, by omega, by omega, by have := hZ2.out.1; push_cast; omega, by go_num, by go_num, Lib.hid (HX9.out.mono (by omega))⟩
                      case measure => simp [intOf]; have := HZ.out.1; omega
                  · have hrc := hr2 hs34
                    have hZ2 := Lib.hid (show z + 1 = 8 * sg + (k + 1) ∧ pk = rsum R (8 * sg) (k + 1) from ⟨by have := HZ.out.1; omega, by
                      show _ = rsum R (8 * sg) k + R.count ((8 * sg + k : Nat) : Int)
                      rw [← HZ.out.1, hrc, ← HZ.out.2]; rfl⟩)
                    have hz00 : ((heldsA th 5).map (·.1)).count (z : Int) + S.count (z : Int) = 1 := by omega
                    have HRC := Lib.hid hrc
                    have HZ00 := Lib.hid hz00
                    have hs012 : s = 0 ∨ s = 1 ∨ s = 2 := by omega
                    clear hone hr1 hr2 hrc hz00 hs34 hs0 hs4
                    have hfin : ∀ w8, WhA p b M w H0 (fun j => ((heldsA th 5).map (·.1)).count (j : Int) + S.count (j : Int) + (if j < z then R.count (j : Int) else 0)) (200 + 9 * sg + k + 1) w8 → w8.cell? ⟨H0, z, none⟩ = some (.int .i64 1) ∧ WhA p b M w H0 (fun j => ((heldsA th 5).map (·.1)).count (j : Int) + S.count (j : Int) + (if j < z + 1 then R.count (j : Int) else 0)) (200 + 9 * sg + k + 1) w8 := by
                      intro w8 X8
                      have e0 : ((heldsA th 5).map (·.1)).count (z : Int) + S.count (z : Int) + (if z < z then R.count (z : Int) else 0) = 1 := by rw [HZ00.out, if_neg (Nat.lt_irrefl _)]
                      have d0 := (X8.cn.at_ hz256).1
                      rw [e0] at d0
                      refine ⟨d0, X8.congr fun j _ => ?_⟩
                      by_cases e : j = z
                      · subst e
                        have h2 := HRC.out
                        simp [h2]
                      · by_cases e2 : j < z
                        · rw [if_pos e2, if_pos (by omega)]
                        · rw [if_neg e2, if_neg (by omega)]
                    have HFIN := Lib.hid hfin
                    clear hfin
                    rcases hs012 with rfl | rfl | rfl
                    all_goals
                      go_wp2_with fail
                      ((with_reducible refine hcall.mono ?_); rintro e w8 ⟨gg, rfl, X8, k8⟩)
                      obtain ⟨d0, d2⟩ := HFIN.out w8 X8
                      have HX9 := Lib.hid d2
                      clear X8 k8 hcall d2
                      go_wp2_with fail
                      go_roundw
                      case rel => exact ⟨z + 1, k + 1, pk, hZ2, by omega, by omega, by have := hZ2.out.1; push_cast; omega, rfl, by go_num, Lib.hid (HX9.out.mono (by omega))⟩
                      case measure => simp [intOf]; have := HZ.out.1; omega
                · have hk8' : k = 8 := by omega
                  have hz3 : t8 ≤ (z : Int) := by have := HT8.out; omega
                  have hx := HX.out
                  have hz9 := HZ.out
                  rw [hk8'] at hz9 hx
                  have hld := hx.load (by push_cast; omega) (adP (sg : Int))
                  have hg32 : (0 : Int) ≤ (sg : Int) ∧ (sg : Int) < 32 := by omega
                  rw [(adP_at (g_i64 hg32)).1, (adP_at (g_i64 hg32)).2.1, (adP_at (g_i64 hg32)).2.2, ← ma_spk (V := M.V) hg32, HQ.out.told sg hlt, ← hz9.2] at hld
                  have HZ9 := Lib.hid hz9.1
                  clear hx hz9 HX HZ hzk hk8'
                  go_wp2_with fail
                  ((with_reducible refine hld.mono ?_); rintro e w8 ⟨rfl, X8⟩)
                  have HX9 := Lib.hid (show WhA p b M w H0 (fun j => ((heldsA th 5).map (·.1)).count (j : Int) + S.count (j : Int) + (if j < 8 * (sg + 1) then R.count (j : Int) else 0)) (200 + 9 * (sg + 1)) w8 from by
                    have h := X8
                    rw [HZ9.out] at h
                    exact (h.mono (by omega)).congr fun j _ => by rw [show 8 * sg + 8 = 8 * (sg + 1) by omega])
                  clear X8 hld
                  go_wp2_with fail
                  go_roundw
                  case rel => exact ⟨sg + 1, by omega, by go_num, HX9⟩
                  case measure => simp [intOf]; omega
            · have hlt' : (n : Int) ≤ (sg : Int) := by omega
              have hx := HX.out.lm.mono (c' := 500) (by omega)
              have HX9 := Lib.hid hx
              clear HX hx
              go_wp2_with fail
              go_ret
              exact ⟨rfl, HX9.out⟩
end
end Go.Proofs.YtlcbinckbkdgdaaDoor
