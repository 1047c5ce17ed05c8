/-
  Package grows; conditions as each theorem says.
-/
import Derived.Test.YtmjcbjcnmgleaaaGreatDoorXP36
import Derived.Test.YtmjcbjcnmgleaaaGreatDoorXP26
namespace Go.Proofs.YtmjcbjcnmgleaaaGreatDoor
open Go.RowKit Go.Maps
def nxL (ln : Int) : Int := if 11 ≤ ln then ln - 4 else if ln = 8 then 6 else if ln = 6 ∨ ln = 7 then 5 else ln
def TR (q r : Nat) (T : TypeId) (nx : Int) (k : KO) (en : Int) (tl : List Value) (w : World) : Prop :=
  ∃ pt sl ws, Bq q T (TC nx pt k.seg sl ws en tl) w ∧ U64 ws ∧ (11 ≤ k.ln → sl = k.slot) ∧ (k.ln = 12 ∨ k.ln = 14 → ws = k.w) ∧
    (k.ln = 15 → pt = .iface 152 (.pointer (some ⟨r, 0, none⟩)) ∧ Bq r 198 [.int .i64 k.psh.nx, .int .u64 k.psh.h, .int .i64 k.psh.to] w)
section
variable {p b q r : Nat} {T : TypeId} {nx sg sl ws en : Int} {pt : Value} {tl cs : List Value} {M : MV} {o : KX} {w w' X Y : World}
def Turned (p b q r : Nat) (T : TypeId) (nx en : Int) (tl : List Value) (R : KX × MV) (w : World) (e : Ending) (w' : World) : Prop :=
  e = .returned (.int .i64 (nxL R.1.k.ln)) ∧ ∃ r', TR q r' T nx R.1.k en tl w' ∧ VX p b R.2 w' ∧ Onl p b [q, r] w w' ∧ (r' = r ∨ w.heap.size ≤ r')
theorem Onl.two (h : Onl p b [q] X Y) : Onl p b [q, r] X Y := h.more (by simp)
theorem nxL_next (k : KO) (e : Int) : nxL (k.nextE e).k.ln = fwd k.seg k.slot := by
  unfold fwd
  show nxL k.next.ln = _
  unfold KO.next
  by_cases h : k.slot + 1 = 8 * k.seg + 8
  · rw [if_pos h, if_pos h]; rfl
  · rw [if_neg h, if_neg h]; rfl
theorem tr_next {k : KO} {e : Int} (h : Bq q T (TC nx pt k.seg (k.slot + 1) ws en tl) w) (hw : U64 ws) : TR q r T nx (k.nextE e).k en tl w := by
  show TR q r T nx k.next en tl w
  refine ⟨pt, k.slot + 1, ws, ?_, hw, ?_⟩
  · unfold KO.next; split <;> exact h
  · unfold KO.next
    split
    · exact ⟨fun h => by simp at h, fun h => by simp at h, fun h => by simp at h⟩
    · exact ⟨fun _ => rfl, fun h => by simp at h, fun h => by simp at h⟩
theorem turn_stepX (hq : 1 < q) (hr : 1 < r) (hT : T ≠ 121) (hT2 : T ≠ 198) (F : VX p b M w) (hs : M.s.st < 1000000) (ok : KNum o) (hl : 11 ≤ o.k.ln) (R : TR q r T (nxL o.k.ln) o.k en tl w) :
    Calls Tryz.prog 77 #[.pointer (some ⟨q, 0, none⟩), .pointer (some ⟨p, 0, none⟩)] w (Turned p b q r T (nxL o.k.ln) en tl (turnX o M) w) := by
  obtain ⟨⟨sh, ln, seg, looks, slot, w0, psh, pk, kept⟩, err⟩ := o
  obtain ⟨h1, h2, h3, h4, h5, h6, h7, h8, h9, h10, h11, h12, h13, h14, h15⟩ := ok
  simp only at h1 h2 h3 h4 h5 h6 h7 hl
  obtain ⟨pt, sl, ws, k, hw, r1, r2, r3⟩ := R
  simp only at k r1 r2 r3
  obtain rfl := r1 hl
  have hsl := h4 hl
  have hsl' : 0 ≤ sl ∧ sl < 256 := by omega
  have hM := F.u64
  clear r1
  obtain rfl | rfl | rfl | rfl | rfl : ln = 11 ∨ ln = 12 ∨ ln = 13 ∨ ln = 14 ∨ ln = 15 := by omega
  · refine (tA hq hT k F hs h1 hsl.1 hsl.2).mono ?_
    rintro e w' ⟨y1, y2⟩
    by_cases hc : stW (M.V (adH sl)) = 3
    · obtain ⟨rfl, y⟩ := y1 hc
      have e : turnX ⟨⟨sh, 11, seg, looks, sl, w0, psh, pk, kept⟩, err⟩ M = (⟨⟨sh, 12, seg, looks, sl, M.V (adH sl), psh, pk, kept⟩, err⟩, ldM M (adH sl)) := by simp [turnX, hc]
      rw [e]
      exact ⟨rfl, r, ⟨pt, sl, _, y.k, hM _, fun _ => rfl, fun _ => rfl, fun h => by simp at h⟩, y.f, y.o.two, .inl rfl⟩
    · obtain ⟨rfl, y⟩ := y2 hc
      have e : turnX ⟨⟨sh, 11, seg, looks, sl, w0, psh, pk, kept⟩, err⟩ M = (KO.nextE ⟨sh, 11, seg, looks, sl, M.V (adH sl), psh, pk, kept⟩ err, ldM M (adH sl)) := by simp [turnX, hc]
      rw [e]
      exact ⟨by rw [nxL_next], r, tr_next y.k (hM _), y.f, y.o.two, .inl rfl⟩
  · obtain rfl := r2 (.inl rfl)
    refine (tB hq hT k F hs h1 hsl.1 hsl.2 hw).mono ?_
    rintro e w' ⟨y1, y2⟩
    by_cases hc : casV M.V (adH sl) ws = true
    · obtain ⟨rfl, y⟩ := y1 hc
      have e : turnX ⟨⟨sh, 12, seg, looks, sl, ws, psh, pk, kept⟩, err⟩ M = (⟨⟨sh, 13, seg, looks, sl, ws, psh, pk, kept⟩, err⟩, csM M (adH sl) ws (headerW 0 (gW ws))) := by simp [turnX, hc]
      rw [e]
      exact ⟨rfl, r, ⟨pt, sl, _, y.k, hw, fun _ => rfl, fun h => by simp at h, fun h => by simp at h⟩, y.f, y.o.two, .inl rfl⟩
    · obtain ⟨rfl, y⟩ := y2 (by simpa using hc)
      have e : turnX ⟨⟨sh, 12, seg, looks, sl, ws, psh, pk, kept⟩, err⟩ M = (KO.nextE ⟨sh, 12, seg, looks, sl, ws, psh, pk, kept⟩ err, csM M (adH sl) ws (headerW 0 (gW ws))) := by simp [turnX, hc]
      rw [e]
      exact ⟨by rw [nxL_next], r, tr_next y.k hw, y.f, y.o.two, .inl rfl⟩
  · refine (tC hq hT k F hs h1 hsl.1 hsl.2).mono ?_
    rintro e w' ⟨rfl, y⟩
    have e : turnX ⟨⟨sh, 13, seg, looks, sl, w0, psh, pk, kept⟩, err⟩ M = (⟨⟨sh, 14, seg, looks, sl, M.V (adP seg), psh, pk, kept⟩, err⟩, ldM M (adP seg)) := by simp [turnX]
    rw [e]
    exact ⟨rfl, r, ⟨pt, sl, _, y.k, hM _, fun _ => rfl, fun _ => rfl, fun h => by simp at h⟩, y.f, y.o.two, .inl rfl⟩
  · obtain rfl := r2 (.inr rfl)
    by_cases hc : casV M.V (adP seg) ws = true
    · refine (tD_yes hq hT k F hs h1 hsl.1 hsl.2 hc).mono ?_
      rintro e w' ⟨rfl, r', g, k2, y⟩
      have e : turnX ⟨⟨sh, 14, seg, looks, sl, ws, psh, pk, kept⟩, err⟩ M = (⟨⟨sh, 15, seg, looks, sl, ws, ⟨1, 0, sl⟩, pk, kept⟩, err⟩, csM M (adP seg) ws (down64 ws)) := by simp [turnX, hc]
      rw [e]
      exact ⟨rfl, r', ⟨_, sl, _, y.k, hw, fun _ => rfl, fun h => by simp at h, fun _ => ⟨rfl, k2⟩⟩, y.f, y.o.two, .inr g⟩
    · refine (tD_no hq hT k F hs h1 hsl.1 hsl.2 (by simpa using hc)).mono ?_
      rintro e w' ⟨rfl, y⟩
      have e : turnX ⟨⟨sh, 14, seg, looks, sl, ws, psh, pk, kept⟩, err⟩ M = (⟨⟨sh, 13, seg, looks, sl, ws, psh, pk, kept⟩, err⟩, csM M (adP seg) ws (down64 ws)) := by simp [turnX, hc]
      rw [e]
      exact ⟨rfl, r, ⟨pt, sl, _, y.k, hw, fun _ => rfl, fun h => by simp at h, fun h => by simp at h⟩, y.f, y.o.two, .inl rfl⟩
  · obtain ⟨hpt, kr⟩ := r3 rfl
    obtain ⟨p1, p2, p3⟩ := h6 (.inr (.inr rfl))
    refine (tE hq hT k F hs h1 hsl.1 hsl.2 hpt hr (k.ne kr hT2) kr p1 ⟨p2, p3⟩ (fun _ => by rw [h7 rfl]; exact slot_i64 hsl')).mono ?_
    rintro e w' ⟨y1, y2⟩
    by_cases hc : (pushX psh M).1.nx = 0
    · obtain ⟨rfl, ya, yb, yc⟩ := y1 hc
      have e : turnX ⟨⟨sh, 15, seg, looks, sl, w0, psh, pk, kept⟩, err⟩ M = (KO.nextE ⟨sh, 15, seg, looks, sl, w0, (pushX psh M).1, pk, kept⟩ err, (pushX psh M).2) := by simp [turnX, hc]
      rw [e]
      exact ⟨by rw [nxL_next], r, tr_next ya hw, yb, yc, .inl rfl⟩
    · obtain ⟨rfl, ya, ya2, yb, yc⟩ := y2 hc
      have e : turnX ⟨⟨sh, 15, seg, looks, sl, w0, psh, pk, kept⟩, err⟩ M = (⟨⟨sh, 15, seg, looks, sl, w0, (pushX psh M).1, pk, kept⟩, err⟩, (pushX psh M).2) := by simp [turnX, hc]
      rw [e]
      exact ⟨rfl, r, ⟨pt, sl, _, ya, hw, fun _ => rfl, fun h => by simp at h, fun _ => ⟨hpt, ya2⟩⟩, yb, yc, .inl rfl⟩
end
end Go.Proofs.YtmjcbjcnmgleaaaGreatDoor
namespace Go.Proofs.YtmjcbjcnmgleaaaGreatDoor
open Go.RowKit Go.Maps
theorem info_tn : (Tryz.prog.info? 58).map (·.size) = some 6 := by kernel_rfl
section
variable {p b q r : Nat} {T : TypeId} {nx n sg sl ws en sg' sl' ws' en' lk : Int} {pt pt' kv : Value} {tl tl' cs : List Value} {M : MV} {o : KX} {R : World → Prop} {w w' X Y : World}
theorem newTurning_good {n : Int} (h0 : 0 ≤ n) (h1 : n < 32) (w : World) : Calls Tryz.prog 31 #[.int .i64 n] w fun e w' => e = .returned (.agg #[.int .i64 1, .nilIface, .int .i64 n, .int .i64 (n * 8), .int .u64 0, .int .i64 0]) ∧ Below w.heap.size w w' := by
  have hb : (n * 8 == n * 8 + 8) = false := beq_eq_false_iff_ne.2 (by omega)
  go_enter Tryz.func31, Tryz.ntmps31
  go_wp2_with fail
  ((with_reducible refine (segSlots_good h0 h1 _).mono ?_); rintro ee w1 ⟨rfl, rfl⟩)
  go_wp2_with fail
  refine bodyPost_ret (results_cell_row rfl _ _ w.heap.size 58 #[.int .i64 1, .nilIface, .int .i64 n, .int .i64 (n * 8), .int .u64 0, .int .i64 0] (0, 0) _ rfl (heap_alloc_new w _) Tryz.underlying58 rfl info_tn) rfl ⟨rfl, (Below.refl _ _).alloc (Nat.le_refl _) _⟩
theorem newTurning_bad {n : Int} (h : n < 0 ∨ 32 ≤ n) (w : World) : Calls Tryz.prog 31 #[.int .i64 n] w fun e w' => e = .returned (.agg #[.int .i64 0, .nilIface, .int .i64 0, .int .i64 0, .int .u64 0, .int .i64 1]) ∧ Below w.heap.size w w' := by
  go_enter Tryz.func31, Tryz.ntmps31
  go_wp2_with fail
  ((with_reducible refine (segSlots_bad h _).mono ?_); rintro ee w1 ⟨rfl, rfl⟩)
  go_wp2_with fail
  refine bodyPost_ret (results_cell_row rfl _ _ w.heap.size 58 #[.int .i64 0, .nilIface, .int .i64 0, .int .i64 0, .int .u64 0, .int .i64 1] (0, 0) _ rfl (heap_alloc_new w _) Tryz.underlying58 rfl info_tn) rfl ⟨rfl, (Below.refl _ _).alloc (Nat.le_refl _) _⟩
theorem newGrow_good {n : Int} (h0 : 0 ≤ n) (h1 : n < 32) (w : World) : Calls Tryz.prog 9 #[.int .i64 n] w fun e w' => ∃ q, e = .returned (.pointer (some ⟨q, 0, none⟩)) ∧ w.heap.size ≤ q ∧ Bq q 60 (TC 1 .nilIface n (n * 8) 0 0 []) w' ∧ Below w.heap.size w w' := by
  go_enter Tryz.func9, Tryz.ntmps9
  go_wp2_with fail
  ((with_reducible refine (newTurning_good h0 h1 _).mono ?_); rintro ee w1 ⟨rfl, hb1⟩)
  have HB1 := Lib.hid hb1
  clear hb1
  go_wp2_with fail
  go_ret
  exact ⟨w1.heap.size, rfl, HB1.out.size, Bq.new w1 (TC 1 .nilIface n (n * 8) 0 0 []) _, HB1.out.alloc HB1.out.size _⟩
theorem newGrow_bad {n : Int} (h : n < 0 ∨ 32 ≤ n) (w : World) : Calls Tryz.prog 9 #[.int .i64 n] w fun e w' => ∃ q, e = .returned (.pointer (some ⟨q, 0, none⟩)) ∧ w.heap.size ≤ q ∧ Bq q 60 (TC 0 .nilIface 0 0 0 1 []) w' ∧ Below w.heap.size w w' := by
  go_enter Tryz.func9, Tryz.ntmps9
  go_wp2_with fail
  ((with_reducible refine (newTurning_bad h _).mono ?_); rintro ee w1 ⟨rfl, hb1⟩)
  have HB1 := Lib.hid hb1
  clear hb1
  go_wp2_with fail
  go_ret
  exact ⟨w1.heap.size, rfl, HB1.out.size, Bq.new w1 (TC 0 .nilIface 0 0 0 1 []) _, HB1.out.alloc HB1.out.size _⟩
theorem newShrink_good {n : Int} (h0 : 0 ≤ n) (h1 : n < 32) (lk : Int) (w : World) : Calls Tryz.prog 11 #[.int .i64 n, .int .i64 lk] w fun e w' => ∃ q, e = .returned (.pointer (some ⟨q, 0, none⟩)) ∧ w.heap.size ≤ q ∧ Bq q 63 (TC 1 .nilIface n (n * 8) 0 0 [.int .i64 lk, .slice none 0 0]) w' ∧ Below w.heap.size w w' := by
  go_enter Tryz.func11, Tryz.ntmps11
  go_wp2_with fail
  ((with_reducible refine (newTurning_good h0 h1 _).mono ?_); rintro ee w1 ⟨rfl, hb1⟩)
  have HB1 := Lib.hid hb1
  clear hb1
  go_wp2_with fail
  go_ret
  exact ⟨w1.heap.size, rfl, HB1.out.size, Bq.new w1 (TC 1 .nilIface n (n * 8) 0 0 [.int .i64 lk, .slice none 0 0]) _, HB1.out.alloc HB1.out.size _⟩
theorem newShrink_bad {n : Int} (h : n < 0 ∨ 32 ≤ n) (lk : Int) (w : World) : Calls Tryz.prog 11 #[.int .i64 n, .int .i64 lk] w fun e w' => ∃ q, e = .returned (.pointer (some ⟨q, 0, none⟩)) ∧ w.heap.size ≤ q ∧ Bq q 63 (TC 0 .nilIface 0 0 0 1 [.int .i64 lk, .slice none 0 0]) w' ∧ Below w.heap.size w w' := by
  go_enter Tryz.func11, Tryz.ntmps11
  go_wp2_with fail
  ((with_reducible refine (newTurning_bad h _).mono ?_); rintro ee w1 ⟨rfl, hb1⟩)
  have HB1 := Lib.hid hb1
  clear hb1
  go_wp2_with fail
  go_ret
  exact ⟨w1.heap.size, rfl, HB1.out.size, Bq.new w1 (TC 0 .nilIface 0 0 0 1 [.int .i64 lk, .slice none 0 0]) _, HB1.out.alloc HB1.out.size _⟩
def gotE (nx en : Int) : Int := if nx = 0 then en else 0
theorem tGot' (k : Bq q T (TC nx pt sg sl ws en tl) w) : Calls Tryz.prog 79 #[.pointer (some ⟨q, 0, none⟩)] w fun e w' => e = .returned (.int .i64 (gotE nx en)) ∧ w' = w := tGot k
theorem overGrow (k : Bq q T (TC nx pt sg sl ws en tl) w) : Calls Tryz.prog 39 #[.pointer (some ⟨q, 0, none⟩)] w fun e w' => e = .returned (.bool (nx == 0)) ∧ w' = w := by
  have HK := Lib.hid k
  clear k
  go_enter Tryz.func39, Tryz.ntmps39
  go_wp2_with fail
  ((with_reducible refine (tOver HK.out).mono ?_); rintro ee w1 ⟨rfl, rfl⟩)
  go_wp2_with fail
  go_ret
  exact ⟨rfl, rfl⟩
theorem gotGrow (k : Bq q T (TC nx pt sg sl ws en tl) w) : Calls Tryz.prog 40 #[.pointer (some ⟨q, 0, none⟩)] w fun e w' => e = .returned (.int .i64 (gotE nx en)) ∧ w' = w := by
  have HK := Lib.hid k
  clear k
  go_enter Tryz.func40, Tryz.ntmps40
  go_wp2_with fail
  ((with_reducible refine (tGot' HK.out).mono ?_); rintro ee w1 ⟨rfl, rfl⟩)
  go_wp2_with fail
  go_ret
  exact ⟨rfl, rfl⟩
theorem stepGrow_over (m : Value) (k : Bq q T (TC 0 pt sg sl ws en tl) w) : Calls Tryz.prog 38 #[.pointer (some ⟨q, 0, none⟩), m] w fun e w' => e = .returned (.bool true) ∧ w' = w := by
  have HK := Lib.hid k
  clear k
  go_enter Tryz.func38, Tryz.ntmps38
  go_wp2_with fail
  ((with_reducible refine (overGrow HK.out).mono ?_); rintro ee w1 ⟨rfl, rfl⟩)
  go_wp2_with fail
  go_ret
  exact ⟨rfl, rfl⟩
theorem overShrink (k : Bq q T (TC nx pt sg sl ws en tl) w) : Calls Tryz.prog 36 #[.pointer (some ⟨q, 0, none⟩)] w fun e w' => e = .returned (.bool (nx == 0)) ∧ w' = w := by
  have HK := Lib.hid k
  clear k
  go_enter Tryz.func36, Tryz.ntmps36
  go_wp2_with fail
  ((with_reducible refine (tOver HK.out).mono ?_); rintro ee w1 ⟨rfl, rfl⟩)
  go_wp2_with fail
  go_ret
  exact ⟨rfl, rfl⟩
theorem gotShrink (k : Bq q T (TC nx pt sg sl ws en tl) w) : Calls Tryz.prog 37 #[.pointer (some ⟨q, 0, none⟩)] w fun e w' => e = .returned (.int .i64 (gotE nx en)) ∧ w' = w := by
  have HK := Lib.hid k
  clear k
  go_enter Tryz.func37, Tryz.ntmps37
  go_wp2_with fail
  ((with_reducible refine (tGot' HK.out).mono ?_); rintro ee w1 ⟨rfl, rfl⟩)
  go_wp2_with fail
  go_ret
  exact ⟨rfl, rfl⟩
theorem stepShrink_over (m : Value) (k : Bq q T (TC 0 pt sg sl ws en tl) w) : Calls Tryz.prog 35 #[.pointer (some ⟨q, 0, none⟩), m] w fun e w' => e = .returned (.bool true) ∧ w' = w := by
  have HK := Lib.hid k
  clear k
  go_enter Tryz.func35, Tryz.ntmps35
  go_wp2_with fail
  ((with_reducible refine (overShrink HK.out).mono ?_); rintro ee w1 ⟨rfl, rfl⟩)
  go_wp2_with fail
  go_ret
  exact ⟨rfl, rfl⟩
theorem gGrow_ask (k : Bq q 60 (TC 1 pt sg sl ws en tl) w)
    (hs : Calls Tryz.prog 73 #[.pointer (some ⟨q, 0, none⟩), .pointer (some ⟨p, 0, none⟩), .int .u64 0, .int .u64 1, .int .i64 8] w fun e w1 => e = .returned (.int .i64 n) ∧ R w1) (hR : ∀ X, R X → ∃ nx pt' sg' sl' ws' en' tl', Bq q 60 (TC nx pt' sg' sl' ws' en' tl') X) :
    Calls Tryz.prog 38 #[.pointer (some ⟨q, 0, none⟩), .pointer (some ⟨p, 0, none⟩)] w fun e w' => e = .returned (.bool (n == 0)) ∧ ∃ w1, R w1 ∧ w' = w1.setCell ⟨q, 0, none⟩ (.int .i64 n) := by
  obtain ⟨c0, c1, c2, c3, c4, c5, z⟩ := k.tc
  have HK := Lib.hid k
  have HS := Lib.hid hs
  have HRR := Lib.hid hR
  clear k hs z hR
  go_enter Tryz.func38, Tryz.ntmps38
  go_wp2_with fail
  ((with_reducible refine (overGrow HK.out).mono ?_); rintro ee w1 ⟨rfl, rfl⟩)
  go_wp2_with fail
  ((with_reducible refine HS.out.mono ?_); rintro ee w2 ⟨rfl, h2⟩)
  obtain ⟨nx, pt', sg', sl', ws', en', tl', k2⟩ := HRR.out _ h2
  have z0 := k2.free 0
  have c0' := k2.cell 0
  have HR := Lib.hid h2
  have HK3 := Lib.hid (k2.set 0 (.int .i64 n) (cs' := TC n pt' sg' sl' ws' en' tl') rfl)
  clear k2 h2 c0 c1 c2 c3 c4 c5
  simp only [TC, List.getElem?_cons_zero] at c0'
  go_wp2_with fail
  ((with_reducible refine (tOver HK3.out).mono ?_); rintro ee w4 ⟨rfl, rfl⟩)
  go_wp2_with fail
  go_ret
  exact ⟨rfl, w2, HR.out, rfl⟩
theorem gGrow_begin (k : Bq q 60 (TC 2 pt sg sl ws en tl) w)
    (hs : Calls Tryz.prog 74 #[.pointer (some ⟨q, 0, none⟩), .pointer (some ⟨p, 0, none⟩), .int .u64 0, .int .u64 1, .int .i64 7] w fun e w1 => e = .returned (.int .i64 n) ∧ R w1) (hR : ∀ X, R X → ∃ nx pt' sg' sl' ws' en' tl', Bq q 60 (TC nx pt' sg' sl' ws' en' tl') X) :
    Calls Tryz.prog 38 #[.pointer (some ⟨q, 0, none⟩), .pointer (some ⟨p, 0, none⟩)] w fun e w' => e = .returned (.bool (n == 0)) ∧ ∃ w1, R w1 ∧ w' = w1.setCell ⟨q, 0, none⟩ (.int .i64 n) := by
  obtain ⟨c0, c1, c2, c3, c4, c5, z⟩ := k.tc
  have HK := Lib.hid k
  have HS := Lib.hid hs
  have HRR := Lib.hid hR
  clear k hs z hR
  go_enter Tryz.func38, Tryz.ntmps38
  go_wp2_with fail
  ((with_reducible refine (overGrow HK.out).mono ?_); rintro ee w1 ⟨rfl, rfl⟩)
  go_wp2_with fail
  ((with_reducible refine HS.out.mono ?_); rintro ee w2 ⟨rfl, h2⟩)
  obtain ⟨nx, pt', sg', sl', ws', en', tl', k2⟩ := HRR.out _ h2
  have z0 := k2.free 0
  have c0' := k2.cell 0
  have HR := Lib.hid h2
  have HK3 := Lib.hid (k2.set 0 (.int .i64 n) (cs' := TC n pt' sg' sl' ws' en' tl') rfl)
  clear k2 h2 c0 c1 c2 c3 c4 c5
  simp only [TC, List.getElem?_cons_zero] at c0'
  go_wp2_with fail
  ((with_reducible refine (tOver HK3.out).mono ?_); rintro ee w4 ⟨rfl, rfl⟩)
  go_wp2_with fail
  go_ret
  exact ⟨rfl, w2, HR.out, rfl⟩
theorem gGrow_turn7 (k : Bq q 60 (TC 7 pt sg sl ws en tl) w)
    (hs : Calls Tryz.prog 77 #[.pointer (some ⟨q, 0, none⟩), .pointer (some ⟨p, 0, none⟩)] w fun e w1 => e = .returned (.int .i64 n) ∧ R w1) (hR : ∀ X, R X → ∃ nx pt' sg' sl' ws' en' tl', Bq q 60 (TC nx pt' sg' sl' ws' en' tl') X) :
    Calls Tryz.prog 38 #[.pointer (some ⟨q, 0, none⟩), .pointer (some ⟨p, 0, none⟩)] w fun e w' => e = .returned (.bool (n == 0)) ∧ ∃ w1, R w1 ∧ w' = w1.setCell ⟨q, 0, none⟩ (.int .i64 n) := by
  obtain ⟨c0, c1, c2, c3, c4, c5, z⟩ := k.tc
  have HK := Lib.hid k
  have HS := Lib.hid hs
  have HRR := Lib.hid hR
  clear k hs z hR
  go_enter Tryz.func38, Tryz.ntmps38
  go_wp2_with fail
  ((with_reducible refine (overGrow HK.out).mono ?_); rintro ee w1 ⟨rfl, rfl⟩)
  go_wp2_with fail
  ((with_reducible refine HS.out.mono ?_); rintro ee w2 ⟨rfl, h2⟩)
  obtain ⟨nx, pt', sg', sl', ws', en', tl', k2⟩ := HRR.out _ h2
  have z0 := k2.free 0
  have c0' := k2.cell 0
  have HR := Lib.hid h2
  have HK3 := Lib.hid (k2.set 0 (.int .i64 n) (cs' := TC n pt' sg' sl' ws' en' tl') rfl)
  clear k2 h2 c0 c1 c2 c3 c4 c5
  simp only [TC, List.getElem?_cons_zero] at c0'
  go_wp2_with fail
  ((with_reducible refine (tOver HK3.out).mono ?_); rintro ee w4 ⟨rfl, rfl⟩)
  go_wp2_with fail
  go_ret
  exact ⟨rfl, w2, HR.out, rfl⟩
theorem gGrow_turn8 (k : Bq q 60 (TC 8 pt sg sl ws en tl) w)
    (hs : Calls Tryz.prog 77 #[.pointer (some ⟨q, 0, none⟩), .pointer (some ⟨p, 0, none⟩)] w fun e w1 => e = .returned (.int .i64 n) ∧ R w1) (hR : ∀ X, R X → ∃ nx pt' sg' sl' ws' en' tl', Bq q 60 (TC nx pt' sg' sl' ws' en' tl') X) :
    Calls Tryz.prog 38 #[.pointer (some ⟨q, 0, none⟩), .pointer (some ⟨p, 0, none⟩)] w fun e w' => e = .returned (.bool (n == 0)) ∧ ∃ w1, R w1 ∧ w' = w1.setCell ⟨q, 0, none⟩ (.int .i64 n) := by
  obtain ⟨c0, c1, c2, c3, c4, c5, z⟩ := k.tc
  have HK := Lib.hid k
  have HS := Lib.hid hs
  have HRR := Lib.hid hR
  clear k hs z hR
  go_enter Tryz.func38, Tryz.ntmps38
  go_wp2_with fail
  ((with_reducible refine (overGrow HK.out).mono ?_); rintro ee w1 ⟨rfl, rfl⟩)
  go_wp2_with fail
  ((with_reducible refine HS.out.mono ?_); rintro ee w2 ⟨rfl, h2⟩)
  obtain ⟨nx, pt', sg', sl', ws', en', tl', k2⟩ := HRR.out _ h2
  have z0 := k2.free 0
  have c0' := k2.cell 0
  have HR := Lib.hid h2
  have HK3 := Lib.hid (k2.set 0 (.int .i64 n) (cs' := TC n pt' sg' sl' ws' en' tl') rfl)
  clear k2 h2 c0 c1 c2 c3 c4 c5
  simp only [TC, List.getElem?_cons_zero] at c0'
  go_wp2_with fail
  ((with_reducible refine (tOver HK3.out).mono ?_); rintro ee w4 ⟨rfl, rfl⟩)
  go_wp2_with fail
  go_ret
  exact ⟨rfl, w2, HR.out, rfl⟩
theorem gGrow_turn9 (k : Bq q 60 (TC 9 pt sg sl ws en tl) w)
    (hs : Calls Tryz.prog 77 #[.pointer (some ⟨q, 0, none⟩), .pointer (some ⟨p, 0, none⟩)] w fun e w1 => e = .returned (.int .i64 n) ∧ R w1) (hR : ∀ X, R X → ∃ nx pt' sg' sl' ws' en' tl', Bq q 60 (TC nx pt' sg' sl' ws' en' tl') X) :
    Calls Tryz.prog 38 #[.pointer (some ⟨q, 0, none⟩), .pointer (some ⟨p, 0, none⟩)] w fun e w' => e = .returned (.bool (n == 0)) ∧ ∃ w1, R w1 ∧ w' = w1.setCell ⟨q, 0, none⟩ (.int .i64 n) := by
  obtain ⟨c0, c1, c2, c3, c4, c5, z⟩ := k.tc
  have HK := Lib.hid k
  have HS := Lib.hid hs
  have HRR := Lib.hid hR
  clear k hs z hR
  go_enter Tryz.func38, Tryz.ntmps38
  go_wp2_with fail
  ((with_reducible refine (overGrow HK.out).mono ?_); rintro ee w1 ⟨rfl, rfl⟩)
  go_wp2_with fail
  ((with_reducible refine HS.out.mono ?_); rintro ee w2 ⟨rfl, h2⟩)
  obtain ⟨nx, pt', sg', sl', ws', en', tl', k2⟩ := HRR.out _ h2
  have z0 := k2.free 0
  have c0' := k2.cell 0
  have HR := Lib.hid h2
  have HK3 := Lib.hid (k2.set 0 (.int .i64 n) (cs' := TC n pt' sg' sl' ws' en' tl') rfl)
  clear k2 h2 c0 c1 c2 c3 c4 c5
  simp only [TC, List.getElem?_cons_zero] at c0'
  go_wp2_with fail
  ((with_reducible refine (tOver HK3.out).mono ?_); rintro ee w4 ⟨rfl, rfl⟩)
  go_wp2_with fail
  go_ret
  exact ⟨rfl, w2, HR.out, rfl⟩
theorem gGrow_turn10 (k : Bq q 60 (TC 10 pt sg sl ws en tl) w)
    (hs : Calls Tryz.prog 77 #[.pointer (some ⟨q, 0, none⟩), .pointer (some ⟨p, 0, none⟩)] w fun e w1 => e = .returned (.int .i64 n) ∧ R w1) (hR : ∀ X, R X → ∃ nx pt' sg' sl' ws' en' tl', Bq q 60 (TC nx pt' sg' sl' ws' en' tl') X) :
    Calls Tryz.prog 38 #[.pointer (some ⟨q, 0, none⟩), .pointer (some ⟨p, 0, none⟩)] w fun e w' => e = .returned (.bool (n == 0)) ∧ ∃ w1, R w1 ∧ w' = w1.setCell ⟨q, 0, none⟩ (.int .i64 n) := by
  obtain ⟨c0, c1, c2, c3, c4, c5, z⟩ := k.tc
  have HK := Lib.hid k
  have HS := Lib.hid hs
  have HRR := Lib.hid hR
  clear k hs z hR
  go_enter Tryz.func38, Tryz.ntmps38
  go_wp2_with fail
  ((with_reducible refine (overGrow HK.out).mono ?_); rintro ee w1 ⟨rfl, rfl⟩)
  go_wp2_with fail
  ((with_reducible refine HS.out.mono ?_); rintro ee w2 ⟨rfl, h2⟩)
  obtain ⟨nx, pt', sg', sl', ws', en', tl', k2⟩ := HRR.out _ h2
  have z0 := k2.free 0
  have c0' := k2.cell 0
  have HR := Lib.hid h2
  have HK3 := Lib.hid (k2.set 0 (.int .i64 n) (cs' := TC n pt' sg' sl' ws' en' tl') rfl)
  clear k2 h2 c0 c1 c2 c3 c4 c5
  simp only [TC, List.getElem?_cons_zero] at c0'
  go_wp2_with fail
  ((with_reducible refine (tOver HK3.out).mono ?_); rintro ee w4 ⟨rfl, rfl⟩)
  go_wp2_with fail
  go_ret
  exact ⟨rfl, w2, HR.out, rfl⟩
theorem gGrow_turn11 (k : Bq q 60 (TC 11 pt sg sl ws en tl) w)
    (hs : Calls Tryz.prog 77 #[.pointer (some ⟨q, 0, none⟩), .pointer (some ⟨p, 0, none⟩)] w fun e w1 => e = .returned (.int .i64 n) ∧ R w1) (hR : ∀ X, R X → ∃ nx pt' sg' sl' ws' en' tl', Bq q 60 (TC nx pt' sg' sl' ws' en' tl') X) :
    Calls Tryz.prog 38 #[.pointer (some ⟨q, 0, none⟩), .pointer (some ⟨p, 0, none⟩)] w fun e w' => e = .returned (.bool (n == 0)) ∧ ∃ w1, R w1 ∧ w' = w1.setCell ⟨q, 0, none⟩ (.int .i64 n) := by
  obtain ⟨c0, c1, c2, c3, c4, c5, z⟩ := k.tc
  have HK := Lib.hid k
  have HS := Lib.hid hs
  have HRR := Lib.hid hR
  clear k hs z hR
  go_enter Tryz.func38, Tryz.ntmps38
  go_wp2_with fail
  ((with_reducible refine (overGrow HK.out).mono ?_); rintro ee w1 ⟨rfl, rfl⟩)
  go_wp2_with fail
  ((with_reducible refine HS.out.mono ?_); rintro ee w2 ⟨rfl, h2⟩)
  obtain ⟨nx, pt', sg', sl', ws', en', tl', k2⟩ := HRR.out _ h2
  have z0 := k2.free 0
  have c0' := k2.cell 0
  have HR := Lib.hid h2
  have HK3 := Lib.hid (k2.set 0 (.int .i64 n) (cs' := TC n pt' sg' sl' ws' en' tl') rfl)
  clear k2 h2 c0 c1 c2 c3 c4 c5
  simp only [TC, List.getElem?_cons_zero] at c0'
  go_wp2_with fail
  ((with_reducible refine (tOver HK3.out).mono ?_); rintro ee w4 ⟨rfl, rfl⟩)
  go_wp2_with fail
  go_ret
  exact ⟨rfl, w2, HR.out, rfl⟩
end
end Go.Proofs.YtmjcbjcnmgleaaaGreatDoor
