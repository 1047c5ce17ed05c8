/-
  A segment drains, or is mapped again; what holds between two acts; condition: all lies as it says.
-/
import Derived.Test.YtlcbinckbkdgdaaDoorOA4
namespace Go.Proofs.YtlcbinckbkdgdaaDoor
open Go.RowKit Go.Maps

theorem casV_G {V : Ad → Int} {g : Int} (hg : 0 ≤ g ∧ g < 32) (u : Int) : casV V (adG g) u = decide ((maV V).sst g = u) := by
  unfold casV
  rw [may_G hg, ma_sst hg]
  rfl
theorem ma_csG {V : Ad → Int} {g : Int} (hg : 0 ≤ g ∧ g < 32) (u v : Int) : maV (csV V (adG g) u v) = if (maV V).sst g = u then (maV V).setD g v else maV V := by
  unfold csV
  rw [casV_G hg]
  by_cases h : (maV V).sst g = u
  · rw [if_pos h, if_pos (by simpa using h), ma_setD hg]
  · rw [if_neg h, if_neg (by simpa using h)]
set_option maxRecDepth 100000 in
set_option maxHeartbeats 4000000 in
theorem drain_any {p b : Nat} {M : MV} {w : World} {g : Int} (d : Bool) (F : VX p b M w) (hs : M.s.st < 1000000) (hg : 0 ≤ g ∧ g < 32) :
    Calls Tryd.prog 21 #[.pointer (some ⟨p, 0, none⟩), .int .i64 g, .bool d] w fun e w' => e = .returned (.tuple #[]) ∧ ∃ M', maV M'.V = drainA (maV M.V) g d ∧ M'.s.st ≤ M.s.st + 1 ∧ VX p b M' w' ∧ Onl p b [] w w' := by
  have hbe : Below w.heap.size w (w.alloc (.cells #[.int .u8 6, .int .i64 g, .int .i64 0] 75)) := (Below.refl _ _).alloc (Nat.le_refl _) _
  have hk : Bq w.heap.size 75 [.int .u8 6, .int .i64 g, .int .i64 0] (w.alloc (.cells #[.int .u8 6, .int .i64 g, .int .i64 0] 75)) := Bq.new _ _ _
  have HF := Lib.hid (F.below hbe)
  have HB := Lib.hid (show Onl p b [] w _ from .of_below hbe)
  have HK := Lib.hid hk
  have HG := Lib.hid hg
  clear F hbe hk hg
  go_enter Tryd.func21, Tryd.ntmps21
  go_upto_region 1 with (fail)
  revert HF HB HK
  generalize w.alloc (.cells #[.int .u8 6, .int .i64 g, .int .i64 0] 75) = w1
  generalize w.heap.size = q
  intro HF HB HK
  have hq3 := Bq.s3 HK.out
  obtain ⟨f0, f1, f2, _, _, _⟩ := hq3
  cases d with
  | true =>
    have hc := HF.out.cas hs (adG g) 1 2 ⟨by decide, by decide⟩
    rw [(adG_at (g_i64 HG.out)).1, (adG_at (g_i64 HG.out)).2.1, (adG_at (g_i64 HG.out)).2.2] at hc
    go_wp2_with fail
    ((with_reducible refine hc.mono ?_); rintro e w2 ⟨rfl, F2, k2⟩)
    have HF2 := Lib.hid F2
    have HK2 := Lib.hid k2
    clear F2 k2 hc
    go_wp2_with fail
    go_end0
    refine ⟨rfl, csM M (adG g) 1 2, ?_, ?_, HF2.out, HB.out.trans (.of_only HK2.out)⟩
    · exact ma_csG HG.out 1 2
    · show M.s.st + 1 ≤ _
      omega
  | false =>
    have hc := HF.out.cas hs (adG g) 2 1 ⟨by decide, by decide⟩
    rw [(adG_at (g_i64 HG.out)).1, (adG_at (g_i64 HG.out)).2.1, (adG_at (g_i64 HG.out)).2.2] at hc
    go_wp2_with fail
    ((with_reducible refine hc.mono ?_); rintro e w2 ⟨rfl, F2, k2⟩)
    have HF2 := Lib.hid F2
    have HK2 := Lib.hid k2
    clear F2 k2 hc
    go_wp2_with fail
    go_end0
    refine ⟨rfl, csM M (adG g) 2 1, ?_, ?_, HF2.out, HB.out.trans (.of_only HK2.out)⟩
    · exact ma_csG HG.out 2 1
    · show M.s.st + 1 ≤ _
      omega
/-- What holds between two acts: threads, and all that the chapter promises of them. -/
def Run (W : World) (p b G H : Nat) (n c : Nat) (mo : Int) (lst : Int → Int) (Q : (Nat → TA) → List Int → MA → Prop) (w : World) : Prop := ∃ th S R T Mp ob, TS W.heap.size p b G H ob c th Mp W w ∧ (ob.size = 8 * n ∧ ∀ j : Nat, j < 8 * n → ob[j]? = some (.int .i64 (lst j))) ∧ InvA (8 * n) mo th S R T lst Mp ∧ T ≤ (c : Int) ∧ (th 5) = ⟨[], .no⟩ ∧ Q th S Mp
section
variable {W w w' : World} {p b G H n c c' k : Nat} {ob : Array Value} {mo : Int} {lst : Int → Int} {Q Q' : (Nat → TA) → List Int → MA → Prop}
theorem TS.below {B : Nat} {th : Nat → TA} {Mp : MA} (h : TS B p b G H ob c th Mp W w) (hBw : B ≤ W.heap.size) (hb : Below w.heap.size w w') : TS B p b G H ob c th Mp W w' := by
  obtain ⟨ly, M, h1, h2, h3, h4⟩ := h
  exact ⟨ly, M, h1, h2, h3.below hb, h4.below hBw hb⟩
theorem Run.low (h : Run W p b G H n c mo lst Q w) : Below W.heap.size W w := by
  obtain ⟨_, _, _, _, _, _, ⟨_, _, _, _, _, h1⟩, _⟩ := h
  exact h1.low
theorem Run.below (h : Run W p b G H n c mo lst Q w) (hb : Below w.heap.size w w') : Run W p b G H n c mo lst Q w' := by
  obtain ⟨th, S, R, T, Mp, ob, h1, h2⟩ := h
  exact ⟨th, S, R, T, Mp, ob, h1.below (Nat.le_refl _) hb, h2⟩
theorem Run.mono (h : Run W p b G H n c mo lst Q w) (hc : c ≤ c') (hq : ∀ th S R T Mp, InvA (8 * n) mo th S R T lst Mp → Q th S Mp → Q' th S Mp) : Run W p b G H n c' mo lst Q' w := by
  obtain ⟨th, S, R, T, Mp, ob, ⟨ly, M, h1, h1', h1''⟩, ho, h2, h3, h4, h5⟩ := h
  exact ⟨th, S, R, T, Mp, ob, ⟨ly, M, h1, by omega, h1''⟩, ho, h2, by omega, h4, hq _ _ _ _ _ h2 h5⟩
theorem beginA_held (t : TA) (b : Bool) : (beginA t b mo).held.length ≤ t.held.length := by
  unfold beginA
  cases t.op with
  | no =>
    simp only
    split
    · simp
    · simp
  | al o => exact Nat.le_refl _
  | fr o => exact Nat.le_refl _
theorem InvA.held_len {N : Nat} {th : Nat → TA} {S R : List Int} {T : Int} {M : MA} (I : InvA N mo th S R T lst M) {k : Nat} (hk : k < 6) : (th k).held.length ≤ N := by
  have hn : ((th k).held.map (·.1)).Nodup := by
    rw [List.nodup_iff_count]
    intro z
    have h1 := I.one z
    have h2 : ((th k).held.map (·.1)).count z ≤ (ownA (th k)).count z := by unfold ownA; rw [List.count_append]; omega
    have h3 : (ownA (th k)).count z ≤ sum6 fun j => (ownA (th j)).count z := by
      rcases (show k = 0 ∨ k = 1 ∨ k = 2 ∨ k = 3 ∨ k = 4 ∨ k = 5 by omega) with rfl | rfl | rfl | rfl | rfl | rfl <;> (simp only [sum6]; omega)
    unfold cntA at h1
    omega
  have := fit_le N ((th k).held.map (·.1)) hn (fun z hz => by
    have := I.owned hk (z := z) (by unfold ownA; exact List.mem_append_left _ hz)
    exact this)
  simpa using this
/-- .. where the row tells what came next before. -/
def RunG (W : World) (p b G H : Nat) (n c : Nat) (mo : Int) (lst lst' : Int → Int) (Q : (Nat → TA) → List Int → MA → Prop) (w : World) : Prop := ∃ th S R T Mp ob, TS W.heap.size p b G H ob c th Mp W w ∧ (ob.size = 8 * n ∧ ∀ j : Nat, j < 8 * n → ob[j]? = some (.int .i64 (lst j))) ∧ InvA (8 * n) mo th S R T lst' Mp ∧ T ≤ (c : Int) ∧ (th 5) = ⟨[], .no⟩ ∧ Q th S Mp
theorem Run.step (h : Run W p b G H n c mo lst Q w) (bb : Bool) (hB : 1 < W.heap.size) (hn : n ≤ 3) (hmo : 0 ≤ mo ∧ mo < 4294967296) (hk : k < 5) (off : Nat) (ho : off = 3 * k) (hc : c < 800000)
    (hq : ∀ th S R T Mp S' R' T', InvA (8 * n) mo th S R T lst Mp → Q th S Mp → InvA (8 * n) mo (stepTA th k bb mo Mp).1 S' R' T' (lstG lst (gotTA th k bb mo Mp)) (stepTA th k bb mo Mp).2 → ((stepTA th k bb mo Mp).1 k).op = .no ∨ remA (stepTA th k bb mo Mp).2 S'.length ((stepTA th k bb mo Mp).1 k).op + 1 ≤ remA Mp S.length (beginA (th k) bb mo).op → (stepTA th k bb mo Mp).2.sst = Mp.sst → Q' (stepTA th k bb mo Mp).1 S' (stepTA th k bb mo Mp).2) :
    Calls Tryd.prog 22 #[.pointer (some ⟨G, off, none⟩), .pointer (some ⟨p, 0, none⟩), .bool bb, .int .u32 mo] w fun e w' => ∃ (s g : Int) (gain : List (Int × Int)), e = .returned (.tuple #[.agg #[.int .i64 s, .int .u32 g, .bool false], .bool (!gain.isEmpty)]) ∧ (∀ z r, gain = z :: r → s = z.1 ∧ g = z.2) ∧ gain.length ≤ 1 ∧ (∀ x ∈ gain, (0 ≤ x.1 ∧ x.1 < (8 * n : Nat)) ∧ lst x.1 ≤ x.2 ∧ 0 ≤ x.2 ∧ x.2 ≤ mo) ∧ RunG W p b G H n (c + 1) mo lst (lstG lst gain) Q' w' := by
  obtain ⟨th, S, R, T, Mp, ob, h1, hob, h2, h3, h4, h5⟩ := h
  have hop := (h2.begin (show k < 6 by omega) bb).1.ops k (by omega)
  rw [updA_same] at hop
  refine (step_any bb mo hB (Nat.le_refl _) hk off ho (by omega) h1 hmo (fun x hx => ?_) ?_ (fun o e1 e2 e3 => ?_)).mono ?_
  · have := h2.owned (show k < 6 by omega) (z := x.1) (by unfold ownA; exact List.mem_append_left _ (List.mem_map.2 ⟨x, hx, rfl⟩))
    omega
  · have h6 := beginA_held (mo := mo) (th k) bb
    have h7 := h2.held_len (show k < 6 by omega)
    omega
  · rw [e1] at hop
    obtain ⟨_, hop⟩ := hop
    rcases hop with ⟨_, _, ho⟩ | ⟨_, hop⟩
    · rcases ho with ho | ⟨_, ho, _⟩ | ⟨ho, _⟩
      · omega
      · exact ho
      · omega
    · exfalso
      rcases hop with ⟨h, _⟩ | ⟨h, _⟩ | ⟨h, _⟩ <;> omega
  · rintro e w' ⟨s, g, rfl, h6, h7⟩
    obtain ⟨S', R', T', i1, i2, i3, i4, i5, i6, i7⟩ := h2.step (by omega) (by omega) hmo.2 (show k < 6 by omega) bb
    refine ⟨s, g, gotTA th k bb mo Mp, rfl, h6, i6, fun x hx => by exact_mod_cast i7 x hx, _, S', R', T', _, ob, h7, hob, i1, by push_cast; omega, ?_, hq _ _ _ _ _ _ _ _ h2 h5 i1 i4 i5⟩
    show updA th k _ 5 = _
    rw [updA_ne _ _ (by omega)]
    exact h4
end
end Go.Proofs.YtlcbinckbkdgdaaDoor
