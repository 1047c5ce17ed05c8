/-
  The program's Pick of layer 4: those that may go, collected, and one of them; condition: the bools lie as it says.
-/
import Derived.Test.YtmominipgkchjaaG1
namespace Go.Proofs.Ytmominipgkchjaa
open Go.RowKit Go.Shelf

/-- What AppendSeq and Collect hand back. -/
def SeqPost (l : List Bool) (w : World) (e : Ending) (W' : World) : Prop :=
  ∃ (v : Value), e = .returned v ∧ W'.ownsRow w.heap.size 3 1 v (goers l).length ((goers l).map nV) ∧ Below w.heap.size w W'
set_option maxRecDepth 100000 in
set_option maxHeartbeats 2000000 in
theorem appendSeq_in (n bx cap : Nat) (A : Option Addr) (l : List Bool) (hn : 3 ≤ n) (w : World) (hbox : w.cell? ⟨bx, 0, none⟩ = some (.slice A l.length cap)) (hrow : Row w A (l.map bV)) (hl : l.length ≤ 1000000) :
    CallsIn Fence.wide n Try.prog 21 #[.slice none 0 0, .func (.func 22) #[] #[.pointer (some ⟨bx, 0, none⟩)]] w (SeqPost l w) := by
  have h1 : 1 ≤ n := by omega
  have hgl := goers_length l
  obtain ⟨i0, hi, hz0, hz1, hz2⟩ := info_parts Try_infoI
  refine callsIn_of_wp_marks Try.func21 rfl trivial ?_ rfl
  simp only [Try.ntmps21, List.size_toArray, List.length_cons, List.length_nil, Nat.reduceAdd, Nat.reduceSub, Array.replicate_succ, Array.replicate_zero, List.push_toArray, List.append_toArray, List.nil_append, List.cons_append]
  gi_wp2
  have bO := Boxed.new w 27 (.slice none 0 0)
  have hB0 : Below w.heap.size w (w.alloc (.cells #[.slice none 0 0] 27)) := (Below.refl _ w).alloc (Nat.le_refl _) _
  have hszw : (w.alloc (.cells #[.slice none 0 0] 27)).heap.size = w.heap.size + 1 := by simp
  have hst := those_stops (n - 1) w.heap.size bx cap A l (by omega) (w.alloc (.cells #[.slice none 0 0] 27)) ((hB0.cell (p := ⟨bx, 0, none⟩) (World.block_lt_of_cell? w _ hbox)).trans hbox) (hrow.below hB0) hrow.lt hl
  obtain ⟨W0, hW0⟩ : ∃ W0, w.alloc (.cells #[.slice none 0 0] 27) = W0 := ⟨_, rfl⟩
  rw [hW0] at bO hB0 hszw hst ⊢
  clear hW0
  refine wpIn_rangeFunc_ownG rfl h1 (gf := 22) (lb := #[.pointer (some ⟨bx, 0, none⟩)]) rfl trivial (enters_of Try.func22 (by kernel_rfl) rfl)
    hst belowK_t (belowK_b (by omega)) (Below.refl _ _) (fun _ => rfl)
    (fun pre W => (∃ v, Boxed W w.heap.size 27 v ∧ W.ownsRow w.heap.size 3 1 v pre.length (pre.map nV) ∧ True) ∧ Below w.heap.size w W)
    (fun _ _ _ => False)
    (OwnFrom.and (Own.from (holdsRow_own w.heap.size w.heap.size 27 3 1 (fun pre : List Nat => pre.length) (fun pre => pre.map nV) (fun _ _ => True)) _) (ownFrom_below (Nat.le_refl _) (by omega)))
    (fun _ _ _ _ _ hs _ _ => hs)
    ⟨⟨_, bO, World.ownsRow_nil _ _ _ _, trivial⟩, hB0⟩
    (fun x => { tmps := #[.slice none 0 0, .func (.func 22) #[] #[.pointer (some ⟨bx, 0, none⟩)], .pointer (some ⟨w.heap.size, 0, none⟩), undef, .slice none 0 0, nV x, .func (.func 22) #[] #[.pointer (some ⟨bx, 0, none⟩)], nV x, undef, undef, undef, undef, undef], defers := [] })
    ?assign ?body ?done ?stop
  case assign =>
    rintro y x W K hK
    simp only [nV] at hK ⊢
    gi_wp2_with (rw [Oper.semAt_eq _ _ _ (fun c h => by cases h)]; go_simp; try go_bits)
    exact hK
  case body =>
    rintro y pre x W ⟨⟨v, hv, hrow, _⟩, hB1⟩ hlt
    have hc := hv.cell
    simp only [nV]
    gi_wp2_with (first | (gi_at_builtin; refine wpListIn_append_own _ rfl _ _ 27 rfl w.heap.size 3 i0 (.int .i64 0) 1 8 Try.underlying27 hi hz0 hz1 hz2 rfl (by decide) _ _ _ rfl (hrow.alloc _) ⟨W.heap.size, 0, none⟩ 1 1 [nV x] rfl rfl (cells_new W 3 [nV x]) (fun u hu => by rw [List.mem_singleton.1 hu]; rfl) (by unfold maxLen; omega) (by omega) (by have := hB1.size; simp; omega) ?_; intro v' w1 hown' hgrow _; obtain ⟨g', cap', rfl⟩ := ownsRow_succ hown'; obtain ⟨hv1, hv2, hr2, hk2, hb2⟩ := hv.appended (by decide) hrow hB1.size (Nat.le_refl _) hown' hgrow; have hc1 := hv1.cell; have hf1 := hv1.frozen) | (rw [Oper.semAt_eq _ _ _ (fun c h => by cases h)]; go_simp; try go_bits))
    exact ⟨hk2.from _, hb2, ⟨_, hv2, by rw [List.map_append, List.length_append]; exact hr2, trivial⟩, hB1.trans hb2⟩
  case done =>
    rintro D ys W hD hS ⟨⟨v, hv, hrow, _⟩, hB⟩ hK
    have hc := hv.cell
    gi_wp2
    refine ⟨by simp, .inl ⟨_, _, rfl, run_takeDeferred hK, ?_⟩⟩
    have hr := ownsRow_putObj hrow (.deferred none) hK rfl
    rw [hS] at hr
    exact ⟨_, results_tmp rfl _ _ _, v, rfl, hr, hB.trans (belowK_b (w := w) (Nat.le_refl _) W D _ _ (by omega) hK rfl rfl)⟩
  case stop =>
    rintro D c pre W _ _ h _
    exact h.elim
theorem collect_any (bx cap : Nat) (A : Option Addr) (l : List Bool) (w : World) (hbox : w.cell? ⟨bx, 0, none⟩ = some (.slice A l.length cap)) (hrow : Row w A (l.map bV)) (hl : l.length ≤ 1000000) :
    Calls Try.prog 18 #[.func (.func 22) #[] #[.pointer (some ⟨bx, 0, none⟩)]] w (SeqPost l w) := by
  have HC := Lib.hid (callsIn_wide.1 (appendSeq_in 3 bx cap A l (Nat.le_refl _) w hbox hrow hl))
  clear hbox hrow
  go_enter Try.func18, Try.ntmps18
  go_wp2_with fail
  refine HC.out.mono ?_
  rintro e w1 ⟨v, rfl, ho, hb⟩
  go_wp2_with fail
  go_ret
  exact ⟨v, rfl, ho, hb⟩
set_option maxHeartbeats 1000000 in
theorem ppick_any (n : Int) (A : Option Addr) (cap : Nat) (l : List Bool) (w : World) (hs : Row w A (l.map bV)) (hl : l.length ≤ 1000) :
    Calls Try.prog 9 #[.int .i64 n, .slice A l.length cap] w fun e w' => e = .returned (.int .i64 (pickC n l)) ∧ Below w.heap.size w w' := by
  have hgl := goers_length l
  obtain ⟨G, hG⟩ : ∃ G, (goers l).length = G := ⟨_, rfl⟩
  have HC := Lib.hid (collect_any w.heap.size cap A l (w.alloc (.cells #[.slice A l.length cap] 22)) (Boxed.new w 22 _).cell (hs.below ((Below.refl _ w).alloc (Nat.le_refl _) _)) (by omega))
  have HT := Lib.hid (those_any A l.length cap w)
  have HA := Lib.hid ((Below.refl w.heap.size w).alloc (Nat.le_refl _) (.cells #[.slice A l.length cap] 22))
  rw [hG] at hgl
  clear hs
  go_enter Try.func9, Try.ntmps9
  go_wp2_with (go_at_call 19; refine HT.out.mono ?_; rintro e w1 ⟨rfl, rfl⟩)
  refine HC.out.mono ?_
  rintro e w2 ⟨v, rfl, ho, hb⟩
  obtain ⟨B, c, rfl, _, _, _⟩ := own_slice ho
  have HR := Lib.hid (row_of_own ho)
  have HB := Lib.hid (HA.out.trans (hb.mono HA.out.size))
  have HG := Lib.hid hG
  rw [hG]
  clear hG HC HT HA ho hb
  by_cases hz : G = 0
  · subst hz
    have HP := Lib.hid (pick_none (n := n) HG.out)
    go_wp2_with fail
    go_ret
    exact ⟨ret_int HP.out.symm, HB.out⟩
  · have hG1 : 0 < G := by omega
    have hG0 : (0 : Int) < (G : Int) := by omega
    have hgz : ((G : Int) == 0) = false := beq_eq_false_iff_ne.2 (by omega)
    have HP := Lib.hid (pick_some (n := n) (by rw [HG.out]; exact hG1))
    obtain ⟨g, off, rfl, hc⟩ := HR.out.at_ (k := 0) (by rw [List.length_map, HG.out]; exact hG1)
    have hm := Nat.mod_lt n.toNat hG1
    have y := hc _ _ (go_at (l := l) (k := n.toNat % G) (by rw [HG.out]; exact hm))
    have HRES := Lib.hid (show (goAt l (n.toNat % G) : Int) = pickC n l by rw [HP.out, HG.out])
    clear hc HP HR
    by_cases hn : n < 0
    · have e0 : n.toNat % G = 0 := by rw [show n.toNat = 0 by omega, Nat.zero_mod]
      rw [e0] at y HRES
      rw [Nat.add_zero] at y
      clear e0 hm
      generalize (goAt l 0 : Int) = r at *
      go_wp2_with fail
      go_ret
      exact ⟨ret_int HRES.out, HB.out⟩
    · obtain ⟨N, rfl⟩ : ∃ N : Nat, n = (N : Int) := ⟨n.toNat, by omega⟩
      have e0 : ((N : Int)).toNat = N := rfl
      rw [e0] at y HRES hm
      have e1 : ((N : Int)).tmod (G : Int) = ((N % G : Nat) : Int) := by
        rw [Int.tmod_eq_emod_of_nonneg (by omega)]
        rfl
      obtain ⟨m, hm2⟩ : ∃ m, N % G = m := ⟨_, rfl⟩
      rw [hm2] at y HRES hm e1
      have hm' : (m : Int) < (G : Int) := by omega
      have hm0 : (0 : Int) ≤ (m : Int) := by omega
      have e2 : ((N : Int)) % (G : Int) = (m : Int) := by
        rw [← hm2]
        rfl
      generalize (goAt l m : Int) = r at *
      have hN0 : (0 : Int) ≤ (N : Int) := by omega
      clear e0 hm2
      go_wp2_with fail
      go_ret
      exact ⟨ret_int HRES.out, HB.out⟩
end Go.Proofs.Ytmominipgkchjaa
