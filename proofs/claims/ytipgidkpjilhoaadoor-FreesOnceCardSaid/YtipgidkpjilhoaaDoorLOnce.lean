/-
  The law FreesOnce, walked: it returns true and only makes memory of its own; condition: the tables as laid, the list of numbers lies as it says.
-/
import Derived.Test.YtipgidkpjilhoaaDoorH9
import Derived.Test.YtipgidkpjilhoaaDoorFCore
import Derived.StillTailTactics
namespace Go.Proofs.YtipgidkpjilhoaaDoor
open Go.RowKit Go.Maps

/-- What holds between two steps of threads. -/
def Run (W : World) (p b G n c : Nat) (Q : (Nat → Th) → MS → Prop) (w : World) : Prop := ∃ th S T M, TS W.heap.size p b G c th M W w ∧ Inv n th S T M ∧ T ≤ (c : Int) ∧ Q th M
section
variable {W w w' : World} {p b G n c k : Nat} {Q Q' : (Nat → Th) → MS → Prop}
theorem Run.low (h : Run W p b G n c Q w) : Below W.heap.size W w := by
  obtain ⟨_, _, _, _, h1, _⟩ := h
  exact h1.fmOf.choose_spec.2.2.1
theorem Run.below (h : Run W p b G n c Q w) (hB : 1 < W.heap.size) (hb : Below w.heap.size w w') : Run W p b G n c Q w' := by
  obtain ⟨th, S, T, M, h1, h2⟩ := h
  exact ⟨th, S, T, M, h1.below hB (Nat.le_refl _) hb, h2⟩
theorem Run.mono {c' : Nat} (h : Run W p b G n c Q w) (hc : c ≤ c') (hq : ∀ th M, Q th M → Q' th M) : Run W p b G n c' Q' w := by
  obtain ⟨th, S, T, M, h1, h2, h3, h4⟩ := h
  exact ⟨th, S, T, M, h1.mono hc, h2, by omega, hq _ _ h4⟩
theorem Run.step (h : Run W p b G n c Q w) (bb : Bool) (hB : 1 < W.heap.size) (hn : n ≤ 60) (hk : k < 6) (off : Nat) (ho : off = 3 * k) (hc : c < 800000)
    (hq : ∀ th S T M, Inv n th S T M → Q th M → ((stepS th k bb M).1 k).op = .no ∨ remF (stepS th k bb M).2 ((stepS th k bb M).1 k).op + 1 ≤ remF M (beginF (th k) bb).op → Q' (stepS th k bb M).1 (stepS th k bb M).2) :
    Calls Tryd.prog 24 #[.pointer (some ⟨G, off, none⟩), .pointer (some ⟨p, 0, none⟩), .bool bb] w fun e w' => e = .returned (.tuple #[]) ∧ Run W p b G n (c + 1) Q' w' := by
  obtain ⟨th, S, T, M, h1, h2, h3, h4⟩ := h
  have hop := (h2.begin hk bb).ops k hk
  rw [updT_same] at hop
  refine (step_any bb hB (Nat.le_refl _) hk off ho (by omega) h1 (hop.pre hn (begin_op _ _)) (fun x hx => ?_) ?_).mono ?_
  · have := h2.owned hk (z := x) (by unfold ownT; exact List.mem_append_left _ hx)
    omega
  · have h5 := begin_len (th k) bb
    have h6 := h2.held_len hk
    omega
  · rintro e w' ⟨rfl, h5⟩
    obtain ⟨S', T', h6, h7, h8, h9⟩ := h2.step hn (by omega) hk bb
    exact ⟨rfl, _, S', T', _, h5, h6, by omega, hq th S T M h2 h4 h9⟩
theorem Run.apart (h : Run W p b G n c Q w) (hB : 1 < W.heap.size) (hn : n ≤ 60) :
    Calls Tryd.prog 25 #[.slice (some ⟨G, 0, none⟩) 6 6, .int .i64 n] w fun e w' => e = .returned (.bool true) ∧ Run W p b G n c Q w' := by
  have h0 := h
  obtain ⟨th, S, T, M, h1, h2, h3, h4⟩ := h
  refine (apart_any hB (Nat.le_refl _) hn h1 h2.held_all).mono ?_
  rintro e w' ⟨rfl, h5⟩
  exact ⟨rfl, h0.below hB h5⟩
end
theorem run0 {W w1 w2 : World} {p b n : Nat} (h : SM p b (3 * n) (downS n) n w1) (low : Below W.heap.size W w1) (hp : W.heap.size ≤ p) (hb : W.heap.size ≤ b) (hn : n ≤ 60)
    (ho : w2.ownsRow 0 73 3 (.slice (some ⟨w1.heap.size, 0, none⟩) 6 6) 6 (madeCells zT.cells (6 * 3)).toList) (hg : w1.grownBy w2 none) : Run W p b w1.heap.size n 200 (fun _ _ => True) w2 := by
  obtain ⟨st, M, h1, F, S⟩ := h
  have hb1 : Below w1.heap.size w1 w2 := (Below.refl _ _).grown hg (Nat.le_refl _) (fun k hk => by cases hk)
  exact ⟨th0, downS n, n, M, ts0 (F.below hb1) (by omega) (low.trans (hb1.mono low.size)) hp hb low.size ho, inv0 S (down_count n), by omega, trivial⟩
theorem u8_parts {x : Int} (h : U8 x) : ∃ k d e : Nat, k < 6 ∧ d < 43 ∧ e < 2 ∧ Int.tmod x 6 = (k : Int) ∧ Int.tdiv x 6 = (d : Int) ∧ Int.tmod (d : Int) 2 = (e : Int) := by
  obtain ⟨a, b⟩ := h
  refine ⟨(x % 6).toNat, (x / 6).toNat, (x / 6).toNat % 2, by omega, by omega, by omega, ?_, ?_, ?_⟩
  · rw [Int.tmod_eq_emod_of_nonneg a]; omega
  · rw [Int.tdiv_eq_ediv_of_nonneg a]; omega
  · rw [Int.tmod_eq_emod_of_nonneg (by omega)]; omega
theorem u8_wrap {k : Nat} (h : k < 256) : IntKind.u8.wrap (k : Int) = (k : Int) := by simp [IntKind.wrap, IntKind.bits, IntKind.signed]; omega
theorem remF_pos {M : MS} {o : TO} (h : o ≠ .no) : 1 ≤ remF M o := by
  cases o with
  | no => exact absurd rfl h
  | pop o => simp only [remF]; (repeat' split) <;> omega
  | push o => simp only [remF]; (repeat' split) <;> omega
/-- The first i threads have nothing under way. -/
def Q2 (i : Nat) (th : Nat → Th) (_ : MS) : Prop := ∀ j, j < i → (th j).op = .no
/-- .. and the next one is over in 5 steps, k of which are done. -/
def Q3 (i k : Nat) (th : Nat → Th) (M : MS) : Prop := (∀ j, j < i → (th j).op = .no) ∧ ((th i).op = .no ∨ remF M (th i).op + k ≤ 5)
/-- The rest, how often each slot is in it, and what stands. -/
def RestS (N gs n : Nat) (L C : List Int) (v : Value) (w5 wr : World) : Prop := wr.ownsRow N 3 1 v L.length (L.map iV) ∧ v.ownBlock ≠ some gs ∧ wr.ownsRow N 3 1 (.slice (some ⟨gs, 0, none⟩) n n) n (C.map iV) ∧ Below N w5 wr
theorem RestS.more {N gs n : Nat} {L C l : List Int} {v v' : Value} {w5 w w' : World} (h : RestS N gs n L C v w5 w) (hgs : gs < w.heap.size) (h1 : w'.ownsRow N 3 1 v' (L ++ l).length ((L ++ l).map iV)) (h2 : w.grownBy w' v.ownBlock) (h3 : v'.ownBlock = v.ownBlock ∨ v'.ownBlock = some w.heap.size) (hN : N ≤ w.heap.size) : RestS N gs n (L ++ l) C v' w5 w' := by
  obtain ⟨a, b, c, d⟩ := h
  refine ⟨h1, fun e => ?_, own_same c fun g hg => ?_, d.grown h2 hN fun k hk => (a.lt k hk).1⟩
  · rcases h3 with h3 | h3
    · exact b (h3.symm.trans e)
    · rw [h3] at e
      injection e with e
      omega
  · simp only [Value.ownBlock, Option.some.injEq] at hg
    subst hg
    exact h2.block gs hgs (fun e => b e.symm)
theorem RestS.gs_lt {N gs n : Nat} {L C : List Int} {v : Value} {w5 w : World} (h : RestS N gs n L C v w5 w) : gs < w.heap.size := (h.2.2.1.lt gs rfl).2
theorem RestS.count {N gs n i : Nat} {L : List Int} {v : Value} {w5 w : World} (h : RestS N gs n L (cntV n (L.take i)) v w5 w) (hi : i < L.length) {z : Nat} (hz : L.getD i 0 = (z : Int)) (hzn : z < n) :
    RestS N gs n L (cntV n (L.take (i + 1))) v w5 (w.setCell ⟨gs, z, none⟩ (.int .i64 ((((L.take i).count (z : Int) : Nat) : Int) + 1))) := by
  obtain ⟨a, b, c, d⟩ := h
  obtain ⟨ho2, hg2⟩ := c.stored z (.int .i64 ((((L.take i).count (z : Int) : Nat) : Int) + 1))
  rw [cntV_set _ hzn, show L.take i ++ [(z : Int)] = L.take (i + 1) by rw [take_cnt hi, hz]] at ho2
  refine ⟨own_same a fun g hg => hg2.block g (a.lt g hg).2 fun e => ?_, b, ho2, d.grown hg2 (Nat.le_trans (c.lt gs rfl).1 (Nat.le_of_lt (c.lt gs rfl).2)) fun k hk => by cases hk; exact (c.lt gs rfl).1⟩
  injection e with e
  exact b (by rw [hg, e])
theorem q3_step {i k : Nat} {th : Nat → Th} {M : MS} (h : Q3 i k th M ∧ (th i).op ≠ .no) (h2 : ((stepS th i false M).1 i).op = .no ∨ remF (stepS th i false M).2 ((stepS th i false M).1 i).op + 1 ≤ remF M (beginF (th i) false).op) : Q3 i (k + 1) (stepS th i false M).1 (stepS th i false M).2 := by
  obtain ⟨⟨h3, h4⟩, h5⟩ := h
  refine ⟨fun j hj => (congrArg Th.op (step_other th false M (by omega))).trans (h3 j hj), h2.imp id fun h2 => ?_⟩
  rw [begin_id h5] at h2
  rcases h4 with h6 | h6
  · exact absurd h6 h5
  · omega
set_option maxRecDepth 100000 in
set_option maxHeartbeats 16000000 in
theorem once_any (z : Int) (A : Option Addr) (cap : Nat) (l : List Int) (W : World) (hL : Lay W) (hM : LayM W) (hz : U8 z) (hs : Row W A (l.map fun z => .int .u8 z)) (hu : ∀ z ∈ l, U8 z) :
    Calls Tryd.prog 5 #[.int .u8 z, .slice A l.length cap] W fun e W' => e = .returned (.bool true) ∧ Below W.heap.size W W' := by
  obtain ⟨n, hn60, hnz⟩ : ∃ n : Nat, n ≤ 60 ∧ Int.tmod z 61 = (n : Int) := by
    obtain ⟨a, b⟩ := hz
    refine ⟨(z % 61).toNat, by omega, ?_⟩
    rw [Int.tmod_eq_emod_of_nonneg a]
    omega
  have hzw : IntKind.i64.wrap z = z := by simp [IntKind.wrap, IntKind.bits]; obtain ⟨a, b⟩ := hz; omega
  have hnw : IntKind.i64.wrap (n : Int) = (n : Int) := by simp [IntKind.wrap, IntKind.bits]; omega
  obtain ⟨i1, hi1, hy0, hy1, hy2⟩ := info_parts Tryd_infoT
  obtain ⟨i0, hi, hz0, hz1, hz2⟩ := info_parts Tryd_infoI
  have HL := Lib.hid hL
  have HM := Lib.hid hM
  have HU := Lib.hid hu
  have HS := Lib.hid hs
  have h1W := hM.1
  clear hL hM hu hs hz
  go_enter Tryd.func5, Tryd.ntmps5
  go_wp2_with fail
  ((with_reducible refine (filled_any n hn60 W HL.out HM.out).mono ?_); rintro e w1 ⟨p, b, rfl, s1, low1, hp, hb⟩)
  clear hnz hzw hnw
  have HS1 := Lib.hid s1
  have HLOW1 := Lib.hid low1
  clear s1 low1
  by_cases hlen : 600 < l.length
  · have hlen' : (600 : Int) < (l.length : Int) := by omega
    have HLY := Lib.hid HS1.out.lay
    have HLM := Lib.hid HS1.out.laym
    go_wp2_with fail
    ((with_reducible refine (lives_any w1 HLY.out HLM.out).mono ?_); rintro e w4 ⟨rfl, hb⟩)
    go_wp2_with fail
    go_ret
    exact ⟨rfl, HLOW1.out.trans (hb.mono HLOW1.out.size)⟩
  have hlen' : (l.length : Int) ≤ 600 := by omega
  go_wp2_with (at_make; go_loud (refine wpList_make_full _ rfl _ _ 70 rfl 0 73 i1 _ 3 Tryd.underlying70 hi1 hy0 hy1 .i64 .i64 _ _ 6 rfl rfl rfl rfl (by rw [hy2]; decide) (by decide) (Nat.zero_le _) ?_; intro w2 ho1 hg1; have HR := Lib.hid (run0 HS1.out HLOW1.out hp hb hn60 ho1 hg1); clear ho1 hg1))
  clear HS1 HLOW1
  revert HR
  generalize w1.heap.size = G
  intro HR
  go_loopw [9] (fun j wr => ∃ i : Nat, i ≤ l.length ∧ j = .int .i64 (i : Int) ∧ Hid (Run W p b G n (200 + i) (fun _ _ => True) wr)) (fun j _ => l.length - (intOf j).toNat)
  case atStart => exact ⟨0, Nat.zero_le _, rfl, HR⟩
  case round =>
    clear HR
    obtain ⟨i, hi, rfl, HR⟩ := hrel
    have hge : (0 : Int) ≤ (i : Int) := by omega
    by_cases hlt : i < l.length
    · obtain ⟨g, off, rfl, hc⟩ := (HS.out.below HR.out.low).at_ (k := i) (by rw [List.length_map]; exact hlt)
      have hy : wr.cell? ⟨g, off + i, none⟩ = some (.int .u8 (l.getD i 0)) := hc i _ (by simp [List.getD_eq_getElem?_getD, List.getElem?_eq_getElem hlt])
      have hx := HU.out (l.getD i 0) (by rw [List.getD_eq_getElem?_getD, List.getElem?_eq_getElem hlt]; simp)
      clear hc
      generalize l.getD i 0 = x at hy hx
      obtain ⟨k, d, e, hk, hd, he, e1, e2, e3⟩ := u8_parts hx
      have f1 := u8_wrap (show k < 256 by omega)
      have f2 := u8_wrap (show d < 256 by omega)
      have f3 := u8_wrap (show e < 256 by omega)
      have hk0 : (0 : Int) ≤ (k : Int) := by omega
      have hk6 : (k : Int) < 6 := by omega
      have hlt' : (i : Int) < (l.length : Int) := by omega
      have HB := Lib.hid (HR.out.below h1W (Below.refl wr.heap.size wr).drew)
      clear hx HR
      go_wp2_with fail
      refine wp_region_still_tail 15 (by kernel_rfl) (by kernel_rfl) ?_
      change wpStill _ _ wr.drew (fun a' => wpList _ _ _ _ a' wr.drew) _ _
      have y' : wr.drew.cell? ⟨g, off + i, none⟩ = some (.int .u8 x) := hy
      clear hy
      simp only [List.take_succ_cons, List.take_zero, List.drop_succ_cons, List.drop_zero]
      iterate 15 still_step
      refine wpStill_nil ?_
      go_wp2_with fail
      ((with_reducible refine (HB.out.step (Q' := fun _ _ => True) _ h1W hn60 hk (k * 3) (Nat.mul_comm _ _) (by omega) (fun _ _ _ _ _ _ _ => trivial)).mono ?_); rintro e' w3 ⟨rfl, r3⟩)
      have HR3 := Lib.hid r3
      clear r3 HB y'
      go_wp2_with fail
      ((with_reducible refine (HR3.out.apart h1W hn60).mono ?_); rintro e' w4 ⟨rfl, r4⟩)
      have HR4 := Lib.hid r4
      clear r4 HR3
      go_wp2_with fail
      go_roundw
      case rel => exact ⟨i + 1, by omega, by go_num, HR4⟩
      case measure => simp [intOf]; omega
    · have hil : i = l.length := by omega
      have hge2 : (l.length : Int) ≤ (i : Int) := by omega
      have HR2 := Lib.hid (HR.out.mono (c' := 800 + 5 * 0) (Q' := Q2 0) (by omega) (fun th M _ => fun j hj => by omega))
      clear HR
      rename World => wA
      go_wp2_with fail
      go_loopw [10] (fun j wr => ∃ i : Nat, i ≤ 6 ∧ j = .int .i64 (i : Int) ∧ Hid (Run W p b G n (800 + 5 * i) (Q2 i) wr)) (fun j _ => 6 - (intOf j).toNat)
      case atStart => exact ⟨0, Nat.zero_le _, rfl, HR2⟩
      case round =>
        clear HR2 hge hge2 hlt hil hi
        obtain ⟨i, hi6, rfl, HR⟩ := hrel
        rename World => wA
        by_cases hlt : i < 6
        · have hlt' : (i : Int) < 6 := by omega
          have hge : (0 : Int) ≤ (i : Int) := by omega
          have HR3 := Lib.hid (HR.out.mono (c' := 800 + 5 * i + 0) (Q' := Q3 i 0) (by omega) (fun th M h => ⟨h, .inr (by have := remF_le M (th i).op; omega)⟩))
          clear HR
          go_wp2_with fail
          go_loopw [11] (fun j wr => ∃ k : Nat, k ≤ 5 ∧ j = .int .i64 (k : Int) ∧ Hid (Run W p b G n (800 + 5 * i + k) (Q3 i k) wr)) (fun j _ => 5 - (intOf j).toNat)
          case atStart => exact ⟨0, Nat.zero_le _, rfl, HR3⟩
          case round =>
            clear HR3
            obtain ⟨k, hk5, rfl, HR⟩ := hrel
            rename World => wA
            have hkg : (0 : Int) ≤ (k : Int) := by omega
            obtain ⟨th, S, T, M, t1, t2, t3, q1, q2⟩ := HR.out
            obtain ⟨q, c1, c2⟩ := t1.op hlt
            cases hop : (th i).op with
            | no =>
              rw [hop] at c1 c2
              simp only [popP, pushP] at c1 c2
              have HN := Lib.hid (show Run W p b G n (800 + 5 * (i + 1)) (Q2 (i + 1)) wA from ⟨th, S, T, M, t1.mono (by omega), t2, by omega, fun j hj => by
                by_cases hji : j = i
                · rw [hji]; exact hop
                · exact q1 j (by omega)⟩)
              clear HR t1 t2 t3 q1 q2 hop
              by_cases hk : k < 5
              · have hk' : (k : Int) < 5 := by omega
                go_wp2_with fail
                go_roundw
                case rel => exact ⟨i + 1, by omega, by go_num, HN⟩
                case measure => simp [intOf]; omega
              · have hk' : (5 : Int) ≤ (k : Int) := by omega
                go_wp2_with fail
                go_roundw
                case rel => exact ⟨i + 1, by omega, by go_num, HN⟩
                case measure => simp [intOf]; omega
            | pop o =>
              rw [hop] at c1 c2
              simp only [popP, pushP] at c1 c2
              have hne : (th i).op ≠ .no := by rw [hop]; exact TO.noConfusion
              have hkr : k < 5 := by
                rcases q2 with h | h
                · exact absurd h hne
                · have := remF_pos (M := M) hne; omega
              have HN := Lib.hid (show Run W p b G n (800 + 5 * i + k) (fun th M => Q3 i k th M ∧ (th i).op ≠ .no) wA from ⟨th, S, T, M, t1, t2, t3, ⟨q1, q2⟩, hne⟩)
              clear HR t1 t2 t3 q1 q2 hop hne
              have hk' : (k : Int) < 5 := by omega
              go_wp2_with fail
              ((with_reducible refine (HN.out.step (Q' := Q3 i (k + 1)) false h1W hn60 hlt (i * 3) (Nat.mul_comm _ _) (by omega) (fun _ _ _ _ _ h h2 => q3_step h h2)).mono ?_); rintro e' w3 ⟨rfl, r3⟩)
              have HR3 := Lib.hid r3
              clear r3 HN c1 c2
              go_wp2_with fail
              go_roundw
              case rel => exact ⟨k + 1, by omega, by go_num, HR3⟩
              case measure => simp [intOf]; omega
            | push o =>
              rw [hop] at c1 c2
              simp only [popP, pushP] at c1 c2
              have hne : (th i).op ≠ .no := by rw [hop]; exact TO.noConfusion
              have hkr : k < 5 := by
                rcases q2 with h | h
                · exact absurd h hne
                · have := remF_pos (M := M) hne; omega
              have HN := Lib.hid (show Run W p b G n (800 + 5 * i + k) (fun th M => Q3 i k th M ∧ (th i).op ≠ .no) wA from ⟨th, S, T, M, t1, t2, t3, ⟨q1, q2⟩, hne⟩)
              clear HR t1 t2 t3 q1 q2 hop hne
              have hk' : (k : Int) < 5 := by omega
              go_wp2_with fail
              ((with_reducible refine (HN.out.step (Q' := Q3 i (k + 1)) false h1W hn60 hlt (i * 3) (Nat.mul_comm _ _) (by omega) (fun _ _ _ _ _ h h2 => q3_step h h2)).mono ?_); rintro e' w3 ⟨rfl, r3⟩)
              have HR3 := Lib.hid r3
              clear r3 HN c1 c2
              go_wp2_with fail
              go_roundw
              case rel => exact ⟨k + 1, by omega, by go_num, HR3⟩
              case measure => simp [intOf]; omega
        · have hi66 : i = 6 := by omega
          clear hlt hi6
          obtain ⟨th, S, T, M, t1, t2, t3, q⟩ := HR.out
          have HWH := Lib.hid (t2.whole fun k hk => q k (by omega))
          obtain ⟨st, h4, F, low, hpB, hbB⟩ := t1.fmOf
          have hSl := t2.S_len
          have hcall := listed_any p b 830 S T wA ⟨st, M, by omega, F, t2.stk⟩ (by omega) (by omega)
          have hge : (6 : Int) ≤ (i : Int) := by omega
          have HT := Lib.hid t1
          have HLOW := Lib.hid low
          clear t1 t2 t3 q h4 F low HR st hi66
          go_wp2_with fail
          ((with_reducible refine hcall.mono ?_); rintro e' w4 ⟨v, rfl, o4, s4, k4⟩)
          have HR6 := Lib.hid (HT.out.rows6 k4)
          have HLY := Lib.hid s4.lay
          have HLM := Lib.hid s4.laym
          have HLOW4 := Lib.hid (HLOW.out.trans (k4.below hpB hbB HLOW.out.size))
          have hN4 := k4.size
          have hWN := HLOW.out.size
          have HO4 := Lib.hid o4
          clear hcall s4 k4 o4 HT HLOW hge
          generalize wA.heap.size = N at HO4 HR6 hN4 hWN
          go_wp2_with (at_make; go_loud (refine wpList_make_full _ rfl _ _ 71 rfl N 3 i0 _ 1 Tryd.underlying71 hi hz0 hz1 .i64 .i64 _ _ n rfl rfl (by omega) (by omega) (by rw [hz2]; omega) (by unfold maxLen; omega) hN4 ?_; intro w5 ho5 hg5; rw [cntV_nil] at ho5; have HO5 := Lib.hid ho5; have HB5 := Lib.hid ((Below.refl w4.heap.size w4).grown hg5 (Nat.le_refl _) (fun k hk => by cases hk)); clear ho5 hg5))
          have HRS := Lib.hid (show RestS N w4.heap.size n (S ++ helds th 0) (cntV n []) v w5 w5 from ⟨by rw [show helds th 0 = [] from rfl, List.append_nil]; exact own_low HO4.out HB5.out, fun e => by have := (HO4.out.lt _ e).2; omega, HO5.out, Below.refl _ _⟩)
          have HR65 := Lib.hid (HR6.out.keep (HB5.out.mono hN4))
          have HLY5 := Lib.hid (HLY.out.below HB5.out)
          have HLM5 := Lib.hid (HLM.out.below HB5.out)
          have HLOW5 := Lib.hid (HLOW4.out.trans (HB5.out.mono HLOW4.out.size))
          have hN5 : N ≤ w5.heap.size := Nat.le_trans hN4 HB5.out.size
          clear HO4 HO5 HR6 HLY HLM HLOW4 HB5
          generalize w4.heap.size = gs at *
          go_loopw [12, 14] (fun v j wr => ∃ i : Nat, i ≤ 6 ∧ j = .int .i64 (i : Int) ∧ Hid (RestS N gs n (S ++ helds th i) (cntV n []) v w5 wr)) (fun _ j _ => 6 - (intOf j).toNat)
          case atStart => exact ⟨0, Nat.zero_le _, rfl, HRS⟩
          case round =>
            clear HRS
            obtain ⟨i, hi6, rfl, HRS⟩ := hrel
            rename World => w6
            have hge : (0 : Int) ≤ (i : Int) := by omega
            have HPL := Lib.hid (part_len HWH.out hi6)
            by_cases hlt : i < 6
            · have hlt' : (i : Int) < 6 := by omega
              have HPL2 := Lib.hid (part_len HWH.out (show i + 1 ≤ 6 by omega))
              obtain ⟨A', c', d0, hrow, _, _⟩ := (HR65.out.keep HRS.out.2.2.2) i hlt
              have HROW := Lib.hid hrow
              have HHS := Lib.hid (show S ++ helds th (i + 1) = (S ++ helds th i) ++ (th i).held by rw [helds_succ, List.append_assoc])
              have hsum : (S ++ helds th i).length + (th i).held.length ≤ 100000 := by
                have h := HPL2.out
                rw [HHS.out, List.length_append] at h
                omega
              have hN6 : N ≤ w6.heap.size := Nat.le_trans hN5 (by have := HRS.out.2.2.2.size; omega)
              clear hrow
              go_wp2_with (at_builtin; go_loud (refine append_ints rfl (.tmp 121) (.tmp 126) rfl N _ (S ++ helds th i) rfl HRS.out.1 A' c' (th i).held rfl HROW.out hsum hN6 ?_; intro v' w7 x1 x2 x3; have HRS7 := Lib.hid (HRS.out.more HRS.out.gs_lt x1 x2 x3 hN6); clear x1 x2 x3))
              rw [← HHS.out] at HRS7
              go_roundw
              case rel => exact ⟨i + 1, by omega, by go_num, HRS7⟩
              case measure => simp [intOf]; omega
            · have hi66 : i = 6 := by omega
              have hge6 : (6 : Int) ≤ (i : Int) := by omega
              have hrs := HRS.out
              rw [hi66] at hrs
              have hpl := HPL.out
              rw [hi66] at hpl
              obtain ⟨L, hL⟩ : ∃ L, L = S ++ helds th 6 := ⟨_, rfl⟩
              rw [← hL] at hrs hpl
              have HW2 := HWH.out
              rw [← hL] at HW2
              have HWL := Lib.hid HW2
              have hL0 : cntV n [] = cntV n (L.take 0) := by rw [List.take_zero]
              rw [hL0] at hrs
              have HRL := Lib.hid hrs
              clear HRS HPL hrs hL HW2 hL0 hi66 hlt hi6 HWH HR65
              obtain ⟨A', c', rfl, hnc, hcm, _⟩ := own_slice HRL.out.1
              go_wp2_with fail
              go_loopw [15] (fun j wr => ∃ i : Nat, i ≤ L.length ∧ j = .int .i64 (i : Int) ∧ Hid (RestS N gs n L (cntV n (L.take i)) (.slice A' L.length c') w5 wr)) (fun j _ => L.length - (intOf j).toNat)
              case atStart => exact ⟨0, Nat.zero_le _, rfl, HRL⟩
              case round =>
                clear HRL hge hge6
                obtain ⟨i, hiL, rfl, HRL⟩ := hrel
                rename World => w8
                have hge : (0 : Int) ≤ (i : Int) := by omega
                by_cases hlt : i < L.length
                · have hlt' : (i : Int) < (L.length : Int) := by omega
                  obtain ⟨z', hz', hzn, hzc⟩ := whole_at HWL.out hlt
                  obtain ⟨g, rfl, _, _⟩ := own_form2 HRL.out.1 (by omega)
                  have y0 : w8.cell? ⟨g, i, none⟩ = some (.int .i64 (L.getD i 0)) := (own_cell2 HRL.out.1 hlt).trans (ints_at 0 hlt)
                  have y1 := (HRL.out.2.2.1.cellAt z' (by omega)).trans (cntV_at (L.take i) hzn)
                  have y2 := HRL.out.2.2.1.frozenAt z'
                  have hct : (L.take i).count (z' : Int) ≤ 1 := Nat.le_trans (cnt_take_le _ _ _) hzc
                  have HNX := Lib.hid (HRL.out.count hlt hz' hzn)
                  rw [hz'] at y0
                  generalize (L.take i).count (z' : Int) = ct at y1 hct HNX
                  have hcw : IntKind.i64.wrap ((ct : Int) + 1) = (ct : Int) + 1 := by simp [IntKind.wrap, IntKind.bits, IntKind.signed]; omega
                  have hz0' : (0 : Int) ≤ (z' : Int) := by omega
                  have hzI : (z' : Int) < (n : Int) := by omega
                  clear hz' HRL hct hzc
                  go_wp2_with fail
                  go_roundw
                  case rel => exact ⟨i + 1, by omega, by go_num, HNX⟩
                  case measure => simp [intOf]; omega
                · have hge2 : (L.length : Int) ≤ (i : Int) := by omega
                  have hrs := HRL.out
                  rw [List.take_of_length_le (by omega)] at hrs
                  have HRF := Lib.hid hrs
                  clear HRL hrs hlt
                  go_wp2_with fail
                  go_loopw [16] (fun j wr => ∃ i : Nat, i ≤ n ∧ j = .int .i64 (i : Int) ∧ wr = w8) (fun j _ => n - (intOf j).toNat)
                  case atStart => exact ⟨0, Nat.zero_le _, rfl, rfl⟩
                  case round =>
                    clear hge hge2
                    obtain ⟨i, hin, rfl, rfl⟩ := hrel
                    rename World => w8
                    have hge : (0 : Int) ≤ (i : Int) := by omega
                    by_cases hlt : i < n
                    · have hlt' : (i : Int) < (n : Int) := by omega
                      have y1 := (HRF.out.2.2.1.cellAt i (by omega)).trans (cntV_at L hlt)
                      have hc1 := HWL.out (i : Int)
                      rw [if_pos ⟨hge, hlt'⟩] at hc1
                      rw [hc1] at y1
                      rw [show ((1 : Nat) : Int) = 1 from rfl] at y1
                      clear hc1
                      go_wp2_with fail
                      go_roundw
                      case rel => exact ⟨i + 1, by omega, by go_num, trivial⟩
                      case measure => simp [intOf]; omega
                    · have hge2 : (n : Int) ≤ (i : Int) := by omega
                      have HB8 := Lib.hid HRF.out.2.2.2
                      have HLY8 := Lib.hid (HLY5.out.same3 HB8.out.size (HB8.out.block 0 (by omega)))
                      have HLM8 := Lib.hid (HLM5.out.same HB8.out.size (HB8.out.block 1 (by omega)))
                      have HLOW8 := Lib.hid (HLOW5.out.trans (HB8.out.mono hWN))
                      clear HRF
                      go_wp2_with fail
                      ((with_reducible refine (lives_any w8 HLY8.out HLM8.out).mono ?_); rintro e' w9 ⟨rfl, hb9⟩)
                      go_wp2_with fail
                      go_ret
                      exact ⟨rfl, HLOW8.out.trans (hb9.mono HLOW8.out.size)⟩
end Go.Proofs.YtipgidkpjilhoaaDoor
