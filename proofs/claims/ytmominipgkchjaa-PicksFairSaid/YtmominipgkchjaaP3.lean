/-
  The program's Turn of layer 4: the next one of those that may go; condition: the bools lie as it says.
-/
import Derived.Test.YtmominipgkchjaaP2
import Derived.Scope
import Derived.WalkMore
namespace Go.Proofs.Ytmominipgkchjaa
open Go.RowKit Go.Shelf

/-- The first of those that have come, or -1. -/
def headC : List Nat → Int
  | [] => -1
  | x :: _ => (x : Int)
theorem turn_found {last : Int} {l : List Bool} {p r : List Nat} {x : Nat} (h : (p ++ [x]) ++ r = goers l) (hp : ∀ y ∈ p, (y : Int) ≤ last) (hx : (x : Int) > last) : turnC last l = (x : Int) := by
  have hat : ∀ i y, (p ++ [x])[i]? = some y → i < (goers l).length ∧ goAt l i = y := fun i y hy => by
    have hi := (List.getElem?_eq_some_iff.1 hy).1
    have h1 : (goers l)[i]? = some y := by rw [← h, List.getElem?_append_left hi]; exact hy
    have h2 := (List.getElem?_eq_some_iff.1 h1).1
    refine ⟨h2, ?_⟩
    have h3 := goAt_some h2
    rw [h1] at h3
    exact (Option.some.inj h3).symm
  obtain ⟨hlt, hgx⟩ := hat p.length x (by simp)
  have hm := (goAt_mem hlt).1
  rw [hgx] at hm
  have hf : turnAt last l = p.length := by
    refine turnAt_first hlt ?_ fun j hj => ?_
    · unfold isBehind
      rw [hgx, decide_eq_true_eq]
      exact .inl hx
    · unfold isBehind
      obtain ⟨_, hgj⟩ := hat j p[j] (by rw [List.getElem?_append_left hj, List.getElem?_eq_getElem hj])
      have := hp _ (List.getElem_mem hj)
      rw [hgj, decide_eq_false_iff_not]
      omega
  rw [turn_some (by omega), hf, hgx]
theorem turn_all {last : Int} {l : List Bool} (hp : ∀ y ∈ goers l, (y : Int) ≤ last) : turnC last l = headC (goers l) := by
  cases e : goers l with
  | nil => rw [turn_none (by rw [e]; rfl)]; rfl
  | cons x r =>
    have hlt : 0 < (goers l).length := by rw [e]; simp
    have h0 : goAt l 0 = x := by
      have := goAt_some hlt
      rw [e] at this
      exact (Option.some.inj this).symm
    have hno : ∀ j, j < (goers l).length → ¬ (goAt l j : Int) > last := fun j hj => by
      have := hp _ (List.mem_of_getElem? (goAt_some hj))
      omega
    have hz : turnAt last l = 0 := by
      by_cases hl : last ≥ (l.length : Int)
      · exact turnAt_first hlt (by unfold isBehind; rw [decide_eq_true_eq]; exact .inr hl) (fun j hj => by omega)
      · exact turnAt_none fun j hj => by
          have := hno j hj
          unfold isBehind
          rw [decide_eq_false_iff_not]
          omega
    rw [turn_some hlt, hz, h0]
    rfl
/-- What stands between two rounds of Turn's loop. -/
structure TuAt (w : World) (last : Int) (pre : List Nat) (W : World) : Prop where
  lastB : Boxed W w.heap.size 3 (.int .i64 last)
  next : Boxed W (w.heap.size + 1) 3 (.int .i64 (headC pre))
  low : Below w.heap.size w W
  no : ∀ y ∈ pre, (y : Int) ≤ last
/-- What stands where a round has left. -/
structure TuOut (w : World) (last : Int) (c : Code) (pre : List Nat) (W : World) : Prop where
  code : c = .exit 0
  next : ∃ (p : List Nat) (x : Nat), pre = p ++ [x] ∧ Boxed W (w.heap.size + 1) 3 (.int .i64 (x : Int)) ∧ (∀ y ∈ p, (y : Int) ≤ last) ∧ (x : Int) > last
  low : Below w.heap.size w W
theorem TuAt.own (w : World) (last : Int) (B : Nat) (hB : w.heap.size ≤ B) : OwnFrom B (TuAt w last) := fun s X Y row hs hg hrow =>
  ⟨(boxed_own w.heap.size 3 (fun _ : Unit => Value.int .i64 last)).from B () X Y row hs.lastB hg hrow, (boxed_own (w.heap.size + 1) 3 (fun s => Value.int .i64 (headC s))).from B s X Y row hs.next hg hrow,
    ownFrom_below (Nat.le_refl _) hB () X Y row hs.low hg hrow, hs.no⟩
theorem TuOut.own (w : World) (last : Int) (c : Code) (B : Nat) (hB : w.heap.size ≤ B) : OwnFrom B (TuOut w last c) := fun s X Y row hs hg hrow => by
  obtain ⟨p, x, h1, h2, h3, h4⟩ := hs.next
  exact ⟨hs.code, ⟨p, x, h1, (boxed_own (w.heap.size + 1) 3 (fun _ : Unit => Value.int .i64 (x : Int))).from B () X Y row h2 hg hrow, h3, h4⟩, ownFrom_below (Nat.le_refl _) hB () X Y row hs.low hg hrow⟩
theorem head_snoc {pre : List Nat} {x : Nat} (h : pre = []) : headC (pre ++ [x]) = (x : Int) := by subst h; rfl
theorem head_more {pre : List Nat} {x : Nat} (h : pre ≠ []) : headC (pre ++ [x]) = headC pre := by
  cases pre with
  | nil => exact absurd rfl h
  | cons y r => rfl
theorem head_neg {pre : List Nat} : headC pre < 0 ↔ pre = [] := by
  cases pre with
  | nil => exact ⟨fun _ => rfl, fun _ => by decide⟩
  | cons y r => exact ⟨fun h => by have h' : (y : Int) < 0 := h
                                   omega, fun h => by cases h⟩

theorem wpIn_scope_wide {n : Nat} {P : Program} {c : Code} {Q : Exit → Act → World → Prop} {a : Act} {w : World} (h : c.wpIn Fence.wide n P (Exit.noGoto Q) a w) : (Code.scope c).wpIn Fence.wide n P Q a w :=
  wpIn_wide.2 (wp_scope_straight (wpIn_wide.1 h))
set_option maxRecDepth 100000 in
set_option maxHeartbeats 2000000 in
theorem turn_in (n : Nat) (last : Int) (A : Option Addr) (cap : Nat) (l : List Bool) (w : World) (hs : Row w A (l.map bV)) (hl : l.length ≤ 1000) (hn : 3 ≤ n) :
    CallsIn Fence.wide n Try.prog 11 #[.int .i64 last, .slice A l.length cap] w fun e w' => e = .returned (.int .i64 (turnC last l)) ∧ Below w.heap.size w w' := by
  have h1 : 1 ≤ n := by omega
  have HS := Lib.hid hs
  clear hs
  refine callsIn_of_wp_marks Try.func11 rfl trivial ?_ rfl
  simp only [Try.ntmps11, List.size_toArray, List.length_cons, List.length_nil, Nat.reduceAdd, Nat.reduceSub, Array.replicate_succ, Array.replicate_zero, List.push_toArray, List.append_toArray, List.nil_append, List.cons_append]
  gi_wp2
  refine wpIn_scope_wide ?_
  gi_wp2
  refine wpIn_label ?_
  gi_wp2_with (refine ⟨trivial, ?_⟩; gi_at_call 19; refine (callsIn_wide.2 (those_any _ _ _ _)).mono ?_; rintro e w1 ⟨rfl, rfl⟩)
  have bL0 := Boxed.new w 3 (.int .i64 last)
  have bN0 := Boxed.new (w.alloc (.cells #[.int .i64 last] 3)) 3 (.int .i64 (-1))
  rw [World.size_alloc] at bN0
  have hB0 : Below w.heap.size w (((w.alloc (.cells #[.int .i64 last] 3)).alloc (.cells #[.int .i64 (-1)] 3)).alloc (.cells #[.slice A l.length cap] 22)) :=
    (((Below.refl _ w).alloc (Nat.le_refl _) _).alloc (by simp) _).alloc (by simp; omega) _
  have hsz : (((w.alloc (.cells #[.int .i64 last] 3)).alloc (.cells #[.int .i64 (-1)] 3)).alloc (.cells #[.slice A l.length cap] 22)).heap.size = w.heap.size + 3 := by simp
  have bS := Boxed.new ((w.alloc (.cells #[.int .i64 last] 3)).alloc (.cells #[.int .i64 (-1)] 3)) 22 (.slice A l.length cap)
  have hs2 : ((w.alloc (.cells #[.int .i64 last] 3)).alloc (.cells #[.int .i64 (-1)] 3)).heap.size = w.heap.size + 2 := by simp
  rw [hs2] at bS
  rw [show w.heap.size + 1 + 1 = w.heap.size + 2 from rfl]
  have bL := (bL0.alloc (.cells #[.int .i64 (-1)] 3)).alloc (.cells #[.slice A l.length cap] 22)
  have bN := bN0.alloc (.cells #[.slice A l.length cap] 22)
  obtain ⟨W0, hW0⟩ : ∃ W0, ((w.alloc (.cells #[.int .i64 last] 3)).alloc (.cells #[.int .i64 (-1)] 3)).alloc (.cells #[.slice A l.length cap] 22) = W0 := ⟨_, rfl⟩
  rw [hW0] at hB0 hsz bS bL bN ⊢
  clear hW0 bL0 bN0 hs2
  have hst := those_stops (n - 1) w.heap.size (w.heap.size + 2) cap A l (by omega) W0 bS.cell (HS.out.below hB0) HS.out.lt (by omega)
  have h0 : TuAt w last [] W0 := ⟨bL, bN, hB0, fun y h => by cases h⟩
  clear bL bN bS
  refine wpIn_rangeFunc_ownG rfl h1 (gf := 22) (lb := #[.pointer (some ⟨w.heap.size + 2, 0, none⟩)]) rfl trivial (enters_of Try.func22 (by kernel_rfl) rfl)
    hst belowK_t (belowK_b (by omega)) (Below.refl _ _) (fun _ => rfl) (TuAt w last) (TuOut w last) (TuAt.own w last _ (by omega)) (fun c => TuOut.own w last c _ (by omega)) h0
    (fun x => { tmps := #[.int .i64 last, .slice A l.length cap, .pointer (some ⟨w.heap.size, 0, none⟩), undef, .int .i64 0, .pointer (some ⟨w.heap.size + 1, 0, none⟩), nV x, .slice A l.length cap, .func (.func 22) #[] #[.pointer (some ⟨w.heap.size + 2, 0, none⟩)], nV x, undef, undef, undef, undef, undef, undef, undef, undef, undef, undef], defers := [] })
    ?assign ?body ?done ?stop
  case assign =>
    rintro y x W K hK
    simp only [nV] at hK ⊢
    gi_wp2_with (rw [Oper.semAt_eq _ _ _ (fun c h => by cases h)]; go_simp; try go_bits)
    exact hK
  case body =>
    rintro y pre x W hI hlt
    have HI := Lib.hid hI
    have yl := hI.lastB.cell
    have yn := hI.next.cell
    have yf := hI.next.frozen
    have hbelow : ∀ v, Below w.heap.size W (W.setCell ⟨w.heap.size + 1, 0, none⟩ v) := fun v => (Below.refl _ W).setCell (p := ⟨w.heap.size + 1, 0, none⟩) (by show w.heap.size ≤ w.heap.size + 1; omega) v
    have HBW := Lib.hid hbelow
    simp only [nV]
    clear hI h0 hst hbelow
    obtain ⟨hd, hhd⟩ : ∃ hd, headC pre = hd := ⟨_, rfl⟩
    rw [hhd] at yn
    have HHD := Lib.hid hhd
    clear hhd
    rcases Int.lt_or_le last (x : Int) with hx | hx
    · gi_wp2_with (rw [Oper.semAt_eq _ _ _ (fun c h => by cases h)]; go_simp; try go_bits)
      exact ⟨(KeepsOthers.setCell _ _ _).from _, rfl, ⟨pre, x, rfl, HI.out.next.set _, HI.out.no, hx⟩, HI.out.low.trans (HBW.out _)⟩
    · by_cases hn : hd < 0
      · gi_wp2_with (rw [Oper.semAt_eq _ _ _ (fun c h => by cases h)]; go_simp; try go_bits)
        have he : pre = [] := head_neg.1 (by rw [HHD.out]; exact hn)
        exact ⟨(KeepsOthers.setCell _ _ _).from _, HBW.out _, HI.out.lastB.other (by omega) _, by rw [head_snoc he]; exact HI.out.next.set _, HI.out.low.trans (HBW.out _), fun z hz => by
          rcases List.mem_append.1 hz with h | h
          · exact HI.out.no z h
          · rw [List.mem_singleton.1 h]; exact hx⟩
      · have hn' : 0 ≤ hd := by omega
        gi_wp2_with (rw [Oper.semAt_eq _ _ _ (fun c h => by cases h)]; go_simp; try go_bits)
        have he : pre ≠ [] := fun e => by have := head_neg.2 e; rw [HHD.out] at this; omega
        exact ⟨KeepsFrom.refl _ _, Below.refl _ _, HI.out.lastB, by rw [head_more he]; exact HI.out.next, HI.out.low, fun z hz => by
          rcases List.mem_append.1 hz with h | h
          · exact HI.out.no z h
          · rw [List.mem_singleton.1 h]; exact hx⟩
  case done =>
    rintro D ys W hD hS hI hK
    have yn := hI.next.cell
    gi_wp2
    rw [Exit.noGoto_ret]
    refine ⟨by simp, .inl ⟨_, _, rfl, run_takeDeferred hK, ?_⟩⟩
    refine ⟨_, results_tmp rfl _ _ _, ?_, hI.low.trans (belowK_b (w := w) (Nat.le_refl _) W D _ _ (by omega) hK rfl rfl)⟩
    exact ret_int (turn_all (by rw [← hS]; exact hI.no)).symm
  case stop =>
    rintro D c pre W hD ⟨r, hr⟩ ⟨rfl, ⟨p, x, rfl, hb, hp, hx⟩, hlow⟩ hK
    have yn := hb.cell
    gi_wp2
    rw [Exit.noGoto_ret]
    refine ⟨by simp, .inl ⟨_, _, rfl, run_takeDeferred hK, ?_⟩⟩
    refine ⟨_, results_tmp rfl _ _ _, ?_, hlow.trans (belowK_b (w := w) (Nat.le_refl _) W D _ _ (by omega) hK rfl rfl)⟩
    exact ret_int (turn_found hr hp hx).symm
theorem pturn_any (last : Int) (A : Option Addr) (cap : Nat) (l : List Bool) (w : World) (hs : Row w A (l.map bV)) (hl : l.length ≤ 1000) :
    Calls Try.prog 11 #[.int .i64 last, .slice A l.length cap] w fun e w' => e = .returned (.int .i64 (turnC last l)) ∧ Below w.heap.size w w' :=
  callsIn_wide.1 (turn_in 3 last A cap l w hs hl (Nat.le_refl _))
end Go.Proofs.Ytmominipgkchjaa
