/-
  The keys of the program's map of words, as they come one by one: each once, all of them; condition: the map's block reads as it says.
-/
import Derived.Test.YtapcgikamldchaaDoorK1
import Derived.RangeFuncNested
import Derived.RangeFuncBound
import Derived.RangeFuncCalls
import Derived.RangeFuncLeaves
import Derived.RangeFuncStops
import Derived.Shelf.Abstract
import Derived.Shelf.RegionOpen
import Derived.OwnWalkIn
import Derived.TacticsInMore
import Derived.LoopNIn
import Derived.LoopIn
import Derived.Sort.MapsRangeIn
namespace Go.Proofs.YtapcgikamldchaaDoor
open Go.RowKit Go.Maps Go.Shelf
open Go.WideElems (Fit rg rd_key rg_of)

/-- The keys that have come: no one twice, and just those of the map that are no longer to come. -/
def Came {H : Type} (D : DataW H) (left : Lit → Bool) (ss : List Ad) : Prop := ss.Nodup ∧ ∀ x : Ad, x ∈ ss ↔ (has D x.lit = true ∧ left x.lit = false)
theorem Came.start {H : Type} (D : DataW H) : Came D (has D) [] := ⟨List.nodup_nil, fun x => by simp⟩
theorem Came.step {H : Type} {D : DataW H} {left : Lit → Bool} {ss : List Ad} (h : Came D left ss) {x : Ad} {y : DataW H} (hl : left x.lit = true) (hat : ∀ zd, D.atKey x.lit zd = y) :
    Came D (fun z => left z && !z.sameKey x.lit) (ss ++ [x]) := by
  have hno : x ∉ ss := fun hx => by have := ((h.2 x).1 hx).2; rw [hl] at this; cases this
  refine ⟨?_, fun z => ?_⟩
  · rw [List.nodup_append]
    exact ⟨h.1, by simp, fun a ha b hb => by simp at hb; subst hb; rintro rfl; exact hno ha⟩
  · by_cases e : z = x
    · subst e
      have hs : z.lit.sameKey z.lit = true := WideAt.sameKey_self z.lit_key
      have hh : has D z.lit = true := has_true_of_atKey hat
      simp [hs, hh]
    · have hs : z.lit.sameKey x.lit = false := sameKey_ne fun e' => e (Ad.lit_inj e')
      have := h.2 z
      simp [hs, this, e]

theorem own_keys {H : Type} {w : World} {R : Value → Option (DataW H × List MemPlace)} {b n : Nat} {D : DataW H} (h : w.ownsMap Tryd.prog 42 R b n D) :
    ∃ es, D = .map es ∧ (es.map (·.1)).Nodup ∧ ∀ p ∈ es, ∃ x : Ad, p.1 = x.lit := by
  obtain ⟨es, clock, _, F, _, rfl⟩ := h
  refine ⟨_, rfl, ?_, fun p hp => ?_⟩
  · have := apart_of_rising (Maps.sorted_sorted addr_keyed.one _ (Maps.fit_keys F) (Maps.fit_apart addr_keyed F))
    rw [List.Nodup, List.pairwise_map]
    exact this
  · obtain ⟨v, hv⟩ := Maps.fit_keys F p (mem_sorted.1 hp)
    obtain ⟨x, _, hx⟩ := Ad.of_key hv
    exact ⟨x, hx⟩
theorem own_size {H : Type} {w : World} {R : Value → Option (DataW H × List MemPlace)} {b n : Nat} {D : DataW H} (h : w.ownsMap Tryd.prog 42 R b n D) {ss : List Ad} (hn : ss.Nodup) (hm : ∀ x : Ad, x ∈ ss ↔ has D x.lit = true) : ss.length = Maps.size D := by
  obtain ⟨es, rfl, hes, hk⟩ := own_keys h
  have hp : (ss.map Ad.lit).Perm (es.map (·.1)) := by
    refine (List.perm_ext_iff_of_nodup ?_ hes).2 fun l => ?_
    · rw [List.Nodup, List.pairwise_map]
      exact hn.imp fun hab e => hab (Ad.lit_inj e)
    · constructor
      · intro hl
        obtain ⟨x, hx, rfl⟩ := List.mem_map.1 hl
        obtain ⟨p, hp, hs⟩ := List.any_eq_true.1 ((hm x).1 hx)
        exact List.mem_map.2 ⟨p, hp, WideAt.sameKey_eq hs⟩
      · intro hl
        obtain ⟨p, hp, rfl⟩ := List.mem_map.1 hl
        obtain ⟨x, hx⟩ := hk p hp
        refine List.mem_map.2 ⟨x, (hm x).2 (List.any_eq_true.2 ⟨p, hp, ?_⟩), hx.symm⟩
        rw [hx]
        exact WideAt.sameKey_self x.lit_key
  have := hp.length_eq
  simpa [Maps.size] using this

set_option maxRecDepth 100000 in
set_option maxHeartbeats 2000000 in
/-- The iterator of the map's keys, whatever the loop's body. -/
theorem keys1_in {H : Type} (F : Fence) (n : Nat) (h10 : F.fn 49) (hro : F.round = none) (hn : 1 ≤ n) (l Bm b nn : Nat) (D0 : DataW H) (J Jx : List Ad → World → Prop)
    (hY : ∀ pre x W, J pre W → pre.length < Maps.size D0 → YieldAt F (n - 1) Tryd.prog l #[x.v] W fun e W' =>
      (e = .returned (.bool true) ∧ J (pre ++ [x]) W' ∧ KeepsWalks W W') ∨ (e = .returned (.bool false) ∧ Jx (pre ++ [x]) W'))
    (W : World) (hJ : AbidesFrom W.heap.size J) (hm : W.cell? ⟨Bm, 0, none⟩ = some (.map (some b))) (hown : W.ownsMap Tryd.prog 42 (plainElem Tryd.prog 34) b nn D0) (h0 : J [] W) :
    CallsIn F n Tryd.prog 49 #[.func (.yield l) #[] #[], .pointer (some ⟨Bm, 0, none⟩)] W fun e W' => (∃ v, e = .returned v) ∧
      ((∃ ss : List Ad, (ss.Nodup ∧ (∀ x : Ad, x ∈ ss ↔ has D0 x.lit = true) ∧ ss.length = Maps.size D0) ∧ J ss W') ∨ (∃ pre : List Ad, True ∧ Jx pre W')) := by
  refine callsIn_of_wp Tryd.func49 rfl h10 ?_ hro
  simp only [Tryd.ntmps49, List.size_toArray, List.length_cons, List.length_nil, Nat.reduceAdd, Nat.reduceSub, Array.replicate_succ, Array.replicate_zero, List.push_toArray, List.append_toArray, List.nil_append, List.cons_append]
  gi_wp2_with (first
    | (gi_at_range; refine wpListIn_range_own _ rfl _ 88 rfl 42 34 addr_keyed Tryd.underlying88 _ b nn _ rfl hown ?_; intro w0 hrg0 hg0 hs0)
    | gi_in)
  go_frame
  gi_loopw [3] (fun _ wr => ∃ (left : Lit → Bool) (cnt : Nat) (ss : List Ad), wr.ranges Tryd.prog 42 (plainElem Tryd.prog 34) b W.heap.size nn D0 left cnt ∧ ss.length + cnt ≤ Maps.size D0 ∧ Came D0 left ss ∧ J ss wr)
    (fun _ wr => wr.rangeLeft b W.heap.size)
  case atStart =>
    exact ⟨_, _, [], hrg0, by simp, Came.start D0, hJ [] W w0 none h0 hg0 (fun r e => by cases e)⟩
  case round =>
    obtain ⟨left, cnt, ss, hrg, hcs, hC, hJs⟩ := hrel
    gi_wp2_with (first
      | (gi_at_next; refine wpListIn_next_ranges _ rfl _ rfl 42 addr_keyed (plainElem Tryd.prog 34) Ad.v (Value.int .u64) (fun key kl hk => by obtain ⟨x, hx, _⟩ := Ad.of_key hk; exact ⟨x, hx⟩) (fun v y hv => by obtain ⟨c, rfl, _⟩ := plainElem_int_inv Tryd.underlying34 hv; exact ⟨c, rfl⟩) b W.heap.size nn _ _ _ rfl hrg ?_ ?_)
      | gi_in)
    · intro hc0 hl0
      gi_wp2
      go_end0
      have hmem : ∀ x : Ad, x ∈ ss ↔ has D0 x.lit = true := fun x => by rw [hC.2 x, hl0]; simp
      exact ⟨⟨_, rfl⟩, .inl ⟨ss, ⟨hC.1, hmem, own_size hown hC.1 hmem⟩, hJs⟩⟩
    · intro x c kl yd yp w2 cnt2 hkey hlk hv hat hrg2 hlt hg2 hs2 hen
      obtain ⟨x', ex, rfl⟩ := Ad.of_key hkey
      obtain rfl : x = x' := Ad.v_inj ex
      have hJ2 : J ss w2 := hJ ss wr w2 (some W.heap.size) hJs hg2 (fun r e => by cases e; exact ⟨Nat.le_refl _, hrg.iter_walk⟩)
      have hJ3 : J ss (w2.alloc (.cells #[.int .u8 x.k, .int .i64 x.a, .int .i64 x.f] 42)) := hJ ss w2 _ none hJ2 (World.grownBy_alloc w2 _ none) (fun r e => by cases e)
      obtain ⟨fn, tmps, assign, body, hy, hR⟩ := hY ss x _ hJ3 (by omega)
      have hrg4 := hrg2.alloc (.cells #[.int .u8 x.k, .int .i64 x.a, .int .i64 x.f] 42)
      clear hs2
      simp only [Ad.v, addrV] at hen hy ⊢
      gi_wp2
      refine hR.mono ?_
      have hC2 := hC.step hlk hat
      rintro e W3 (⟨rfl, hJ4, hk3⟩ | ⟨rfl, hJx3⟩)
      · gi_wp2
        have hrg3 := hrg4.of_walks hk3
        go_roundw
        case rel => exact ⟨_, cnt2, ss ++ [x], hrg3, by simp; omega, hC2, hJ4⟩
        case measure => rw [hrg3.left_eq, hrg.left_eq]; exact hlt
      · gi_wp2
        refine bodyPost_ret (results_none rfl _ _ _) rfl ?_
        exact ⟨⟨_, rfl⟩, .inr ⟨ss ++ [x], trivial, hJx3⟩⟩

/-- The iterator's contract. -/
theorem keys_stops {H : Type} (F : Fence) (n : Nat) (h10 : F.fn 49) (hro : F.round = none) (hn : 1 ≤ n) (Bm b nn : Nat) (D0 : DataW H) (w : World) (hBm : Bm < w.heap.size)
    (hm : w.cell? ⟨Bm, 0, none⟩ = some (.map (some b))) (hown : w.ownsMap Tryd.prog 42 (plainElem Tryd.prog 34) b nn D0) :
    SeqStops F n Tryd.prog 49 #[.pointer (some ⟨Bm, 0, none⟩)] Ad.v (fun ss => ss.Nodup ∧ (∀ x : Ad, x ∈ ss ↔ has D0 x.lit = true) ∧ ss.length = Maps.size D0) (fun _ => True) (Maps.size D0) w := fun l J Jx W hW hJ _ hY h0 => by
  have hown' : W.ownsMap Tryd.prog 42 (plainElem Tryd.prog 34) b nn D0 := by
    have hbl := hown.lt
    obtain ⟨es, clock, hb, Ft, hs, hD⟩ := hown
    exact ⟨es, clock, (hW.block b hbl).trans hb, Ft, hs, hD⟩
  exact keys1_in F n h10 hro hn l Bm b nn D0 J Jx hY W hJ ((hW.cell (p := ⟨Bm, 0, none⟩) hBm).trans hm) hown' h0

set_option maxHeartbeats 1000000 in
/-- maps.Keys: the map is boxed; the function value captures the box. -/
theorem keys_in (F : Fence) (n : Nat) (h7 : F.fn 43) (hro : F.round = none) (mb : Option Nat) (w : World) :
    CallsIn F n Tryd.prog 43 #[.map mb] w fun e w' => e = .returned (.func (.func 49) #[] #[.pointer (some ⟨w.heap.size, 0, none⟩)]) ∧ w' = w.alloc (.cells #[.map mb] 88) := by
  refine callsIn_of_wp Tryd.func43 rfl h7 ?_ hro
  simp only [Tryd.ntmps43, List.size_toArray, List.length_cons, List.length_nil, Nat.reduceAdd, Nat.reduceSub, Array.replicate_succ, Array.replicate_zero, List.push_toArray, List.append_toArray, List.nil_append, List.cons_append]
  gi_wp2
  go_ret
  exact ⟨rfl, rfl⟩
end Go.Proofs.YtapcgikamldchaaDoor
