/-
  The keys of the program's map of words, as they come one by one: each once, all of them; condition: the map's block reads as it says.
-/
import Derived.Test.YtjpanofkikfeoaaDoorK1
import Derived.RangeFuncNested
import Derived.RangeFuncBound
import Derived.RangeFuncCalls
import Derived.RangeFuncLeaves
import Derived.RangeFuncStops
import Derived.Shelf.Abstract
import Derived.Shelf.RegionOpen
import Derived.OwnWalkIn
import Derived.TacticsInMore
import Derived.LoopNIn
import Derived.LoopIn
import Derived.Sort.MapsRangeIn
namespace Go.Proofs.YtjpanofkikfeoaaDoor
open Go.RowKit Go.Maps Go.Shelf
open Go.WideElems (Fit rg rd_key rg_of)

/-- The keys that have come: no one twice, and just those of the map that are no longer to come. -/
def Came {H : Type} (D : DataW H) (left : Lit → Bool) (ss : List Ad) : Prop := ss.Nodup ∧ ∀ x : Ad, x ∈ ss ↔ (has D x.lit = true ∧ left x.lit = false)
theorem Came.start {H : Type} (D : DataW H) : Came D (has D) [] := ⟨List.nodup_nil, fun x => by simp⟩
theorem Came.step {H : Type} {D : DataW H} {left : Lit → Bool} {ss : List Ad} (h : Came D left ss) {x : Ad} {y : DataW H} (hl : left x.lit = true) (hat : ∀ zd, D.atKey x.lit zd = y) :
    Came D (fun z => left z && !z.sameKey x.lit) (ss ++ [x]) := by
  have hno : x ∉ ss := fun hx => by have := ((h.2 x).1 hx).2; rw [hl] at this; cases this
  refine ⟨?_, fun z => ?_⟩
  · rw [List.nodup_append]
    exact ⟨h.1, by simp, fun a ha b hb => by simp at hb; subst hb; rintro rfl; exact hno ha⟩
  · by_cases e : z = x
    · subst e
      have hs : z.lit.sameKey z.lit = true := WideAt.sameKey_self z.lit_key
      have hh : has D z.lit = true := has_true_of_atKey hat
      simp [hs, hh]
    · have hs : z.lit.sameKey x.lit = false := sameKey_ne fun e' => e (Ad.lit_inj e')
      have := h.2 z
      simp [hs, this, e]

theorem own_keys {H : Type} {w : World} {R : Value → Option (DataW H × List MemPlace)} {b n : Nat} {D : DataW H} (h : w.ownsMap Tryd.prog 33 R b n D) :
    ∃ es, D = .map es ∧ (es.map (·.1)).Nodup ∧ ∀ p ∈ es, ∃ x : Ad, p.1 = x.lit := by
  obtain ⟨es, clock, _, F, _, rfl⟩ := h
  refine ⟨_, rfl, ?_, fun p hp => ?_⟩
  · have := apart_of_rising (Maps.sorted_sorted addr_keyed.one _ (Maps.fit_keys F) (Maps.fit_apart addr_keyed F))
    rw [List.Nodup, List.pairwise_map]
    exact this
  · obtain ⟨v, hv⟩ := Maps.fit_keys F p (mem_sorted.1 hp)
    obtain ⟨x, _, hx⟩ := Ad.of_key hv
    exact ⟨x, hx⟩
theorem own_size {H : Type} {w : World} {R : Value → Option (DataW H × List MemPlace)} {b n : Nat} {D : DataW H} (h : w.ownsMap Tryd.prog 33 R b n D) {ss : List Ad} (hn : ss.Nodup) (hm : ∀ x : Ad, x ∈ ss ↔ has D x.lit = true) : ss.length = Maps.size D := by
  obtain ⟨es, rfl, hes, hk⟩ := own_keys h
  have hp : (ss.map Ad.lit).Perm (es.map (·.1)) := by
    refine (List.perm_ext_iff_of_nodup ?_ hes).2 fun l => ?_
    · rw [List.Nodup, List.pairwise_map]
      exact hn.imp fun hab e => hab (Ad.lit_inj e)
    · constructor
      · intro hl
        obtain ⟨x, hx, rfl⟩ := List.mem_map.1 hl
        obtain ⟨p, hp, hs⟩ := List.any_eq_true.1 ((hm x).1 hx)
        exact List.mem_map.2 ⟨p, hp, WideAt.sameKey_eq hs⟩
      · intro hl
        obtain ⟨p, hp, rfl⟩ := List.mem_map.1 hl
        obtain ⟨x, hx⟩ := hk p hp
        refine List.mem_map.2 ⟨x, (hm x).2 (List.any_eq_true.2 ⟨p, hp, ?_⟩), hx.symm⟩
        rw [hx]
        exact WideAt.sameKey_self x.lit_key
  have := hp.length_eq
  simpa [Maps.size] using this

end Go.Proofs.YtjpanofkikfeoaaDoor
