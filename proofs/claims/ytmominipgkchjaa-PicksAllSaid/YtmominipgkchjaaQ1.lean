/-
  A region that draws its order and only reads, inside a round of a loop over an iterator: one walk serves every order; condition: none of its operations defers a call.
-/
import Derived.Test.YtmominipgkchjaaProg
import Derived.Sort.QuietIn
import Derived.OrdersIn
import Derived.TacticsIn
namespace Go.Proofs.Ytmominipgkchjaa
open Go.RowKit

/-- No operation defers a call. -/
def undeferring (l : List Oper) : Bool := l.all fun o => match o.op with | .defer _ => false | _ => true
theorem undeferring_at {l : List Oper} (h : undeferring l = true) {i : Nat} {o : Oper} (ho : l[i]? = some o) : ∀ c, o.op ≠ .defer c := fun c e => by
  have := List.all_eq_true.1 h o (List.mem_of_getElem? ho)
  rw [e] at this
  cases this
section
variable {F : Fence} {n : Nat} {P : Program} {md : Region.Mode} {l : List Oper} {Q : Exit → Act → World → Prop}
theorem wpIn_round {o : Oper} {a : Act} {w : World} {K : Act → World → Prop} (y : Nat) (ho : ∀ c, o.op ≠ .defer c) (h : o.wpIn F n P a w K Q) : o.wpIn (F.inRound y) n P a w K Q := by
  unfold Oper.wpIn at *
  rw [Oper.semAt_eq _ _ _ ho] at h ⊢
  refine ⟨h.1, ?_⟩
  have h2 := h.2
  generalize (execOp a.eval o).run P w = r at *
  cases r with
  | ok x w' => cases x <;> exact h2
  | halt x w' => cases x <;> exact h2
theorem anyIn_round (y : Nat) (hnd : undeferring l = true) : ∀ (fuel : Nat) (listed : Array Bool) (a : Act) (w : World), wpAnyIn F n P md l.toArray Q fuel listed a w → wpAnyIn (F.inRound y) n P md l.toArray Q fuel listed a w := by
  intro fuel
  induction fuel with
  | zero => exact fun _ _ _ h => h
  | succ fuel ih =>
    intro listed a w h
    refine ⟨h.1, fun i hi => ?_⟩
    have h2 := wpOpIn_mono (fun a' w' h' => ih _ a' w' h') (h.2 i hi)
    unfold wpOpIn at *
    split
    · rename_i ho
      simpa only [ho] using h2
    · rename_i o ho
      simp only [ho] at h2
      split
      · rename_i hw
        simp only [hw, if_true] at h2
        exact wpIn_round y (undeferring_at hnd (by simpa using ho)) h2
      · rename_i hw
        simp only [hw] at h2
        exact h2
theorem region_round_quiet {id y : Nat} {a : Act} {w : World} (hro : F.round = none) (hm : P.follows .mixedOrders = true) (hB : Region.lexB .any l.toArray = true) (hnd : undeferring l = true)
    (h : wpQuietIn F n P l.toArray (fun w' => ∃ n, w' = w.drewN n) (fun a' => ∀ w', (∃ n, w' = w.drewN n) → Q .normal a' w') l a) : (Code.region id l.toArray true).wpIn (F.inRound y) n P Q a w := by
  have hB2 := hB
  simp only [Region.lexB, Bool.and_eq_true] at hB2
  refine wpIn_region_any hm (anyIn_round y hnd _ _ _ _ (wpAnyIn_of_quiet (C := fun w' => ∃ n, w' = w.drewN n) (Q := fun a' => ∀ w', (∃ n, w' = w.drewN n) → Q .normal a' w') hro (fun _ w' hw' h => h w' hw') _ _ _ _ ⟨1, rfl⟩ ?_))
  have := wpAnyQIn_lex (F := F) (n := n) (C := fun w' => ∃ n, w' = w.drewN n) (md := .any) hB2.1 l 0 (Array.replicate l.length false) a (by simp) (by simpa using hB2.2) h
  simpa using this
end
end Go.Proofs.Ytmominipgkchjaa
