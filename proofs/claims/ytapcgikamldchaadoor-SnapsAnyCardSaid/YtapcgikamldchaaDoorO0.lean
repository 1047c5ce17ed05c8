/-
  A new memory, wherever it lies; no condition.
-/
import Derived.Test.YtapcgikamldchaaDoorP3
namespace Go.Proofs.YtapcgikamldchaaDoor
open Go.RowKit Go.Maps

theorem new_some (w : World) : Calls Tryd.prog 21 #[] w fun e w' => ∃ p b, e = .returned (.pointer (some ⟨p, 0, none⟩)) ∧ PM p b 0 (.map []) 0 0 0 0 0 0 0 false w' ∧ Below w.heap.size w w' ∧ w.heap.size ≤ b ∧ b < p := by
  refine (new_prog w).mono ?_
  rintro e w' ⟨rfl, hp, hb⟩
  exact ⟨_, _, rfl, hp, hb, Nat.le_refl _, by omega⟩
end Go.Proofs.YtapcgikamldchaaDoor
