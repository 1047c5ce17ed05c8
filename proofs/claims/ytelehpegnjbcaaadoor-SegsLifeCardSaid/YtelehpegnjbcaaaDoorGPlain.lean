/-
  The plain side of layer 6: segments and their slots, what a segment's words may be, its turns, headers counted by their states; no program is named here; no condition.
-/
import Derived.Test.YtelehpegnjbcaaaDoorSpec
namespace Go.Proofs.YtelehpegnjbcaaaDoor

/-- The segment of a slot. -/
def ofG (n : Int) : Int := if 0 ≤ n ∧ n < 256 then n / 8 else -1
/-- A segment's slots. -/
def fromG (n : Int) : Int := if 0 ≤ n ∧ n < 32 then 8 * n else 0
def toG (n : Int) : Int := if 0 ≤ n ∧ n < 32 then 8 * n + 8 else 0
/-- May a segment's words be? -/
def maySeg (s p : Int) : Bool := decide ((s = 0 ∧ p = 8) ∨ ((s = 1 ∨ s = 2) ∧ p ≤ 8))
/-- May its state turn to that one? -/
def turnsG (s p t : Int) : Bool := maySeg s p && decide ((t = 0 ∧ s = 2 ∧ p = 8) ∨ (t = 1 ∧ (s = 0 ∨ s = 2)) ∨ (t = 2 ∧ s = 1))
/-- The state that a word says. -/
def stOf (x : Int) : Int := stS (x % 8)
theorem stOf_in {x : Int} : 0 ≤ stOf x ∧ stOf x ≤ 4 := by unfold stOf stS; split <;> omega
/-- How many headers are of a state. -/
def countN (l : List Int) (k : Int) : Nat := (l.filter fun x => decide (stOf x = k)).length
theorem countN_snoc (l : List Int) (x k : Int) : countN (l ++ [x]) k = countN l k + if stOf x = k then 1 else 0 := by
  unfold countN
  rw [List.filter_append, List.length_append, List.filter_cons, List.filter_nil]
  by_cases h : stOf x = k <;> simp [h]
theorem countN_take {l : List Int} {i : Nat} (hi : i < l.length) (k : Int) : countN (l.take (i + 1)) k = countN (l.take i) k + if stOf (l.getD i 0) = k then 1 else 0 := by
  rw [List.take_add_one, List.getElem?_eq_getElem hi]
  rw [show (some l[i]).toList = [l.getD i 0] by simp [List.getD_eq_getElem?_getD, List.getElem?_eq_getElem hi]]
  exact countN_snoc _ _ _
theorem countN_le (l : List Int) (k : Int) : countN l k ≤ l.length := List.length_filter_le _ _
/-- All are counted. -/
theorem countN_all (l : List Int) : countN l 0 + countN l 1 + countN l 2 + countN l 3 + countN l 4 = l.length := by
  induction l with
  | nil => rfl
  | cons x l ih =>
    have h := @stOf_in x
    have e : ∀ k, countN (x :: l) k = (if stOf x = k then 1 else 0) + countN l k := fun k => by
      unfold countN
      rw [List.filter_cons]
      by_cases hk : stOf x = k <;> simp [hk]
      omega
    rw [e, e, e, e, e, List.length_cons]
    have hc : stOf x = 0 ∨ stOf x = 1 ∨ stOf x = 2 ∨ stOf x = 3 ∨ stOf x = 4 := by omega
    rcases hc with hc | hc | hc | hc | hc <;> simp [hc] <;> omega
theorem fld_s (w : Int) : fld w 0 3 = w % 8 := by unfold fld; rw [show (2 : Int) ^ 0 = 1 by decide, show (2 : Int) ^ 3 = 8 by decide]; omega
theorem headerW_s {s g : Int} (h0 : 0 ≤ s) (h4 : s ≤ 4) (hg : U32 g) : headerW s g = s + 8 * g := by
  unfold U32 at hg
  unfold headerW pw
  rw [show stS s = s by unfold stS; rw [if_neg (by omega)], show (2 : Int) ^ 0 = 1 by decide, show (2 : Int) ^ 3 = 8 by decide, show (2 : Int) ^ 32 = 4294967296 by decide]
  omega
theorem stOf_header {s g : Int} (h0 : 0 ≤ s) (h4 : s ≤ 4) : stOf (s + 8 * g) = s := by
  unfold stOf stS
  rw [if_neg (by omega)]
  omega
end Go.Proofs.YtelehpegnjbcaaaDoor
