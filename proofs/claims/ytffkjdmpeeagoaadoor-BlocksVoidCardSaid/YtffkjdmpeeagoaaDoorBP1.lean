/-
  A More and a Less of the chapter in plain words, over a memory's words; no condition.
-/
import Derived.Test.YtffkjdmpeeagoaaDoorTB1
namespace Go.Proofs.YtffkjdmpeeagoaaDoor
open Go.RowKit Go.Maps

/-- A block that nobody joined: open, closed. -/
def opnW : Int := blockW 0 false
def cldW : Int := blockW 0 true
/-- An operation, as the chapter has it: a Less or a More, its line (0: over), error, how many blocks it read. -/
structure BO where
  lv : Bool
  ln : Int
  e : Int
  b : Int
def moreX (o : BO) (M : MV) : BO × MV :=
  if o.ln = 1 then (if 4 ≤ M.V adN then ⟨o.lv, 0, 5, M.V adN⟩ else ⟨o.lv, 2, o.e, M.V adN⟩, ldM M adN)
  else if o.ln = 2 then (if casV M.V adN o.b = true then ⟨o.lv, 3, o.e, o.b⟩ else ⟨o.lv, 1, o.e, o.b⟩, csM M adN o.b (o.b + 1))
  else if o.ln = 3 then (⟨o.lv, 0, 0, o.b⟩, csM M (adK o.b) cldW opnW)
  else (o, M)
def lessX (o : BO) (M : MV) : BO × MV :=
  if o.ln = 1 then (if M.V adN ≤ 1 then ⟨o.lv, 0, 4, M.V adN⟩ else if 4 < M.V adN then ⟨o.lv, 0, 1, M.V adN⟩ else ⟨o.lv, 2, o.e, M.V adN⟩, ldM M adN)
  else if o.ln = 2 then (if casV M.V (adK (o.b - 1)) opnW = true then ⟨o.lv, 3, o.e, o.b⟩ else ⟨o.lv, 0, 7, o.b⟩, csM M (adK (o.b - 1)) opnW cldW)
  else if o.ln = 3 then (if casV M.V adN o.b = true then ⟨o.lv, 0, 0, o.b⟩ else ⟨o.lv, 4, o.e, o.b⟩, csM M adN o.b (o.b - 1))
  else if o.ln = 4 then (⟨o.lv, 0, 7, o.b⟩, csM M (adK (o.b - 1)) cldW opnW)
  else (o, M)
def kX (o : BO) (M : MV) : BO × MV := if o.lv = true then lessX o M else moreX o M
/-- A new one. -/
def newB (lv : Bool) : BO := ⟨lv, 1, 0, 0⟩
/-- Its numbers are of their kinds. -/
structure BNum (o : BO) : Prop where
  b : U64 o.b
  ln : 0 ≤ o.ln ∧ o.ln ≤ 4
  e : o.ln ≠ 0 → o.e = 0
  m : o.lv = false → o.ln ≤ 3 ∧ (2 ≤ o.ln → o.b < 4)
  l : o.lv = true → 2 ≤ o.ln → 2 ≤ o.b ∧ o.b ≤ 4
theorem BNum.new (lv : Bool) : BNum (newB lv) := ⟨u64_0', by simp [newB], fun _ => rfl, fun _ => by simp [newB], fun _ => by simp [newB]⟩
theorem BNum.step {o : BO} {M : MV} (ok : BNum o) (hu : ∀ x, U64 (M.V x)) : BNum (kX o M).1 := by
  obtain ⟨lv, ln, e, b⟩ := o
  obtain ⟨h1, h2, h3, h4, h5⟩ := ok
  have hN := hu adN
  have hN0 := hN.1
  simp only at h1 h2 h3 h4 h5
  have h10 := h1.1
  unfold kX
  cases lv with
  | false =>
    obtain ⟨h6, h7⟩ := h4 rfl
    rw [if_neg (by simp)]
    unfold moreX
    obtain rfl | rfl | rfl | rfl : ln = 0 ∨ ln = 1 ∨ ln = 2 ∨ ln = 3 := by omega
    · exact ⟨h1, h2, h3, h4, fun h => by cases h⟩
    · simp only [if_true]
      split
      · exact ⟨hN, by simp, fun h => absurd rfl h, fun _ => ⟨by simp, fun h => by simp at h⟩, fun h => by cases h⟩
      · exact ⟨hN, by simp, fun _ => h3 (by decide), fun _ => ⟨by simp, fun _ => by simp only; omega⟩, fun h => by cases h⟩
    · simp only [if_neg (show ¬ (2 : Int) = 1 by decide), if_true]
      split
      · exact ⟨h1, by simp, fun _ => h3 (by decide), fun _ => ⟨by simp, fun _ => h7 (by decide)⟩, fun h => by cases h⟩
      · exact ⟨h1, by simp, fun _ => h3 (by decide), fun _ => ⟨by simp, fun h => by simp at h⟩, fun h => by cases h⟩
    · simp only [if_neg (show ¬ (3 : Int) = 1 by decide), if_neg (show ¬ (3 : Int) = 2 by decide), if_true]
      exact ⟨h1, by simp, fun h => absurd rfl h, fun _ => ⟨by simp, fun h => by simp at h⟩, fun h => by cases h⟩
  | true =>
    have h7 := h5 rfl
    rw [if_pos rfl]
    unfold lessX
    obtain rfl | rfl | rfl | rfl | rfl : ln = 0 ∨ ln = 1 ∨ ln = 2 ∨ ln = 3 ∨ ln = 4 := by omega
    · exact ⟨h1, h2, h3, (fun h => by cases h), h5⟩
    · simp only [if_true]
      split
      · exact ⟨hN, by simp, fun h => absurd rfl h, (fun h => by cases h), fun _ h => by simp at h⟩
      · split
        · exact ⟨hN, by simp, fun h => absurd rfl h, (fun h => by cases h), fun _ h => by simp at h⟩
        · exact ⟨hN, by simp, fun _ => h3 (by decide), (fun h => by cases h), fun _ _ => by simp only; omega⟩
    · simp only [if_neg (show ¬ (2 : Int) = 1 by decide), if_true]
      split
      · exact ⟨h1, by simp, fun _ => h3 (by decide), (fun h => by cases h), fun _ _ => h7 (by decide)⟩
      · exact ⟨h1, by simp, fun h => absurd rfl h, (fun h => by cases h), fun _ h => by simp at h⟩
    · simp only [if_neg (show ¬ (3 : Int) = 1 by decide), if_neg (show ¬ (3 : Int) = 2 by decide), if_true]
      split
      · exact ⟨h1, by simp, fun h => absurd rfl h, (fun h => by cases h), fun _ h => by simp at h⟩
      · exact ⟨h1, by simp, fun _ => h3 (by decide), (fun h => by cases h), fun _ _ => h7 (by decide)⟩
    · simp only [if_neg (show ¬ (4 : Int) = 1 by decide), if_neg (show ¬ (4 : Int) = 2 by decide), if_neg (show ¬ (4 : Int) = 3 by decide), if_true]
      exact ⟨h1, by simp, fun h => absurd rfl h, (fun h => by cases h), fun _ h => by simp at h⟩
theorem kX_st (o : BO) (M : MV) : (kX o M).2.s.st ≤ M.s.st + 1 := by
  have l : ∀ x, (ldM M x).s.st ≤ M.s.st + 1 := fun x => by show M.s.st + 1 ≤ _; omega
  have c : ∀ x u v, (csM M x u v).s.st ≤ M.s.st + 1 := fun x u v => by show M.s.st + 1 ≤ _; omega
  unfold kX lessX moreX
  split
  · repeat' split
    all_goals first | exact l _ | exact c _ _ _ | (show M.s.st ≤ _; omega)
  · repeat' split
    all_goals first | exact l _ | exact c _ _ _ | (show M.s.st ≤ _; omega)
end Go.Proofs.YtffkjdmpeeagoaaDoor
