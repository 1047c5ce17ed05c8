/-
  The plain side of ScriptsJoin: a script behind another one, whose last command is whole, has its commands there; no condition of its own.
-/
import Derived.Test.YtlgfdemggkiojaaDoorC1
namespace Go.Proofs.YtlgfdemggkiojaaDoor
open Go.RowKit

/-- Is a command whole, or nothing of one byte that is no command's first? -/
def Whole (a : List UInt8) (c : Cm) : Prop := c.kind ≠ 0 ∨ (c.to - c.fr ≤ 1 ∧ 136 ≤ byt a c.fr.toNat)
/-- Is the last one whole? -/
def WholeLast (a : List UInt8) (l : List Cm) : Prop := ∀ c, l.getLast? = some c → Whole a c
theorem byt_app (X b : List UInt8) (h : X ≠ []) : byt (X ++ b) 0 = byt X 0 := byt_append X b 0 (List.length_pos_iff.2 h)
theorem dec_app {X b : List UInt8} (h : X ≠ []) (hs : ¬ X.length < sizeOf' (kindOf (byt X 0))) : dec (X ++ b) = dec X ∧ dlen (X ++ b) = dlen X := by
  have hs2 : ¬ (X ++ b).length < sizeOf' (kindOf (byt X 0)) := by rw [List.length_append]; omega
  unfold dec dlen
  rw [byt_app X b h, if_neg hs, if_neg hs2, if_neg hs, if_neg hs2, readC_append _ _ _ (by omega)]
  exact ⟨rfl, rfl⟩
theorem whole_size {A0 : List UInt8} {o : Nat} (ho : o < A0.length) (hs : (A0.drop o).length < sizeOf' (kindOf (byt (A0.drop o) 0))) (hg : Whole A0 ((dec (A0.drop o)).shift o)) : False := by
  have hl : (A0.drop o).length = A0.length - o := List.length_drop
  have hd : dec (A0.drop o) = noneC (A0.drop o).length := by unfold dec; rw [if_pos hs]
  rw [hd, noneC_at] at hg
  rcases hg with h | ⟨h1, h2⟩
  · exact h rfl
  · have e : (Cm.fr ⟨0, (o : Int), ((o + (A0.drop o).length : Nat) : Int), 0, 0, 0, 0, 0, 0⟩).toNat = o := rfl
    rw [e] at h2
    have h1' : ((o + (A0.drop o).length : Nat) : Int) - (o : Int) ≤ 1 := h1
    have hb : byt (A0.drop o) 0 = byt A0 o := by rw [byt_drop]; rfl
    have hk : kindOf (byt (A0.drop o) 0) = 0 := by rw [hb]; exact kindOf_high (by omega)
    rw [hk] at hs
    have h0 := size_zero
    omega
theorem join_from (A0 b : List UInt8) : ∀ n o, n = A0.length - o → o ≤ A0.length → WholeLast A0 (parseFrom o (A0.drop o)) → parseFrom o (A0.drop o ++ b) = parseFrom o (A0.drop o) ++ parseFrom A0.length b := by
  intro n
  induction n using Nat.strongRecOn with
  | ind n ih =>
    intro o hn ho hg
    by_cases hlt : o < A0.length
    · have hne := drop_ne hlt
      have hd := dlen_bd _ hne
      have hl : (A0.drop o).length = A0.length - o := List.length_drop
      have hstep := parse_step A0 o hlt
      rw [hstep] at hg ⊢
      by_cases hs : (A0.drop o).length < sizeOf' (kindOf (byt (A0.drop o) 0))
      · exfalso
        have hdl : dlen (A0.drop o) = (A0.drop o).length := by unfold dlen; rw [if_pos hs]
        rw [parse_end _ _ (by omega)] at hg
        exact whole_size hlt hs (hg _ rfl)
      · obtain ⟨e1, e2⟩ := dec_app (b := b) hne hs
        have hne2 : A0.drop o ++ b ≠ [] := fun e => hne (List.append_eq_nil_iff.1 e).1
        have htail := ih (A0.length - (o + dlen (A0.drop o))) (by omega) (o + dlen (A0.drop o)) rfl (by omega) (fun c hc => hg c (by rw [List.getLast?_cons, hc]; rfl))
        rw [parseFrom_cons o _ hne2, e1, e2, List.drop_append_of_le_length hd.2.2, List.drop_drop, htail]
        rfl
    · obtain rfl : o = A0.length := by omega
      rw [List.drop_length, List.nil_append, parseFrom_nil, List.nil_append]
theorem parse_join {a b : List UInt8} (ha : a.length ≤ 1500) (hb : b.length ≤ 1500) (hg : WholeLast a (parseC a)) : parseC (a ++ b) = parseC a ++ (parseC b).map (·.shift a.length) := by
  have hg' : WholeLast a (parseFrom 0 (a.drop 0)) := by
    have h := hg
    unfold parseC at h
    rw [take_most _ (by omega)] at h
    exact h
  have h := join_from a b _ 0 rfl (Nat.zero_le _) hg'
  have h2 := parseFrom_shift 0 a.length b
  rw [Nat.zero_add] at h2
  unfold parseC
  rw [take_most _ (by rw [List.length_append]; omega), take_most _ (by omega), take_most _ (by omega)]
  rw [h2] at h
  exact h
/-- What each command of a script is. -/
theorem parse_cover (l : List UInt8) : ∀ k, k ≤ (parseC l).length → ∃ p, p ≤ (l.take most).length ∧ parseFrom p ((l.take most).drop p) = (parseC l).drop k := by
  intro k
  induction k with
  | zero => exact fun _ => ⟨0, Nat.zero_le _, rfl⟩
  | succ k ih =>
    intro hk
    obtain ⟨p, hp, he⟩ := ih (by omega)
    obtain ⟨d, hc, hd⟩ := cover_step (List.getElem?_eq_getElem (show k < (parseC l).length by omega)) hp he
    exact ⟨p + d, hc.le, hd⟩
theorem cover_of {l : List UInt8} {k : Nat} {c : Cm} (hk : (parseC l)[k]? = some c) : ∃ p d, CoverAt (l.take most) p d c := by
  obtain ⟨p, hp, he⟩ := parse_cover l k (by have := (List.getElem?_eq_some_iff.1 hk).1; omega)
  obtain ⟨d, hc, _⟩ := cover_step hk hp he
  exact ⟨p, d, hc⟩
end Go.Proofs.YtlgfdemggkiojaaDoor
