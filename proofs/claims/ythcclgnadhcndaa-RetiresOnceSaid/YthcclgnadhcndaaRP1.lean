/-
  A list of retired entries, in plain words: what is added, what a sweep takes out and leaves, how many were born before; no condition.
-/
import Derived.Test.YthcclgnadhcndaaS0
namespace Go.Proofs.Ythcclgnadhcndaa
open Go.RowKit

/-- An entry may be. -/
def okE (e : EP) : Prop := 0 ≤ e.s ∧ e.s < 256 ∧ e.k = false
instance (e : EP) : Decidable (okE e) := by unfold okE; infer_instance
/-- Its ref. -/
structure RP where
  s : Int
  g : Int
  k : Bool
deriving DecidableEq
def EP.ref (e : EP) : RP := ⟨e.s, e.g, e.k⟩
/-- An entry is added: what is answered, the list behind it. -/
def addN (l : List EP) (e : EP) : Int := if okE e then (if e.ref ∈ l.map EP.ref then 8 else 0) else 1
def addE (l : List EP) (e : EP) : List EP := if okE e ∧ e.ref ∉ l.map EP.ref then l ++ [e] else l
/-- What a sweep takes of the first ones, what it leaves of them. -/
def outE (l : List EP) (f : Nat → Bool) : Nat → List EP
  | 0 => []
  | i + 1 => outE l f i ++ (if f i = true then [l.getD i EP.zero] else [])
def leftE (l : List EP) (f : Nat → Bool) : Nat → List EP
  | 0 => []
  | i + 1 => leftE l f i ++ (if f i = true then [] else [l.getD i EP.zero])
/-- How many of the first ones were born before. -/
def bornE (l : List EP) (b : Int) : Nat → Nat
  | 0 => 0
  | i + 1 => bornE l b i + (if (l.getD i EP.zero).b < b then 1 else 0)
/-- What may be told of a list. -/
structure InvR (l : List EP) : Prop where
  ok : ∀ e ∈ l, okE e
  nd : (l.map EP.ref).Nodup
section
variable {l : List EP} {e : EP} {f : Nat → Bool}
theorem InvR.nil : InvR [] := ⟨by simp, by simp⟩
theorem add_yes (h : okE e) (hn : e.ref ∉ l.map EP.ref) : addN l e = 0 ∧ addE l e = l ++ [e] := by
  unfold addN addE
  rw [if_pos h, if_neg hn, if_pos ⟨h, hn⟩]
  exact ⟨rfl, rfl⟩
theorem add_same (h : okE e) (hn : e.ref ∈ l.map EP.ref) : addN l e = 8 ∧ addE l e = l := by
  unfold addN addE
  rw [if_pos h, if_pos hn, if_neg (fun k => k.2 hn)]
  exact ⟨rfl, rfl⟩
theorem add_arg (h : ¬ okE e) : addN l e = 1 ∧ addE l e = l := by
  unfold addN addE
  rw [if_neg h, if_neg (fun k => h k.1)]
  exact ⟨rfl, rfl⟩
theorem InvR.push (I : InvR l) (h : okE e) (hn : e.ref ∉ l.map EP.ref) : InvR (l ++ [e]) := by
  refine ⟨fun x hx => ?_, ?_⟩
  · rcases List.mem_append.1 hx with hx | hx
    · exact I.ok x hx
    · rw [List.mem_singleton.1 hx]; exact h
  · rw [List.map_append, List.nodup_append]
    refine ⟨I.nd, by simp, fun a ha b hb => ?_⟩
    rw [List.map_singleton, List.mem_singleton] at hb
    rintro rfl
    exact hn (hb ▸ ha)
theorem InvR.add (I : InvR l) (e : EP) : InvR (addE l e) := by
  by_cases h : okE e
  · by_cases hn : e.ref ∈ l.map EP.ref
    · rw [(add_same h hn).2]; exact I
    · rw [(add_yes h hn).2]; exact I.push h hn
  · rw [(add_arg h).2]; exact I
theorem addN_zero : addN l e = 0 ↔ okE e ∧ e.ref ∉ l.map EP.ref := by
  unfold addN
  by_cases h : okE e
  · rw [if_pos h]
    by_cases hn : e.ref ∈ l.map EP.ref
    · rw [if_pos hn]
      exact ⟨fun k => absurd k (by decide), fun k => absurd hn k.2⟩
    · rw [if_neg hn]
      exact ⟨fun _ => ⟨h, hn⟩, fun _ => rfl⟩
  · rw [if_neg h]
    exact ⟨fun k => absurd k (by decide), fun k => absurd k.1 h⟩
theorem add_len (l : List EP) (e : EP) : (addE l e).length = l.length + (if addN l e = 0 then 1 else 0) := by
  by_cases h : okE e ∧ e.ref ∉ l.map EP.ref
  · rw [if_pos (addN_zero.2 h), (add_yes h.1 h.2).2]; simp
  · rw [if_neg (fun k => h (addN_zero.1 k))]
    unfold addE
    rw [if_neg h]
    rfl
theorem add_le (l : List EP) (e : EP) : (addE l e).length ≤ l.length + 1 := by
  rw [add_len]; split <;> omega
theorem out_succ (l : List EP) (f : Nat → Bool) (i : Nat) : outE l f (i + 1) = outE l f i ++ (if f i = true then [l.getD i EP.zero] else []) := rfl
theorem left_succ (l : List EP) (f : Nat → Bool) (i : Nat) : leftE l f (i + 1) = leftE l f i ++ (if f i = true then [] else [l.getD i EP.zero]) := rfl
theorem out_left (l : List EP) (f : Nat → Bool) : ∀ i, (outE l f i).length + (leftE l f i).length = i
  | 0 => rfl
  | i + 1 => by
    have := out_left l f i
    rw [out_succ, left_succ]
    by_cases h : f i = true <;> simp [h] <;> omega
theorem left_take (l : List EP) (f : Nat → Bool) : ∀ i, i ≤ l.length → (leftE l f i).Sublist (l.take i)
  | 0, _ => List.Sublist.slnil
  | i + 1, h => by
    rw [left_succ, take_next (by omega)]
    refine (left_take l f i (by omega)).append ?_
    by_cases hf : f i = true <;> simp [hf]
theorem out_take (l : List EP) (f : Nat → Bool) : ∀ i, i ≤ l.length → (outE l f i).Sublist (l.take i)
  | 0, _ => List.Sublist.slnil
  | i + 1, h => by
    rw [out_succ, take_next (by omega)]
    refine (out_take l f i (by omega)).append ?_
    by_cases hf : f i = true <;> simp [hf]
theorem left_sub (l : List EP) (f : Nat → Bool) : (leftE l f l.length).Sublist l := by
  have := left_take l f l.length (Nat.le_refl _)
  rwa [List.take_length] at this
theorem out_sub (l : List EP) (f : Nat → Bool) : (outE l f l.length).Sublist l := by
  have := out_take l f l.length (Nat.le_refl _)
  rwa [List.take_length] at this
theorem InvR.sub {l' : List EP} (I : InvR l) (h : l'.Sublist l) : InvR l' := ⟨fun e he => I.ok e (h.subset he), List.Nodup.sublist (h.map EP.ref) I.nd⟩
theorem InvR.left (I : InvR l) (f : Nat → Bool) : InvR (leftE l f l.length) := I.sub (left_sub l f)
theorem InvR.out (I : InvR l) (f : Nat → Bool) : InvR (outE l f l.length) := I.sub (out_sub l f)
/-- All that is out and all that stays is what was there. -/
theorem out_left_perm (l : List EP) (f : Nat → Bool) : ∀ i, i ≤ l.length → (leftE l f i ++ outE l f i).Perm (l.take i)
  | 0, _ => List.Perm.refl _
  | i + 1, h => by
    rw [left_succ, out_succ, take_next (by omega)]
    have ih := out_left_perm l f i (by omega)
    by_cases hf : f i = true
    · simp only [hf, if_true, List.append_nil]
      rw [← List.append_assoc]
      exact ih.append_right _
    · have hf' : f i = false := by simpa using hf
      simp only [hf', Bool.false_eq_true, if_false, List.append_nil]
      refine List.Perm.trans ?_ (ih.append_right [l.getD i EP.zero])
      rw [List.append_assoc, List.append_assoc]
      exact (List.perm_append_comm).append_left _
theorem InvR.both (I : InvR l) (f : Nat → Bool) : InvR (leftE l f l.length ++ outE l f l.length) := by
  have h := out_left_perm l f l.length (Nat.le_refl _)
  rw [List.take_length] at h
  exact ⟨fun e he => I.ok e (h.subset he), (h.map EP.ref).symm.nodup I.nd⟩
theorem out_mono (l : List EP) (f : Nat → Bool) (i : Nat) : ∀ k, ∃ r, outE l f (i + k) = outE l f i ++ r
  | 0 => ⟨[], by simp⟩
  | k + 1 => by
    obtain ⟨r, hr⟩ := out_mono l f i k
    exact ⟨r ++ (if f (i + k) = true then [l.getD (i + k) EP.zero] else []), by rw [← Nat.add_assoc, out_succ, hr, List.append_assoc]⟩
theorem left_mono (l : List EP) (f : Nat → Bool) (i : Nat) : ∀ k, ∃ r, leftE l f (i + k) = leftE l f i ++ r
  | 0 => ⟨[], by simp⟩
  | k + 1 => by
    obtain ⟨r, hr⟩ := left_mono l f i k
    exact ⟨r ++ (if f (i + k) = true then [] else [l.getD (i + k) EP.zero]), by rw [← Nat.add_assoc, left_succ, hr, List.append_assoc]⟩
/-- Where one that goes stands among those that go; where one that stays stands among those that stay. -/
theorem out_at {i n : Nat} (hi : i < n) (hf : f i = true) : (outE l f i).length < (outE l f n).length ∧ (outE l f n).getD (outE l f i).length EP.zero = l.getD i EP.zero := by
  obtain ⟨r, hr⟩ := out_mono l f (i + 1) (n - (i + 1))
  rw [show i + 1 + (n - (i + 1)) = n by omega, out_succ, if_pos hf] at hr
  rw [hr]
  simp [List.getD_eq_getElem?_getD]
theorem left_at {i n : Nat} (hi : i < n) (hf : f i = false) : (leftE l f i).length < (leftE l f n).length ∧ (leftE l f n).getD (leftE l f i).length EP.zero = l.getD i EP.zero := by
  obtain ⟨r, hr⟩ := left_mono l f (i + 1) (n - (i + 1))
  rw [show i + 1 + (n - (i + 1)) = n by omega, left_succ, if_neg (by rw [hf]; decide)] at hr
  rw [hr]
  simp [List.getD_eq_getElem?_getD]
theorem out_len (l : List EP) (f : Nat → Bool) (i : Nat) : (outE l f (i + 1)).length = (outE l f i).length + (if f i = true then 1 else 0) := by
  rw [out_succ, List.length_append]
  split <;> rfl
theorem left_len (l : List EP) (f : Nat → Bool) (i : Nat) : (leftE l f (i + 1)).length = (leftE l f i).length + (if f i = true then 0 else 1) := by
  rw [left_succ, List.length_append]
  split <;> rfl
/-- A sweep of nothing; one of all. -/
theorem out_no (hf : ∀ i, f i = false) : ∀ i, i ≤ l.length → outE l f i = [] ∧ leftE l f i = l.take i
  | 0, _ => ⟨rfl, rfl⟩
  | i + 1, h => by
    obtain ⟨h1, h2⟩ := out_no hf i (by omega)
    rw [out_succ, left_succ, h1, h2, take_next (by omega)]
    simp [hf i]
theorem out_all {n : Nat} (hf : ∀ i, i < n → f i = true) : ∀ i, i ≤ n → (outE l f i).length = i ∧ leftE l f i = []
  | 0, _ => ⟨rfl, rfl⟩
  | i + 1, h => by
    obtain ⟨h1, h2⟩ := out_all hf i (by omega)
    rw [out_succ, left_succ, h2]
    have := hf i (by omega)
    simp [this, h1]
theorem born_mono (l : List EP) {a b : Int} (h : a ≤ b) : ∀ i, bornE l a i ≤ bornE l b i
  | 0 => Nat.le_refl _
  | i + 1 => by
    have := born_mono l h i
    unfold bornE
    split <;> split <;> omega
theorem born_le (l : List EP) (b : Int) : ∀ i, bornE l b i ≤ i
  | 0 => Nat.le_refl _
  | i + 1 => by
    have := born_le l b i
    unfold bornE
    split <;> omega
theorem born_zero (h : ∀ e ∈ l, 0 ≤ e.b) : ∀ i, i ≤ l.length → bornE l 0 i = 0
  | 0, _ => rfl
  | i + 1, hi => by
    have hm : l.getD i EP.zero ∈ l := by
      rw [List.getD_eq_getElem?_getD, List.getElem?_eq_getElem (by omega)]
      exact List.getElem_mem _
    have := h _ hm
    unfold bornE
    rw [born_zero h i (by omega), if_neg (by omega)]
end
end Go.Proofs.Ythcclgnadhcndaa
