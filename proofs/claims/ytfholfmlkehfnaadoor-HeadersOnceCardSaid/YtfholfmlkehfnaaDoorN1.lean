/-
  The plain side of the program's table of changes: its lines, those that may be done from a header, in their order, and that they are the chapter's changes; no condition.
-/
import Derived.Test.YtfholfmlkehfnaaDoorF2
import Derived.Test.YtfholfmlkehfnaaDoorHE3
namespace Go.Proofs.YtfholfmlkehfnaaDoor
open Go.RowKit

/-- A line of the table: the change, the state ahead, the state behind, how much the generation rises. -/
structure Ln where
  c : Int
  fs : Int
  ts : Int
  tg : Int
instance : Inhabited Ln := ⟨⟨0, 0, 0, 0⟩⟩
def lnC : List Ln := [⟨1, 0, 1, 0⟩, ⟨2, 1, 2, 0⟩, ⟨3, 2, 0, 1⟩, ⟨4, 1, 0, 1⟩, ⟨5, 1, 4, 0⟩, ⟨5, 2, 4, 0⟩, ⟨6, 0, 3, 0⟩, ⟨7, 3, 0, 0⟩]
def Ln.v (l : Ln) : List Value := [.int .u8 l.c, .int .u8 l.fs, .int .u64 0, .int .u8 l.ts, .int .u64 l.tg]
def linesC : Array Value := (lnC.flatMap Ln.v).toArray
/-- A change with the header behind it. -/
structure Hd where
  c : Int
  s : Int
  g : Int
def goes (s g most : Int) (l : Ln) : Bool := decide (l.fs = s) && hm l.ts (l.tg + g) most
def Ln.hd (g : Int) (l : Ln) : Hd := ⟨l.c, l.ts, l.tg + g⟩
/-- Those of the first k lines that may be done. -/
def nextN (s g most : Int) (k : Nat) : List Hd := ((lnC.take k).filter (goes s g most)).map (Ln.hd g)
def nextC (s g most : Int) : List Hd := nextN s g most 8
theorem lnC_at {k : Nat} (h : k < 8) : lnC[k]? = some (lnC.getD k default) := by
  rw [List.getD_eq_getElem?_getD, List.getElem?_eq_getElem (show k < lnC.length from h)]
  rfl
theorem nextN_succ (s g most : Int) {k : Nat} (h : k < 8) : nextN s g most (k + 1) = nextN s g most k ++ if goes s g most (lnC.getD k default) = true then [(lnC.getD k default).hd g] else [] := by
  unfold nextN
  rw [List.take_add_one, lnC_at h, List.filter_append, List.map_append]
  congr 1
  generalize lnC.getD k default = e
  by_cases hg : goes s g most e = true
  · rw [if_pos hg]
    simp [hg]
  · rw [if_neg hg]
    simp [hg]
theorem nextN_yes {s g most : Int} {k : Nat} (h : k < 8) (hg : goes s g most (lnC.getD k default) = true) : nextN s g most (k + 1) = nextN s g most k ++ [(lnC.getD k default).hd g] := by rw [nextN_succ s g most h, if_pos hg]
theorem nextN_no {s g most : Int} {k : Nat} (h : k < 8) (hg : goes s g most (lnC.getD k default) = false) : nextN s g most (k + 1) = nextN s g most k := by rw [nextN_succ s g most h, if_neg (by rw [hg]; decide), List.append_nil]
theorem nextN_pre (s g most : Int) : ∀ k, k ≤ 8 → ∃ r, nextN s g most k ++ r = nextC s g most := fun k hk => by
  refine ⟨((lnC.drop k).filter (goes s g most)).map (Ln.hd g), ?_⟩
  unfold nextC nextN
  rw [← List.map_append, ← List.filter_append, List.take_append_drop, show lnC.take 8 = lnC from rfl]
theorem nextN_lt {s g most : Int} {k : Nat} (h : k < 8) (hg : goes s g most (lnC.getD k default) = true) : (nextN s g most k).length < (nextC s g most).length := by
  obtain ⟨r, hr⟩ := nextN_pre s g most (k + 1) h
  rw [← hr, nextN_yes h hg, List.length_append, List.length_append]
  simp
  omega
theorem nextC_length (s g most : Int) : (nextC s g most).length ≤ 8 := by
  unfold nextC nextN
  rw [List.length_map]
  exact Nat.le_trans (List.length_filter_le _ _) (by decide)
/-- Out of a word. -/
def nextH (x most : Int) : List Hd := if mayH x most = true then nextC (sOf x) (gOf x) most else []

theorem hm_up (g most : Int) : hm 0 (1 + g) most = decide (g < most) := by
  unfold hm
  rw [decide_eq_decide]
  omega
theorem hm_stay {t g most : Int} (ht : t ≠ 4) (hg : g ≤ most) : hm t (0 + g) most = true := decide_eq_true (by omega)
theorem hm_end {g most : Int} : hm 4 (0 + g) most = decide (g = most) := by
  unfold hm
  rw [decide_eq_decide]
  omega
theorem next_done {s g most : Int} (h : HOk s g most) : nextC s g most = ([1, 2, 3, 4, 5, 6, 7] : List Int).filterMap fun c => (doneS s g c most).map fun p => ⟨c, p.1, p.2⟩ := by
  obtain ⟨s0, s4, g0, gm, hgo⟩ := h
  have st : ∀ t : Int, t ≠ 4 → hm t g most = true := fun t ht => by have := hm_stay ht gm; rwa [Int.zero_add] at this
  have e1 := st 1 (by decide)
  have e2 := st 2 (by decide)
  have e3 := st 3 (by decide)
  have e0 := st 0 (by decide)
  have e4 : hm 4 g most = decide (g = most) := by have := hm_end (g := g) (most := most); rwa [Int.zero_add] at this
  have e5 := hm_up g most
  have hcomm : 1 + g = g + 1 := by omega
  clear st
  unfold nextC nextN
  rw [show lnC.take 8 = lnC from rfl]
  have hs : s = 0 ∨ s = 1 ∨ s = 2 ∨ s = 3 ∨ s = 4 := by omega
  by_cases hlt : g < most
  · have hne : ¬ g = most := by omega
    rw [decide_eq_true hlt] at e5
    rw [decide_eq_false hne] at e4
    rcases hs with rfl | rfl | rfl | rfl | rfl <;> simp [lnC, goes, doneS, Ln.hd, e0, e1, e2, e3, e4, e5, hlt, hne] <;> exact hcomm
  · have heq : g = most := by omega
    subst heq
    rw [decide_eq_false hlt] at e5
    rw [decide_eq_true rfl] at e4
    rcases hs with rfl | rfl | rfl | rfl | rfl <;> simp [lnC, goes, doneS, Ln.hd, e0, e1, e2, e3, e4, e5]
section
variable {f : Int → Option (Int × Int)}
def told (f : Int → Option (Int × Int)) (l : List Int) : List Hd := l.filterMap fun c => (f c).map fun p => ⟨c, p.1, p.2⟩
theorem told_all (l : List Int) : (told f l).map (·.c) = l.filter fun c => (f c).isSome := by
  induction l with
  | nil => rfl
  | cons c l ih =>
    unfold told at *
    cases h : f c with
    | none => simp [h, ih]
    | some p => simp [h, ih]
theorem told_find (l : List Int) (p : Hd → Bool) : (told f l).find? p = (l.find? fun c => match f c with | some q => p ⟨c, q.1, q.2⟩ | none => false).bind fun c => (f c).map fun q => ⟨c, q.1, q.2⟩ := by
  induction l with
  | nil => rfl
  | cons c l ih =>
    unfold told at *
    cases h : f c with
    | none => simp [h, ih]
    | some q =>
      by_cases hp : p ⟨c, q.1, q.2⟩ = true
      · simp [h, hp]
      · simp [h, hp, ih]
end
theorem sOf_form {x most : Int} (h : mayH x most = true) : sOf x = x % 8 := by
  unfold mayH at h
  rw [decide_eq_true_eq] at h
  unfold sOf stS
  rw [if_neg (by omega)]
theorem nextH_form {x most : Int} (hx : U64 x) (h : mayH x most = true) : nextH x most = told (fun c => doneS (x % 8) (x / 8 % 4294967296) c most) [1, 2, 3, 4, 5, 6, 7] ∧ HOk (x % 8) (x / 8 % 4294967296) most := by
  have hf := (may_form hx h).1
  refine ⟨?_, hf⟩
  unfold nextH
  rw [if_pos h, sOf_form h]
  exact next_done hf
theorem nextH_no {x most : Int} (h : mayH x most = false) : nextH x most = [] := by
  unfold nextH
  rw [if_neg (by rw [h]; decide)]
theorem doneH_form {x most : Int} (h : mayH x most = true) (c : Int) : doneH x c most = (doneS (x % 8) (x / 8 % 4294967296) c most).map fun p => hw p.1 p.2 := by
  unfold doneH
  rw [if_pos h]
theorem next_all {x most : Int} (hx : U64 x) : (nextH x most).map (·.c) = allH x most := by
  cases h : mayH x most with
  | false =>
    rw [nextH_no h]
    unfold allH
    rw [List.filter_eq_nil_iff.2 (fun c _ => by rw [done_no h]; decide)]
    rfl
  | true =>
    rw [(nextH_form hx h).1, told_all]
    unfold allH
    congr 1
    funext c
    rw [doneH_form h]
    cases doneS (x % 8) (x / 8 % 4294967296) c most <;> rfl
theorem next_doneH {x c most : Int} (hx : U64 x) : ((nextH x most).find? fun y => decide (y.c = c)).map (fun y => hw y.s y.g) = doneH x c most := by
  cases h : mayH x most with
  | false =>
    rw [nextH_no h, done_no h]
    rfl
  | true =>
    rw [(nextH_form hx h).1, told_find, doneH_form h]
    by_cases hc : c ∈ ([1, 2, 3, 4, 5, 6, 7] : List Int)
    · cases hd : doneS (x % 8) (x / 8 % 4294967296) c most with
      | none =>
        have : (([1, 2, 3, 4, 5, 6, 7] : List Int).find? fun d => match doneS (x % 8) (x / 8 % 4294967296) d most with | some q => decide ((⟨d, q.1, q.2⟩ : Hd).c = c) | none => false) = none := by
          rw [List.find?_eq_none]
          intro d _ hp
          cases he : doneS (x % 8) (x / 8 % 4294967296) d most with
          | none => rw [he] at hp; cases hp
          | some q =>
            rw [he] at hp
            have hdc : d = c := by simpa using hp
            rw [hdc, hd] at he
            cases he
        rw [this]
        rfl
      | some p =>
        rcases hf : (([1, 2, 3, 4, 5, 6, 7] : List Int).find? fun d => match doneS (x % 8) (x / 8 % 4294967296) d most with | some q => decide ((⟨d, q.1, q.2⟩ : Hd).c = c) | none => false) with _ | d
        · exfalso
          have := List.find?_eq_none.1 hf c hc
          rw [hd] at this
          simp at this
        · have hp := List.find?_some hf
          cases he : doneS (x % 8) (x / 8 % 4294967296) d most with
          | none => rw [he] at hp; cases hp
          | some q =>
            rw [he] at hp
            have hdc : d = c := by simpa using hp
            rw [hdc, hd] at he
            cases he
            rw [hdc]
            simp [hd]
    · have hout : c < 1 ∨ 7 < c := by
        simp only [List.mem_cons, List.not_mem_nil, or_false] at hc
        omega
      rw [doneS_out hout]
      have : (([1, 2, 3, 4, 5, 6, 7] : List Int).find? fun d => match doneS (x % 8) (x / 8 % 4294967296) d most with | some q => decide ((⟨d, q.1, q.2⟩ : Hd).c = c) | none => false) = none := by
        rw [List.find?_eq_none]
        intro d hdm hp
        cases he : doneS (x % 8) (x / 8 % 4294967296) d most with
        | none => rw [he] at hp; cases hp
        | some q =>
          rw [he] at hp
          have hdc : d = c := by simpa using hp
          exact hc (hdc ▸ hdm)
      rw [this]
      rfl
theorem next_ofH {x to most : Int} (hx : U64 x) (ht : U64 to) (hm' : U32 most) (h2 : mayH to most = true) : (((nextH x most).find? fun y => decide (y.s = sOf to ∧ y.g = gOf to)).map (·.c)).getD 0 = ofH x to most := by
  obtain ⟨ho2, hto⟩ := may_form ht h2
  rw [sOf_form h2]
  cases h : mayH x most with
  | false =>
    rw [nextH_no h]
    unfold ofH
    have : (([1, 2, 3, 4, 5, 6, 7] : List Int).find? fun c => decide (doneH x c most = some to)) = none := by
      rw [List.find?_eq_none]
      intro d _ hp
      rw [done_no h] at hp
      simp at hp
    rw [this]
    rfl
  | true =>
    obtain ⟨e1, hf⟩ := nextH_form hx h
    rw [e1, told_find]
    unfold ofH
    have hpred : ∀ c, (match doneS (x % 8) (x / 8 % 4294967296) c most with | some q => decide ((⟨c, q.1, q.2⟩ : Hd).s = to % 8 ∧ (⟨c, q.1, q.2⟩ : Hd).g = gOf to) | none => false) = decide (doneH x c most = some to) := fun c => by
      rw [doneH_form h]
      cases hd : doneS (x % 8) (x / 8 % 4294967296) c most with
      | none => simp
      | some q =>
        obtain ⟨t, g⟩ := q
        have ho := (step_of hf hd).2
        simp only [Option.map_some, Option.some.injEq]
        rw [decide_eq_decide]
        constructor
        · rintro ⟨e1, e2⟩
          subst e1 e2
          exact hto.symm
        · intro e
          rw [hto] at e
          exact hw_inj ho ho2 hm' e
    rw [show (fun c => match doneS (x % 8) (x / 8 % 4294967296) c most with | some q => decide ((⟨c, q.1, q.2⟩ : Hd).s = to % 8 ∧ (⟨c, q.1, q.2⟩ : Hd).g = gOf to) | none => false) = fun c => decide (doneH x c most = some to) from funext hpred]
    rcases hq : (([1, 2, 3, 4, 5, 6, 7] : List Int).find? fun c => decide (doneH x c most = some to)) with _ | d
    · rfl
    · have hp := List.find?_some hq
      rw [decide_eq_true_eq, doneH_form h] at hp
      cases hd : doneS (x % 8) (x / 8 % 4294967296) d most with
      | none => rw [hd] at hp; cases hp
      | some q => simp [hd]
theorem of_none {x to most : Int} (hx : U64 x) (hm' : U32 most) (h2 : mayH to most = false) : ofH x to most = 0 := by
  unfold ofH
  have : (([1, 2, 3, 4, 5, 6, 7] : List Int).find? fun c => decide (doneH x c most = some to)) = none := by
    rw [List.find?_eq_none]
    intro c _ hp
    rw [decide_eq_true_eq] at hp
    cases h : mayH x most with
    | false => rw [done_no h] at hp; cases hp
    | true =>
      obtain ⟨hf, hxe⟩ := may_form hx h
      rw [hxe] at hp
      obtain ⟨t, k, rfl, _, ho⟩ := done_some hf hm' hp
      rw [may_hw ho hm'] at h2
      cases h2
  rw [this]
  rfl
end Go.Proofs.YtfholfmlkehfnaaDoor
