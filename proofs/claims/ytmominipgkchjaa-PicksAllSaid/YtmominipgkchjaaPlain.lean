/-
  The plain side of layer 4: who may go, who is picked, whose turn it is, the longest rest, fairness, and what follows; no program is named here; no condition.
-/
namespace Go.Proofs.Ytmominipgkchjaa

/-- Those that may go, of the first k. -/
def goN (l : List Bool) (k : Nat) : List Nat := (List.range k).filter fun i => l.getD i false
theorem goN_zero (l : List Bool) : goN l 0 = [] := rfl
theorem goN_succ (l : List Bool) (k : Nat) : goN l (k + 1) = goN l k ++ if l.getD k false = true then [k] else [] := by
  unfold goN
  rw [List.range_succ, List.filter_append, List.filter_cons, List.filter_nil]
theorem goN_yes {l : List Bool} {k : Nat} (h : l.getD k false = true) : goN l (k + 1) = goN l k ++ [k] := by rw [goN_succ, if_pos h]
theorem goN_no {l : List Bool} {k : Nat} (h : l.getD k false = false) : goN l (k + 1) = goN l k := by rw [goN_succ, if_neg (by rw [h]; simp), List.append_nil]
/-- Those that may go. -/
def goers (l : List Bool) : List Nat := goN l l.length
theorem goN_mem {l : List Bool} {k x : Nat} : x ∈ goN l k ↔ x < k ∧ l.getD x false = true := by simp [goN]
theorem goers_mem {l : List Bool} {x : Nat} : x ∈ goers l ↔ x < l.length ∧ l.getD x false = true := goN_mem
theorem goN_length (l : List Bool) (k : Nat) : (goN l k).length ≤ k := by
  have h := List.length_filter_le (fun i => l.getD i false) (List.range k)
  rw [List.length_range] at h
  exact h
theorem goers_length (l : List Bool) : (goers l).length ≤ l.length := goN_length l _
theorem goN_sorted (l : List Bool) (k : Nat) : (goN l k).Pairwise (· < ·) := List.Pairwise.filter _ List.pairwise_lt_range
theorem goers_sorted (l : List Bool) : (goers l).Pairwise (· < ·) := goN_sorted l _
theorem goN_prefix (l : List Bool) (i : Nat) : ∀ k, i ≤ k → ∃ r, goN l k = goN l i ++ r := by
  intro k
  induction k with
  | zero => exact fun h => ⟨[], by obtain rfl : i = 0 := by omega
                                   rw [List.append_nil]⟩
  | succ k ih =>
    intro h
    rcases Nat.lt_or_ge k i with hk | hk
    · obtain rfl : i = k + 1 := by omega
      exact ⟨[], by rw [List.append_nil]⟩
    · obtain ⟨r, hr⟩ := ih hk
      rw [goN_succ, hr]
      exact ⟨_, List.append_assoc ..⟩
/-- The one that may go at place i stands behind those before it. -/
theorem goers_at {l : List Bool} {i : Nat} (h : l.getD i false = true) (hi : i < l.length) : (goers l)[(goN l i).length]? = some i := by
  obtain ⟨r, hr⟩ := goN_prefix l (i + 1) l.length (by omega)
  rw [goN_yes h] at hr
  unfold goers
  rw [hr, List.append_assoc, List.getElem?_append_right (Nat.le_refl _), Nat.sub_self]
  rfl
/-- Those that may go, at a place. -/
def goAt (l : List Bool) (i : Nat) : Nat := (goers l).getD i 0
theorem goAt_some {l : List Bool} {i : Nat} (h : i < (goers l).length) : (goers l)[i]? = some (goAt l i) := by
  unfold goAt
  rw [List.getD_eq_getElem?_getD, List.getElem?_eq_getElem h]
  rfl
theorem goAt_mem {l : List Bool} {i : Nat} (h : i < (goers l).length) : goAt l i < l.length ∧ l.getD (goAt l i) false = true :=
  goers_mem.1 (List.mem_of_getElem? (goAt_some h))
theorem goAt_lt {l : List Bool} {i j : Nat} (h : i < j) (hj : j < (goers l).length) : goAt l i < goAt l j := by
  have h1 := goAt_some (l := l) (i := i) (by omega)
  have h2 := goAt_some (l := l) hj
  obtain ⟨p1, e1⟩ := List.getElem?_eq_some_iff.1 h1
  obtain ⟨p2, e2⟩ := List.getElem?_eq_some_iff.1 h2
  have h := List.pairwise_iff_getElem.1 (goers_sorted l) i j p1 p2 h
  rw [e1, e2] at h
  exact h
theorem goAt_inj {l : List Bool} {i j : Nat} (hi : i < (goers l).length) (hj : j < (goers l).length) (h : goAt l i = goAt l j) : i = j := by
  rcases Nat.lt_trichotomy i j with hlt | he | hlt
  · have := goAt_lt hlt hj
    omega
  · exact he
  · have := goAt_lt hlt hi
    omega
theorem goAt_of {l : List Bool} {x : Nat} (h : x < l.length) (hx : l.getD x false = true) : ∃ t, t < (goers l).length ∧ goAt l t = x := by
  have hg := goers_at hx h
  obtain ⟨ht, _⟩ := List.getElem?_eq_some_iff.1 hg
  refine ⟨_, ht, ?_⟩
  have h2 := goAt_some ht
  rw [hg] at h2
  exact (Option.some.inj h2).symm

/-- P4.1. -/
def pickC (n : Int) (l : List Bool) : Int := if (goers l).length = 0 then -1 else (goAt l (n.toNat % (goers l).length) : Int)
/-- The first one behind last, of those from place i on. -/
def isBehind (last : Int) (l : List Bool) (i : Nat) : Bool := decide ((goAt l i : Int) > last ∨ last ≥ (l.length : Int))
/-- P4.2: the place of whose turn it is. -/
def turnAt (last : Int) (l : List Bool) : Nat := ((List.range (goers l).length).find? (isBehind last l)).getD 0
def turnC (last : Int) (l : List Bool) : Int := if (goers l).length = 0 then -1 else (goAt l (turnAt last l) : Int)
theorem turnAt_first {last : Int} {l : List Bool} {i : Nat} (hi : i < (goers l).length) (h : isBehind last l i = true) (hb : ∀ j, j < i → isBehind last l j = false) : turnAt last l = i := by
  unfold turnAt
  have e : (List.range (goers l).length).find? (isBehind last l) = some i := by
    rw [List.find?_range_eq_some]
    exact ⟨h, List.mem_range.2 hi, fun j hj => by rw [hb j hj]; rfl⟩
  rw [e]
  rfl
theorem turnAt_none {last : Int} {l : List Bool} (hb : ∀ j, j < (goers l).length → isBehind last l j = false) : turnAt last l = 0 := by
  unfold turnAt
  have e : (List.range (goers l).length).find? (isBehind last l) = none := by
    rw [List.find?_range_eq_none]
    exact fun j hj => by rw [hb j hj]; rfl
  rw [e]
  rfl
theorem turnAt_lt {last : Int} {l : List Bool} (h : 0 < (goers l).length) : turnAt last l < (goers l).length := by
  unfold turnAt
  cases e : (List.range (goers l).length).find? (isBehind last l) with
  | none => exact h
  | some i => exact List.mem_range.1 (List.mem_of_find?_eq_some e)
/-- The next one behind one that may go. -/
theorem turnAt_next {l : List Bool} {t : Nat} (h : t < (goers l).length) : turnAt (goAt l t : Int) l = (t + 1) % (goers l).length := by
  have hl := (goAt_mem h).1
  have hno : ∀ j, j ≤ t → isBehind (goAt l t : Int) l j = false := fun j hj => by
    unfold isBehind
    rw [decide_eq_false_iff_not]
    rcases Nat.lt_or_ge j t with hjt | hjt
    · have := goAt_lt hjt h
      omega
    · obtain rfl : j = t := by omega
      omega
  rcases Nat.lt_or_ge (t + 1) (goers l).length with hlt | hge
  · rw [Nat.mod_eq_of_lt hlt]
    refine turnAt_first hlt ?_ fun j hj => hno j (by omega)
    unfold isBehind
    rw [decide_eq_true_eq]
    have := goAt_lt (show t < t + 1 by omega) hlt
    omega
  · obtain e : t + 1 = (goers l).length := by omega
    rw [e, Nat.mod_self]
    exact turnAt_none fun j hj => hno j (by omega)

/-- How many others stand from a place on. -/
def distC (ps : List Int) (n : Int) (i : Nat) : Nat := ((ps.drop i).takeWhile fun x => decide (x ≠ n)).length
def restN (ps : List Int) (n : Int) (k : Nat) : Nat := (List.range k).foldl (fun m i => max m (distC ps n i)) 0
theorem restN_zero (ps : List Int) (n : Int) : restN ps n 0 = 0 := rfl
theorem restN_succ (ps : List Int) (n : Int) (k : Nat) : restN ps n (k + 1) = max (restN ps n k) (distC ps n k) := by
  unfold restN
  rw [List.range_succ, List.foldl_append]
  rfl
/-- P4.3. -/
def restC (ps : List Int) (n : Int) : Nat := restN ps n ps.length
def fairC (ps : List Int) (who : List Bool) (within : Int) : Bool := (List.range who.length).all fun i => !(who.getD i false) || decide ((restC ps (i : Int) : Int) < within)
theorem dist_le (ps : List Int) (n : Int) (i : Nat) : distC ps n i ≤ ps.length - i := by
  have h := (List.takeWhile_prefix (fun x => decide (x ≠ n)) (l := ps.drop i)).length_le
  rw [List.length_drop] at h
  exact h
theorem dist_at (ps : List Int) (n : Int) (i : Nat) : (∀ k, i ≤ k → k < i + distC ps n i → ps.getD k n ≠ n) ∧ (i + distC ps n i < ps.length → ps.getD (i + distC ps n i) n = n) := by
  unfold distC
  generalize hd : ps.drop i = d
  have hget : ∀ j, d[j]? = ps[i + j]? := fun j => by rw [← hd, List.getElem?_drop]
  have key : ∀ (d : List Int), (∀ j, j < (d.takeWhile fun x => decide (x ≠ n)).length → d.getD j n ≠ n) ∧ ((d.takeWhile fun x => decide (x ≠ n)).length < d.length → d.getD (d.takeWhile fun x => decide (x ≠ n)).length n = n) := by
    intro d
    induction d with
    | nil => exact ⟨fun j hj => by simp at hj, fun h => by simp at h⟩
    | cons x r ih =>
      by_cases hx : x = n
      · have e : ((x :: r).takeWhile fun x => decide (x ≠ n)) = [] := by simp [hx]
        rw [e]
        exact ⟨fun j hj => by simp at hj, fun _ => by simp [hx]⟩
      · have e : ((x :: r).takeWhile fun x => decide (x ≠ n)) = x :: (r.takeWhile fun x => decide (x ≠ n)) := by simp [hx]
        rw [e]
        refine ⟨fun j hj => ?_, fun h => ?_⟩
        · cases j with
          | zero => simpa using hx
          | succ j =>
            have := ih.1 j (by simpa using hj)
            simpa using this
        · have := ih.2 (by simpa using h)
          simpa using this
  have hk := key d
  have hl : d.length = ps.length - i := by rw [← hd, List.length_drop]
  refine ⟨fun k h1 h2 => ?_, fun h => ?_⟩
  · have h := hk.1 (k - i) (by omega)
    rw [List.getD_eq_getElem?_getD, hget, show i + (k - i) = k by omega, ← List.getD_eq_getElem?_getD] at h
    exact h
  · have h := hk.2 (by omega)
    rw [List.getD_eq_getElem?_getD, hget, ← List.getD_eq_getElem?_getD] at h
    exact h
theorem restN_le (ps : List Int) (n : Int) (k w : Nat) : restN ps n k ≤ w ↔ ∀ i, i < k → distC ps n i ≤ w := by
  induction k with
  | zero => exact ⟨fun _ i h => by omega, fun _ => by rw [restN_zero]; exact Nat.zero_le _⟩
  | succ k ih =>
    rw [restN_succ, Nat.max_le, ih]
    refine ⟨fun h i hi => ?_, fun h => ⟨fun i hi => h i (by omega), h k (by omega)⟩⟩
    rcases Nat.lt_or_ge i k with h1 | h1
    · exact h.1 i h1
    · obtain rfl : i = k := by omega
      exact h.2
theorem rest_le (ps : List Int) (n : Int) : restC ps n ≤ ps.length := (restN_le ps n _ _).2 fun i _ => by
  have := dist_le ps n i
  omega
/-- A run of w picks has that number. -/
def inRun (ps : List Int) (n : Int) (i w : Nat) : Prop := ∃ k, i ≤ k ∧ k < i + w ∧ ps.getD k (n + 1) = n
theorem getD_other (ps : List Int) (n : Int) (k : Nat) (h : k < ps.length) : ps.getD k n = ps.getD k (n + 1) := by
  simp [List.getD_eq_getElem?_getD, List.getElem?_eq_getElem h]
/-- The longest rest is below w just if each run of w picks has that number. -/
theorem rest_run (ps : List Int) (n : Int) (w : Nat) : restC ps n < w ↔ 0 < w ∧ ∀ i, i + w ≤ ps.length → inRun ps n i w := by
  constructor
  · intro h
    refine ⟨by omega, fun i hi => ?_⟩
    have hd : distC ps n i < w := by
      rcases Nat.lt_or_ge i ps.length with hlt | hge
      · have := (restN_le ps n ps.length (restC ps n)).1 (Nat.le_refl _) i hlt
        omega
      · have := dist_le ps n i
        omega
    have ha := (dist_at ps n i).2 (by omega)
    refine ⟨i + distC ps n i, by omega, by omega, ?_⟩
    rw [← getD_other ps n _ (by omega)]
    exact ha
  · rintro ⟨hw, h⟩
    refine Nat.lt_of_le_of_lt ((restN_le ps n _ (w - 1)).2 fun i hi => ?_) (show w - 1 < w by omega)
    refine Nat.le_of_not_lt fun hlt => ?_
    have hd := dist_le ps n i
    obtain ⟨k, h1, h2, h3⟩ := h i (by omega)
    rw [← getD_other ps n k (by omega)] at h3
    exact (dist_at ps n i).1 k h1 (by omega) h3
theorem fair_iff (ps : List Int) (who : List Bool) (within : Int) : fairC ps who within = true ↔ ∀ i, i < who.length → who.getD i false = true → (restC ps (i : Int) : Int) < within := by
  unfold fairC
  rw [List.all_eq_true]
  constructor
  · intro h i hi hw
    have := h i (List.mem_range.2 hi)
    rw [hw] at this
    simpa using this
  · intro h i hi
    by_cases hw : who.getD i false = true
    · rw [hw]
      simpa using h i (List.mem_range.1 hi) hw
    · rw [Bool.not_eq_true] at hw
      rw [hw]
      rfl

/-- The picks of m turns, one behind the other, from place s on. -/
def turnsC (l : List Bool) (s m : Nat) : List Int := (List.range m).map fun i => (goAt l ((s + i) % (goers l).length) : Int)
theorem turnsC_length (l : List Bool) (s m : Nat) : (turnsC l s m).length = m := by simp [turnsC]
theorem turnsC_succ (l : List Bool) (s m : Nat) : turnsC l s (m + 1) = turnsC l s m ++ [(goAt l ((s + m) % (goers l).length) : Int)] := by
  unfold turnsC
  rw [List.range_succ, List.map_append]
  rfl
theorem turnsC_at {l : List Bool} {s m k : Nat} (h : k < m) : (turnsC l s m)[k]? = some (goAt l ((s + k) % (goers l).length) : Int) := by simp [turnsC, h]
theorem turnsC_getD {l : List Bool} {s m k : Nat} (d : Int) (h : k < m) : (turnsC l s m).getD k d = (goAt l ((s + k) % (goers l).length) : Int) := by
  rw [List.getD_eq_getElem?_getD, turnsC_at h]
  rfl
theorem mod_far {a b n : Nat} (h : a < b) (hb : b < a + n) : a % n ≠ b % n := by
  intro e
  have h1 : (b - a) % n = 0 := by
    have := Nat.sub_mod_eq_zero_of_mod_eq e.symm
    exact this
  rw [Nat.mod_eq_of_lt (by omega)] at h1
  omega
/-- Two picks that are nearer than all that may go are unlike. -/
theorem turns_unlike {l : List Bool} {s i k : Nat} (hn : 0 < (goers l).length) (h : k < i) (hi : i < k + (goers l).length) : goAt l ((s + k) % (goers l).length) ≠ goAt l ((s + i) % (goers l).length) := fun e =>
  mod_far (show s + k < s + i by omega) (by omega) (goAt_inj (Nat.mod_lt _ hn) (Nat.mod_lt _ hn) e)
theorem turns_again {l : List Bool} {s i : Nat} (h : (goers l).length ≤ i) : (s + (i - (goers l).length)) % (goers l).length = (s + i) % (goers l).length := by
  rw [show s + i = s + (i - (goers l).length) + (goers l).length by omega, Nat.add_mod_right]
/-- In each run of as many as may go each of them stands. -/
theorem turns_run {l : List Bool} {s m t i : Nat} (hn : 0 < (goers l).length) (ht : t < (goers l).length) (hi : i + (goers l).length ≤ m) : inRun (turnsC l s m) (goAt l t : Int) i (goers l).length := by
  refine ⟨i + (t + (goers l).length - (s + i) % (goers l).length) % (goers l).length, by omega, by have := Nat.mod_lt (t + (goers l).length - (s + i) % (goers l).length) hn; omega, ?_⟩
  have hlt := Nat.mod_lt (t + (goers l).length - (s + i) % (goers l).length) hn
  rw [turnsC_getD _ (by omega)]
  congr 2
  have h1 := Nat.mod_lt (s + i) hn
  rw [← Nat.add_assoc, Nat.add_mod, Nat.mod_mod, ← Nat.add_mod_mod, Nat.add_comm ((s + i) % _)]
  have h2 : (t + (goers l).length - (s + i) % (goers l).length) % (goers l).length + (s + i) % (goers l).length = (t + (goers l).length - (s + i) % (goers l).length) % (goers l).length + (s + i) % (goers l).length := rfl
  rw [Nat.mod_mod, Nat.mod_add_mod, Nat.sub_add_cancel (by omega), Nat.add_mod_right, Nat.mod_eq_of_lt ht]
theorem turns_fair {l : List Bool} {s m : Nat} (hn : 0 < (goers l).length) : fairC (turnsC l s m) l ((goers l).length : Int) = true := by
  rw [fair_iff]
  intro x hx hw
  obtain ⟨t, ht, rfl⟩ := goAt_of hx hw
  have h := (rest_run (turnsC l s m) (goAt l t : Int) (goers l).length).2 ⟨hn, fun i hi => turns_run hn ht (by rw [turnsC_length] at hi; exact hi)⟩
  omega
theorem turns_unfair {l : List Bool} {s m : Nat} (hn : 0 < (goers l).length) (hm : (goers l).length ≤ m) : fairC (turnsC l s m) l (((goers l).length : Int) - 1) = false := by
  rw [Bool.eq_false_iff]
  intro h
  rw [fair_iff] at h
  have hlt := Nat.mod_lt (s + ((goers l).length - 1)) hn
  obtain ⟨h1, h2⟩ := goAt_mem hlt
  have h3 := h _ h1 h2
  have h4 : restC (turnsC l s m) (goAt l ((s + ((goers l).length - 1)) % (goers l).length) : Int) < (goers l).length - 1 := by omega
  obtain ⟨h5, h6⟩ := (rest_run _ _ _).1 h4
  obtain ⟨k, h7, h8, h9⟩ := h6 0 (by rw [turnsC_length]; omega)
  rw [turnsC_getD _ (by omega)] at h9
  exact turns_unlike (s := s) hn (show k < (goers l).length - 1 by omega) (by omega) (by omega)
end Go.Proofs.Ytmominipgkchjaa
