/-
  The plain side of layer 5: headers by state and generation, their changes, a header's past, and what follows; no program is named here; no condition.
-/
import Derived.Test.YtfholfmlkehfnaaDoorSpec
namespace Go.Proofs.YtfholfmlkehfnaaDoor

/-- A header, by state and generation. -/
def hw (s g : Int) : Int := s + 8 * g
/-- May it be? -/
structure HOk (s g most : Int) : Prop where
  s0 : 0 ≤ s
  s4 : s ≤ 4
  g0 : 0 ≤ g
  gm : g ≤ most
  gone : s = 4 → g = most
theorem fld_s (w : Int) : fld w 0 3 = w % 8 := by unfold fld; rw [show (2 : Int) ^ 0 = 1 by decide, show (2 : Int) ^ 3 = 8 by decide]; omega
theorem fld_g (w : Int) : fld w 3 32 = w / 8 % 4294967296 := by unfold fld; rw [show (2 : Int) ^ 3 = 8 by decide, show (2 : Int) ^ 32 = 4294967296 by decide]
theorem fld_up (w : Int) : fld w 35 29 = w / 34359738368 % 536870912 := by unfold fld; rw [show (2 : Int) ^ 35 = 34359738368 by decide, show (2 : Int) ^ 29 = 536870912 by decide]
theorem headerW_hw {s g : Int} (h0 : 0 ≤ s) (h4 : s ≤ 4) (hg : U32 g) : headerW s g = hw s g := by
  have hg' := hg
  unfold U32 at hg'
  unfold headerW hw pw
  rw [show stS s = s by unfold stS; rw [if_neg (by omega)], show (2 : Int) ^ 0 = 1 by decide, show (2 : Int) ^ 3 = 8 by decide, show (2 : Int) ^ 32 = 4294967296 by decide]
  omega
def mayH (w most : Int) : Bool := decide (w % 8 ≤ 4 ∧ w / 34359738368 = 0 ∧ w / 8 % 4294967296 ≤ most ∧ (w % 8 = 4 → w / 8 % 4294967296 = most))
theorem hw_s {s g most : Int} (h : HOk s g most) : hw s g % 8 = s := by
  have := h.s0
  have := h.s4
  unfold hw
  omega
theorem hw_g {s g most : Int} (h : HOk s g most) (hm : U32 most) : hw s g / 8 % 4294967296 = g := by
  have := h.s0
  have := h.s4
  have := h.g0
  have := h.gm
  unfold U32 at hm
  unfold hw
  omega
theorem hw_u64 {s g most : Int} (h : HOk s g most) (hm : U32 most) : U64 (hw s g) := by
  have := h.s0
  have := h.s4
  have := h.g0
  have := h.gm
  unfold U32 at hm
  unfold hw U64
  omega
theorem may_hw {s g most : Int} (h : HOk s g most) (hm : U32 most) : mayH (hw s g) most = true := by
  unfold mayH
  rw [decide_eq_true_eq, hw_s h, hw_g h hm]
  have h1 := h.s0
  have h2 := h.s4
  have h3 := h.g0
  have h4 := h.gm
  unfold U32 at hm
  refine ⟨h2, ?_, h4, h.gone⟩
  unfold hw
  omega
theorem may_form {w most : Int} (hw0 : U64 w) (h : mayH w most = true) : HOk (w % 8) (w / 8 % 4294967296) most ∧ w = hw (w % 8) (w / 8 % 4294967296) := by
  unfold mayH at h
  rw [decide_eq_true_eq] at h
  obtain ⟨h1, h2, h3, h4⟩ := h
  unfold U64 at hw0
  refine ⟨⟨by omega, h1, by omega, h3, h4⟩, ?_⟩
  unfold hw
  omega
/-- What is behind a change, by state and generation. -/
def doneS (s g c most : Int) : Option (Int × Int) :=
  if c = 1 then (if s = 0 then some (1, g) else none)
  else if c = 2 then (if s = 1 then some (2, g) else none)
  else if c = 3 then (if s = 2 ∧ g < most then some (0, g + 1) else none)
  else if c = 4 then (if s = 1 ∧ g < most then some (0, g + 1) else none)
  else if c = 5 then (if (s = 1 ∨ s = 2) ∧ g = most then some (4, g) else none)
  else if c = 6 then (if s = 0 then some (3, g) else none)
  else if c = 7 then (if s = 3 then some (0, g) else none)
  else none
/-- What a change that may be done tells. -/
structure Step (s g c most t h : Int) : Prop where
  c1 : 1 ≤ c
  c7 : c ≤ 7
  alive : s ≠ 4
  up : h = g + (if c = 3 ∨ c = 4 then 1 else 0)
  hm : h ≤ most
  gone : t = 4 ↔ c = 5
  live : t = 1 → s = 0 ∧ h = g
  moved : t ≠ s
  free : t = 0 → h = g → s = 3
  parked : t = 3 → s = 0 ∧ h = g
theorem step_of {s g c most t h : Int} (ho : HOk s g most) (e : doneS s g c most = some (t, h)) : Step s g c most t h ∧ HOk t h most := by
  obtain ⟨s0, s4, g0, gm, hgo⟩ := ho
  unfold doneS at e
  repeat' split at e
  all_goals (first | (cases e; done) | skip)
  all_goals
    simp only [Option.some.injEq, Prod.mk.injEq] at e
    obtain ⟨rfl, rfl⟩ := e
    refine ⟨⟨by omega, by omega, by omega, ?_, by omega, by omega, by omega, by omega, by omega, by omega⟩, ⟨by omega, by omega, by omega, by omega, by omega⟩⟩
    split <;> omega
/-- The change, by the states. -/
def chOf (s t : Int) : Int := if s = 0 then (if t = 1 then 1 else 6) else if s = 1 then (if t = 2 then 2 else if t = 0 then 4 else 5) else if s = 2 then (if t = 0 then 3 else 5) else 7
theorem done_ch {s g c most t h : Int} (e : doneS s g c most = some (t, h)) : c = chOf s t := by
  unfold doneS at e
  repeat' split at e
  all_goals (first | (cases e; done) | skip)
  all_goals
    simp only [Option.some.injEq, Prod.mk.injEq] at e
    obtain ⟨rfl, rfl⟩ := e
    unfold chOf
    repeat' split
    all_goals omega
theorem done_inj {s g c d most : Int} {p : Int × Int} (h1 : doneS s g c most = some p) (h2 : doneS s g d most = some p) : c = d := by
  obtain ⟨t, h⟩ := p
  rw [done_ch h1, done_ch h2]
def doneH (w c most : Int) : Option Int := if mayH w most = true then (doneS (w % 8) (w / 8 % 4294967296) c most).map (fun p => hw p.1 p.2) else none
theorem done_hw {s g c most : Int} (h : HOk s g most) (hm : U32 most) : doneH (hw s g) c most = (doneS s g c most).map (fun p => hw p.1 p.2) := by
  unfold doneH
  rw [if_pos (may_hw h hm), hw_s h, hw_g h hm]
theorem done_no {w c most : Int} (h : mayH w most = false) : doneH w c most = none := by
  unfold doneH
  rw [if_neg (by rw [h]; simp)]
theorem hw_inj {s g t h most : Int} (h1 : HOk s g most) (h2 : HOk t h most) (hm : U32 most) (e : hw s g = hw t h) : s = t ∧ g = h := by
  have a := hw_s h1
  have b := hw_g h1 hm
  rw [e] at a b
  exact ⟨a.symm.trans (hw_s h2), b.symm.trans (hw_g h2 hm)⟩
/-- The change from a header to another one: the first that leads there. -/
def ofH (w to most : Int) : Int := (([1, 2, 3, 4, 5, 6, 7] : List Int).find? fun c => decide (doneH w c most = some to)).getD 0
theorem done_some {s g c most : Int} {w : Int} (h : HOk s g most) (hm : U32 most) (e : doneH (hw s g) c most = some w) : ∃ t k, w = hw t k ∧ doneS s g c most = some (t, k) ∧ HOk t k most := by
  rw [done_hw h hm] at e
  cases hd : doneS s g c most with
  | none => rw [hd] at e; cases e
  | some p =>
    obtain ⟨t, k⟩ := p
    rw [hd] at e
    exact ⟨t, k, (Option.some.inj e).symm, rfl, (step_of h hd).2⟩
theorem doneH_inj {s g c d most : Int} {w : Int} (h : HOk s g most) (hm : U32 most) (h1 : doneH (hw s g) c most = some w) (h2 : doneH (hw s g) d most = some w) : c = d := by
  obtain ⟨t, k, e1, d1, o1⟩ := done_some h hm h1
  obtain ⟨t2, k2, e2, d2, o2⟩ := done_some h hm h2
  obtain ⟨rfl, rfl⟩ := hw_inj o1 o2 hm (e1.symm.trans e2)
  exact done_inj d1 d2
theorem of_done {s g c most : Int} {w : Int} (h : HOk s g most) (hm : U32 most) (hd : doneH (hw s g) c most = some w) : ofH (hw s g) w most = c := by
  obtain ⟨t, k, _, d1, _⟩ := done_some h hm hd
  have hs := (step_of h d1).1
  unfold ofH
  have key : (([1, 2, 3, 4, 5, 6, 7] : List Int).find? fun c => decide (doneH (hw s g) c most = some w)) = some c := by
    rcases hf : (([1, 2, 3, 4, 5, 6, 7] : List Int).find? fun c => decide (doneH (hw s g) c most = some w)) with _ | d
    · exfalso
      have hc : c ∈ ([1, 2, 3, 4, 5, 6, 7] : List Int) := by
        have h1 := hs.c1
        have h7 := hs.c7
        simp only [List.mem_cons, List.not_mem_nil, or_false]
        omega
      have := List.find?_eq_none.1 hf c hc
      simp [hd] at this
    · have h2 := List.find?_some hf
      rw [decide_eq_true_eq] at h2
      rw [doneH_inj h hm h2 hd]
  rw [key]
  rfl
theorem of_self {s g most : Int} (h : HOk s g most) (hm : U32 most) : ofH (hw s g) (hw s g) most = 0 := by
  unfold ofH
  have key : (([1, 2, 3, 4, 5, 6, 7] : List Int).find? fun c => decide (doneH (hw s g) c most = some (hw s g))) = none := by
    rw [List.find?_eq_none]
    intro c _ hc
    rw [decide_eq_true_eq] at hc
    obtain ⟨t, k, e, d, o⟩ := done_some h hm hc
    obtain ⟨rfl, rfl⟩ := hw_inj h o hm e
    exact (step_of h d).1.moved rfl
  rw [key]
  rfl
/-- May the header at place i be, behind the one ahead of it? -/
def okAt (l : List Int) (most : Int) (i : Nat) : Bool := if i = 0 then mayH (l.getD 0 0) most else decide (ofH (l.getD (i - 1) 0) (l.getD i 0) most ≠ 0)
def pastH (l : List Int) (most : Int) : Nat := ((List.range l.length).find? fun i => !okAt l most i).getD l.length
theorem past_first {l : List Int} {most : Int} {i : Nat} (hi : i < l.length) (h : okAt l most i = false) (hb : ∀ j, j < i → okAt l most j = true) : pastH l most = i := by
  unfold pastH
  have e : ((List.range l.length).find? fun i => !okAt l most i) = some i := by
    rw [List.find?_range_eq_some]
    exact ⟨by rw [h]; rfl, List.mem_range.2 hi, fun j hj => by rw [hb j hj]; rfl⟩
  rw [e]
  rfl
theorem past_all {l : List Int} {most : Int} (hb : ∀ j, j < l.length → okAt l most j = true) : pastH l most = l.length := by
  unfold pastH
  have e : ((List.range l.length).find? fun i => !okAt l most i) = none := by
    rw [List.find?_range_eq_none]
    exact fun j hj => by rw [hb j hj]; rfl
  rw [e]
  rfl
end Go.Proofs.YtfholfmlkehfnaaDoor
