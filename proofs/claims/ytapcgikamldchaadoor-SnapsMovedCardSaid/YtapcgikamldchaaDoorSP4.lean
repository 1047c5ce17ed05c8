/-
  A snapshot of which one word changes meanwhile, in plain words; no condition.
-/
import Derived.Test.YtapcgikamldchaaDoorSM2
namespace Go.Proofs.YtapcgikamldchaaDoor
open Go.RowKit Go.Maps

/-- A word is stored while a taker is under way. -/
theorem TA.store {W w : World} {p b q k : Nat} {P : List Nat} {R : Nat → Ad → Int} {V : Ad → Int} {t0 : Int} {s : SG} (h : TA W p b q k P R V t0 s w) (hs : t0 + k < 1000000) {x : Ad} {c a f v : Int} (hx : x.k = c ∧ x.a = a ∧ x.f = f) (hv : U64 v) :
    Calls Tryd.prog 25 #[.pointer (some ⟨p, 0, none⟩), .agg #[.int .u8 c, .int .i64 a, .int .i64 f], .int .u64 v] w fun e w' => e = .returned (.tuple #[]) ∧ TA W p b q k P R (setV V x v) (t0 + 1) s w' := by
  obtain ⟨M, rfl, h2, h3⟩ := h.mem
  refine (h3.stA (by omega) hx hv).mono ?_
  rintro e w' ⟨rfl, F, o⟩
  refine ⟨rfl, ⟨stM M x v, rfl, by show M.s.st + 1 = _; omega, F⟩, h.low.trans (.of_only o), h.w0, h.prg.same fun y hy => ?_, h.lowP, h.inv, h.run⟩
  obtain ⟨t, cs, kz, ht⟩ := h.prg.own y hy
  obtain ⟨n1, n2⟩ := h3.ne (by rintro rfl; revert ht; decide) kz
  exact o.block y kz.lt n1 n2
/-- The words at each step: those of V ahead of step h, those of V' from it on. -/
def movR (V V' : Ad → Int) (h : Nat) (k : Nat) : Ad → Int := if h ≤ k then V' else V
section
variable {V : Ad → Int} {xs : List TH} {bk w : Int} {n i who fi h : Nat}
/-- Threads that are all owned, laid; one word of one of them is another one. -/
structure Mov (V : Ad → Int) (xs : List TH) (bk w : Int) (n who fi h : Nat) : Prop where
  lay : LayN (fun _ => 0) V xs bk n 0
  len : n = xs.length
  n0 : 1 ≤ n
  n9 : n ≤ 16
  bk4 : 0 ≤ bk ∧ bk ≤ 4
  bkn : 4 * bk < n + 4 ∧ (n : Int) ≤ 4 * bk
  own : ∀ i, i < n → (xs.getD i TH.zero).o ≠ 0
  who9 : who < n
  fi9 : 1 ≤ fi ∧ fi < 10
  h9 : h < 1 + 10 * n
theorem Mov.at (m : Mov V xs bk w n who fi h) {i f : Nat} (hi : i < n) (hf : f < 10) : V (adT (i : Int) (f : Int)) = (xs.getD i TH.zero).get f := by
  have := m.n9
  rw [m.lay.2 i f (by omega) hf, if_pos (.inl hi)]
theorem Mov.at' (m : Mov V xs bk w n who fi h) {i f : Nat} (hi : i < n) (hf : f < 10) : setV V (adT (who : Int) (fi : Int)) w (adT (i : Int) (f : Int)) = if i = who ∧ f = fi then w else (xs.getD i TH.zero).get f := by
  have h1 := m.n9
  have h2 := m.who9
  have h3 := m.fi9
  by_cases e : i = who ∧ f = fi
  · obtain ⟨rfl, rfl⟩ := e
    rw [setV_same (mayT (by omega) (by omega)), if_pos ⟨rfl, rfl⟩]
  · rw [setV_other (neTT (by omega) (by omega) (by omega) (by omega) (by omega)), m.at hi hf, if_neg e]
theorem Mov.word (m : Mov V xs bk w n who fi h) {i f : Nat} (k : Nat) (hi : i < n) (hf : f < 10) : movR V (setV V (adT (who : Int) (fi : Int)) w) h k (adT (i : Int) (f : Int)) = if h ≤ k ∧ i = who ∧ f = fi then w else (xs.getD i TH.zero).get f := by
  unfold movR
  by_cases hk : h ≤ k
  · rw [if_pos hk, m.at' hi hf]
    by_cases e : i = who ∧ f = fi
    · rw [if_pos e, if_pos ⟨hk, e⟩]
    · rw [if_neg e, if_neg (fun k => e k.2)]
  · rw [if_neg hk, m.at hi hf, if_neg (fun k => hk k.1)]
theorem Mov.owner (m : Mov V xs bk w n who fi h) (k : Nat) (hi : i < n) : movR V (setV V (adT (who : Int) (fi : Int)) w) h k (adT (i : Int) 0) = (xs.getD i TH.zero).o := by
  have h1 := m.word k hi (f := 0) (by decide)
  have h2 := m.fi9
  rw [if_neg (by omega)] at h1
  exact h1
theorem Mov.pos (m : Mov V xs bk w n who fi h) : ∀ i, i ≤ n → posR (movR V (setV V (adT (who : Int) (fi : Int)) w) h) i = 1 + 10 * i
  | 0, _ => rfl
  | i + 1, hi => by
    show posR _ i + _ = _
    rw [m.pos i (by omega), m.owner _ (by omega : i < n), if_neg (m.own i (by omega))]
    omega
/-- What is in it. -/
theorem Mov.thr (m : Mov V xs bk w n who fi h) {i f : Nat} (hi : i < n) (hf : f < 10) : (thrR (movR V (setV V (adT (who : Int) (fi : Int)) w) h) i).get f = if h ≤ 1 + 10 * who + fi ∧ i = who ∧ f = fi then w else (xs.getD i TH.zero).get f := by
  unfold thrR
  rw [m.pos i (by omega), m.owner _ hi, if_neg (m.own i hi), get_mk _ hf, m.word _ hi hf]
  by_cases e : i = who ∧ f = fi
  · obtain ⟨rfl, rfl⟩ := e
    rfl
  · rw [if_neg (fun k => e k.2), if_neg (fun k => e k.2)]
theorem Mov.zero (m : Mov V xs bk w n who fi h) : movR V (setV V (adT (who : Int) (fi : Int)) w) h 0 adN = bk := by
  have h1 := m.n9
  have h2 := m.who9
  have h3 := m.fi9
  unfold movR
  split
  · rw [setV_other (neNT (by omega) (by omega))]
    exact m.lay.1
  · exact m.lay.1
end
end Go.Proofs.YtapcgikamldchaaDoor
