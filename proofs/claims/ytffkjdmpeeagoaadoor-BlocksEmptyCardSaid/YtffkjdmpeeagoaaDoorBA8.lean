/-
  A memory of the call's own with a Join that is under way; a run of it by a loop; the table of BlocksEmpty at first; condition: all lies as it says.
-/
import Derived.Test.YtffkjdmpeeagoaaDoorBA7
namespace Go.Proofs.YtffkjdmpeeagoaaDoor
open Go.RowKit Go.Maps

structure MJ (W : World) (p b q : Nat) (o : TO) (M : MV) (w : World) : Prop where
  mem : VX p b M w
  low : Below W.heap.size W w
  b0 : W.heap.size ≤ b
  p0 : W.heap.size ≤ p
  q0 : W.heap.size ≤ q
  num : TNum o
  lv : o.lv = false
  rep : PRep q o w
section
variable {p b q : Nat} {o o' o9 : TO} {M M' M9 : MV} {V : Ad → Int} {k n ow : Int} {W w w' : World} {N i s : Nat}
theorem MJ.onl (h : MJ W p b q o M w) (F : VX p b M' w') (O : Onl p b [] w w') : MJ W p b q o M' w' :=
  ⟨F, h.low.trans (O.below h.p0 h.b0 (fun x hx => by cases hx) h.low.size), h.b0, h.p0, h.q0, h.num, h.lv, h.rep.same (O.block q h.rep.lt (h.rep.neM h.mem).1 (h.rep.neM h.mem).2 (by simp))⟩
theorem MJ.below (h : MJ W p b q o M w) (g : Below w.heap.size w w') : MJ W p b q o M w' :=
  ⟨h.mem.below g, h.low.trans (g.mono h.low.size), h.b0, h.p0, h.q0, h.num, h.lv, h.rep.same (g.block q h.rep.lt)⟩
theorem MJ.step (h : MJ W p b q o M w) (h1 : 1 < W.heap.size) (hs : M.s.st < 1000000) : Calls Tryd.prog 35 #[.pointer (some ⟨q, 0, none⟩), .pointer (some ⟨p, 0, none⟩)] w fun e w' => e = .returned (.bool ((tX o M).1.ln == 0)) ∧ MJ W p b q (tX o M).1 (tX o M).2 w' := by
  have := prg_stepE (o2 := (tX o M).1) (M2 := (tX o M).2) (by have := h.q0; omega) h.mem hs h.num h.rep rfl
  rw [h.lv] at this
  refine (show Calls Tryd.prog 35 _ _ _ from this).mono ?_
  rintro e w' ⟨he, R, F, O⟩
  exact ⟨he, F, h.low.trans (O.below h.p0 h.b0 (fun x hx => by rw [List.mem_singleton] at hx; have := h.q0; omega) h.low.size), h.b0, h.p0, h.q0, h.num.step h.mem.u64, by rw [tX_lv]; exact h.lv, R⟩
theorem MJ.over (h : MJ W p b q o M w) : Calls Tryd.prog 37 #[.pointer (some ⟨q, 0, none⟩)] w fun e w' => e = .returned (.bool (o.ln == 0)) ∧ w' = w := overJ_any h.num h.lv h.rep
theorem MJ.got (h : MJ W p b q o M w) (h0 : o.ln = 0) : Calls Tryd.prog 38 #[.pointer (some ⟨q, 0, none⟩)] w fun e w' => e = .returned (.tuple #[.int .i64 o.th, .int .i64 o.e]) ∧ w' = w := by
  have := gotJ_any h.num h.lv h.rep
  rw [if_pos h0] at this
  exact this
theorem MJ.load (h : MJ W p b q o M w) (hk : M.s.st < 900000) {x : Ad} {c a f : Int} (hx : x.k = c ∧ x.a = a ∧ x.f = f) :
    Calls Tryd.prog 30 #[.pointer (some ⟨p, 0, none⟩), .agg #[.int .u8 c, .int .i64 a, .int .i64 f]] w fun e w' => e = .returned (.int .u64 (M.V x)) ∧ MJ W p b q o (ldM M x) w' := by
  refine (h.mem.ldA (by omega) hx rfl).mono ?_
  rintro e w' ⟨rfl, F, O⟩
  exact ⟨rfl, h.onl F (.of_only O)⟩
theorem MJ.many (h : MJ W p b q o M w) (hk : M.s.st < 900000) (hN : M.V adN = n) (hn : 0 ≤ n ∧ n ≤ 4) :
    Calls Tryd.prog 27 #[.pointer (some ⟨p, 0, none⟩)] w fun e w' => e = .returned (.int .i64 n) ∧ MJ W p b q o (ldM M adN) w' := by
  refine (many_any h.mem (by omega) hN hn).mono ?_
  rintro e w' ⟨rfl, F, O⟩
  exact ⟨rfl, h.onl F (.of_only O)⟩
theorem MJ.less {e0 nk : Int} {V' : Ad → Int} (h : MJ W p b q o M w) (hk : M.s.st < 900000) (hE : ∃ o' M', EndsK (newB true) M N o' M' ∧ o'.e = e0 ∧ M'.V = V') (hN : N ≤ 9) (hn : (N : Int) = nk) :
    Calls Tryd.prog 36 #[.pointer (some ⟨p, 0, none⟩)] w fun e w' => e = .returned (.tuple #[.int .i64 e0, .int .i64 nk]) ∧ ∃ M', M'.V = V' ∧ M'.s.st ≤ M.s.st + 9 ∧ MJ W p b q o M' w' := by
  obtain ⟨o', M', E, rfl, rfl⟩ := hE
  subst hn
  have := E.st
  refine (lessB_any h.mem (by omega) E hN).mono ?_
  rintro e w' ⟨rfl, F, O⟩
  exact ⟨rfl, M', rfl, by omega, h.onl F O⟩
theorem MJ.more {e0 nk : Int} {V' : Ad → Int} (h : MJ W p b q o M w) (hk : M.s.st < 900000) (hE : ∃ o' M', EndsK (newB false) M N o' M' ∧ o'.e = e0 ∧ M'.V = V') (hN : N ≤ 9) (hn : (N : Int) = nk) :
    Calls Tryd.prog 39 #[.pointer (some ⟨p, 0, none⟩)] w fun e w' => e = .returned (.tuple #[.int .i64 e0, .int .i64 nk]) ∧ ∃ M', M'.V = V' ∧ M'.s.st ≤ M.s.st + 9 ∧ MJ W p b q o M' w' := by
  obtain ⟨o', M', E, rfl, rfl⟩ := hE
  subst hn
  have := E.st
  refine (moreB_any h.mem (by omega) E hN).mono ?_
  rintro e w' ⟨rfl, F, O⟩
  exact ⟨rfl, M', rfl, by omega, h.onl F O⟩
/-- A new Join over a memory of the call's own. -/
theorem MJ.new (hF : VX p b M w) (hlow : Below W.heap.size W w) (hb : W.heap.size ≤ b) (hp : W.heap.size ≤ p) (ow : Int) (hw : (Lit.int .i64 ow).wf = true) :
    Calls Tryd.prog 34 #[.int .i64 ow] w fun e w' => ∃ q, e = .returned (.pointer (some ⟨q, 0, none⟩)) ∧ MJ W p b q (newJ ow) M w' := by
  refine (newJoin_all ow hw w).mono ?_
  rintro e w' ⟨q, rfl, hq, R, g⟩
  have := hlow.size
  exact ⟨q, rfl, hF.below g, hlow.trans (g.mono hlow.size), hb, hp, by omega, .newJ hw, by unfold newJ; split <;> rfl, R⟩
/-- A run of it, as a loop goes on with it. -/
def RunJ (N i : Nat) (o' : TO) (M' : MV) (o9 : TO) (M9 : MV) : Prop := (o9.ln ≠ 0 ∧ i < N ∧ Ends o9 M9 (N - i) o' M') ∨ (o9 = o' ∧ M9 = M' ∧ N ≤ i ∧ o9.ln = 0)
theorem RunJ.start (E : Ends o M N o' M') (h : o.ln ≠ 0) : RunJ N 0 o' M' o M := .inl ⟨h, E.pos, E⟩
theorem RunJ.step (R : RunJ N i o' M' o9 M9) (h : o9.ln ≠ 0) : RunJ N (i + 1) o' M' (tX o9 M9).1 (tX o9 M9).2 := by
  rcases R with ⟨_, hi, E⟩ | ⟨_, _, _, h0⟩
  · generalize hn : N - i = m at E
    cases E with
    | one h1 => exact .inr ⟨rfl, rfl, by omega, h1⟩
    | @more _ _ m _ _ h1 E2 =>
      have := E2.pos
      refine .inl ⟨h1, by omega, ?_⟩
      rw [show N - (i + 1) = m by omega]
      exact E2
  · exact absurd h0 h
theorem RunJ.fin (R : RunJ N i o' M' o9 M9) (h : o9.ln = 0) : o9 = o' ∧ M9 = M' := by
  rcases R with ⟨h1, _⟩ | ⟨h1, h2, _⟩
  · exact absurd h h1
  · exact ⟨h1, h2⟩
theorem RunJ.end_ (R : RunJ N i o' M' o9 M9) (h : N ≤ i) : o9.ln = 0 := by
  rcases R with ⟨_, h2, _⟩ | ⟨_, _, _, h2⟩
  · omega
  · exact h2
theorem JStp.ln (J : JStp n s ow o) (how : 0 ≤ ow) (h : (s : Int) ≤ n + 2) : o.ln ≠ 0 := by
  by_cases h0 : s = 0
  · rw [J.zero h0, newJ_eq how]; simp
  · by_cases h1 : (s : Int) ≤ n
    · obtain ⟨w, rfl⟩ := J.look (by omega) h1
      simp
    · by_cases h2 : (s : Int) = n + 1
      · rw [J.cas h2]; simp
      · rw [J.in_ (by omega)]; simp
/-- The first loop's words: so many blocks are full. -/
structure Fil (n : Int) (i : Nat) (V : Ad → Int) : Prop where
  N : V adN = n
  full : ∀ l, 0 ≤ l → l < (i : Int) → V (adK l) = blockW 4 false
  rest : ∀ l, (i : Int) ≤ l → l < 4 → V (adK l) = opnW
  own : ∀ t, 0 ≤ t → t < 16 → V (adT t 0) = 0
theorem Fil.first (n : Int) : Fil n 0 (V0t n) := ⟨V0t_N, fun l _ h => by simp at h; omega, fun l h0 h1 => by
  rw [V0t_K ⟨by simpa using h0, h1⟩]
  unfold opnW
  decide, fun t h0 h1 => V0t_T ⟨h0, h1⟩ (by decide)⟩
theorem Fil.step (F : Fil n i V) (h : i < 4) : Fil n (i + 1) (setV V (adK (i : Int)) (blockW 4 false)) := by
  have hm : 0 ≤ (i : Int) ∧ (i : Int) < 4 := by omega
  refine ⟨by rw [setV_other (neNK hm)]; exact F.N, fun l h0 h1 => ?_, fun l h0 h1 => ?_, fun t h0 h1 => ?_⟩
  · push_cast at h1
    by_cases e : l = (i : Int)
    · rw [e, setV_same (mayK hm)]
    · rw [setV_other (neKK ⟨h0, by omega⟩ hm e)]
      exact F.full l h0 (by omega)
  · push_cast at h0
    rw [setV_other (neKK ⟨by omega, h1⟩ hm (by omega))]
    exact F.rest l (by omega) h1
  · rw [setV_other (Ne.symm (neKT hm ⟨h0, h1⟩ (by decide)))]
    exact F.own t h0 h1
theorem Fil.ahd (F : Fil n i V) (hn : 1 ≤ n ∧ n ≤ 4) (hi : (i : Int) = n - 1) : Ahd n 0 V :=
  ⟨hn, F.N, fun l h0 h1 => F.full l h0 (by omega), by rw [F.rest (n - 1) (by omega) (by omega), if_neg (by simp; omega)], F.own⟩
end
end Go.Proofs.YtffkjdmpeeagoaaDoor
