/-
  Package tables: new operations, whether one is over, and what was got, out of what it is; condition: the operation lies as it says, numbers of their kinds.
-/
import Derived.Test.YtffkjdmpeeagoaaDoorTB6
namespace Go.Proofs.YtffkjdmpeeagoaaDoor
open Go.RowKit Go.Maps

section
variable {p b q : Nat} {n : Int} {o : TO} {M : MV} {w w' : World}
theorem JOk.m1 {n : Int} (h0 : 0 ≤ n) (h1 : n < 9223372036854775808) : JOk ⟨false, 1, -1, 0, n + 1, 0, 0, 0, 0⟩ 0 0 0 0 n 0 1 false := ⟨fun _ => ⟨rfl, rfl⟩, fun _ => ⟨rfl, h0, h1, rfl⟩, (by dsimp only; intro h; omega), (by dsimp only; intro h; omega), (by dsimp only; intro h; omega), (by dsimp only; intro h; omega), (by dsimp only; intro h; omega), (by dsimp only; intro h; omega)⟩
theorem newJoin_all (n : Int) (hw : (Lit.int .i64 n).wf = true) (w : World) : Calls Tryd.prog 34 #[.int .i64 n] w fun e w' => ∃ q, e = .returned (.pointer (some ⟨q, 0, none⟩)) ∧ w.heap.size ≤ q ∧ PRep q (newJ n) w' ∧ Below w.heap.size w w' := by
  have hn : n < 9223372036854775808 := by simp [Lit.wf, IntKind.min, IntKind.max, IntKind.signed, IntKind.bits] at hw; omega
  unfold newJ
  by_cases h : n < 0
  · rw [if_pos h]
    refine (newJoin_bad n h w).mono ?_
    rintro e w' ⟨q, rfl, h1, k, hb⟩
    exact ⟨q, rfl, h1, .inl ⟨rfl, _, _, _, _, _, _, _, _, k, .m0f rfl rfl⟩, hb⟩
  · rw [if_neg h]
    refine (newJoin_good n (by omega) w).mono ?_
    rintro e w' ⟨q, rfl, h1, k, hb⟩
    exact ⟨q, rfl, h1, .inl ⟨rfl, _, _, _, _, _, _, _, _, k, .m1 (by omega) hn⟩, hb⟩
theorem newLeave_all (n : Int) (w : World) : Calls Tryd.prog 51 #[.int .i64 n] w fun e w' => ∃ q, e = .returned (.pointer (some ⟨q, 0, none⟩)) ∧ w.heap.size ≤ q ∧ PRep q (newL n) w' ∧ Below w.heap.size w w' := by
  unfold newL
  by_cases h : n < 0 ∨ 15 < n
  · rw [if_pos h]
    have key : Calls Tryd.prog 51 #[.int .i64 n] w fun e w' => ∃ q, e = .returned (.pointer (some ⟨q, 0, none⟩)) ∧ w.heap.size ≤ q ∧ Bq q 142 (PC 0 0 0 0 1 []) w' ∧ Below w.heap.size w w' := by
      by_cases h0 : n < 0
      · exact newLeave_low n h0 w
      · exact newLeave_high n (by omega) (by omega) w
    refine key.mono ?_
    rintro e w' ⟨q, rfl, h1, k, hb⟩
    exact ⟨q, rfl, h1, .inr ⟨rfl, _, _, _, _, k, (by dsimp only; intro h; omega), (by dsimp only; intro h; omega), fun _ => rfl⟩, hb⟩
  · rw [if_neg h]
    refine (newLeave_good n (by omega) (by omega) w).mono ?_
    rintro e w' ⟨q, rfl, h1, k, hb⟩
    exact ⟨q, rfl, h1, .inr ⟨rfl, _, _, _, _, k, fun _ => ⟨rfl, rfl, rfl⟩, (by dsimp only; intro h; omega), (by dsimp only; intro h; omega)⟩, hb⟩
theorem nxJ_beq {l : Int} (h : 0 ≤ l ∧ l ≤ 7) : (nxJ l == 0) = (l == 0) := by
  obtain rfl | rfl | rfl | rfl | rfl | rfl | rfl | rfl : l = 0 ∨ l = 1 ∨ l = 2 ∨ l = 3 ∨ l = 4 ∨ l = 5 ∨ l = 6 ∨ l = 7 := by omega
  all_goals rfl
theorem nxL_beq {l : Int} (h : 0 ≤ l ∧ l ≤ 6) : (nxL l == 0) = (l == 0) := by
  obtain rfl | rfl | rfl | rfl | rfl | rfl | rfl : l = 0 ∨ l = 1 ∨ l = 2 ∨ l = 3 ∨ l = 4 ∨ l = 5 ∨ l = 6 := by omega
  all_goals rfl
theorem gotE_no {nx en : Int} (h : nx ≠ 0) : gotE nx en = 0 := if_neg h
theorem nxJ_ne {l : Int} (h : 0 ≤ l ∧ l ≤ 7) (h0 : l ≠ 0) : nxJ l ≠ 0 := fun e => by
  have := nxJ_beq h
  rw [e, beq_eq_false_iff_ne.2 h0] at this
  cases this
theorem nxL_ne {l : Int} (h : 0 ≤ l ∧ l ≤ 6) (h0 : l ≠ 0) : nxL l ≠ 0 := fun e => by
  have := nxL_beq h
  rw [e, beq_eq_false_iff_ne.2 h0] at this
  cases this
theorem overJ_any (ok : TNum o) (hv : o.lv = false) (R : PRep q o w) : Calls Tryd.prog 37 #[.pointer (some ⟨q, 0, none⟩)] w fun e w' => e = .returned (.bool (o.ln == 0)) ∧ w' = w := by
  have hj := ok.j hv
  rcases R with ⟨_, bl, th, wd, en, ow, bs, fd, jd, k, g⟩ | ⟨h, _⟩
  · rw [← nxJ_beq ⟨hj.1, hj.2.1⟩]
    exact overJ k
  · rw [hv] at h; cases h
theorem overL_any (ok : TNum o) (hv : o.lv = true) (R : PRep q o w) : Calls Tryd.prog 79 #[.pointer (some ⟨q, 0, none⟩)] w fun e w' => e = .returned (.bool (o.ln == 0)) ∧ w' = w := by
  have hj := ok.l hv
  rcases R with ⟨h, _⟩ | ⟨_, bl, th, wd, en, k, g⟩
  · rw [hv] at h; cases h
  · rw [← nxL_beq ⟨hj.1, hj.2.1⟩]
    exact overL k
theorem gotJ_any (ok : TNum o) (hv : o.lv = false) (R : PRep q o w) : Calls Tryd.prog 38 #[.pointer (some ⟨q, 0, none⟩)] w fun e w' => e = .returned (.tuple #[.int .i64 (if o.ln = 0 then o.th else -1), .int .i64 o.e]) ∧ w' = w := by
  have hj := ok.j hv
  rcases R with ⟨_, bl, th, wd, en, ow, bs, fd, jd, k, g1, _, _, _, _, _, _, g8⟩ | ⟨h, _⟩
  · by_cases h0 : o.ln = 0
    · rw [if_pos h0]
      rw [h0] at k
      rcases g8 h0 with ⟨rfl, rfl, he⟩ | ⟨rfl, rfl, he⟩
      · rw [he]; exact gotJ_yes k
      · rw [he]; exact gotJ_no k
    · rw [if_neg h0]
      obtain ⟨rfl, _⟩ := g1 h0
      have he := (hj.2.2 h0).1
      have := gotJ_no k
      rw [gotE_no (nxJ_ne ⟨hj.1, hj.2.1⟩ h0)] at this
      rw [he]
      exact this
  · rw [hv] at h; cases h
theorem gotL_any (ok : TNum o) (hv : o.lv = true) (R : PRep q o w) : Calls Tryd.prog 53 #[.pointer (some ⟨q, 0, none⟩)] w fun e w' => e = .returned (.int .i64 o.e) ∧ w' = w := by
  have hj := ok.l hv
  rcases R with ⟨h, _⟩ | ⟨_, bl, th, wd, en, k, g1, _, g3⟩
  · rw [hv] at h; cases h
  · by_cases h0 : o.ln = 0
    · rw [h0] at k
      rw [← g3 h0]
      exact gotL k
    · have he := (hj.2.2 h0).1
      have := gotL k
      rw [gotE_no (nxL_ne ⟨hj.1, hj.2.1⟩ h0)] at this
      rw [he]
      exact this
end
end Go.Proofs.YtffkjdmpeeagoaaDoor
