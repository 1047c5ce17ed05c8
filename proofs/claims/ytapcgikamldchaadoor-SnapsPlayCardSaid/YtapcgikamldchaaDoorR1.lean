/-
  The document's own answers for layer 2: may an address be, and which of two stands ahead: each call gives back the plain answer and only makes memory of its own; no condition.
  The document's own answer for layer 2: what stands at an address: the call gives back the first word of the list that has it, else 0; condition: the list's cells are laid as it says.
-/
import Derived.Test.YtapcgikamldchaaDoorProg
import Derived.WalkKit
import Derived.WalkSpells
import Derived.WalkLawsBesides
import Derived.Deep.QuietTactic
import Derived.BigQuiet
import Derived.Lib.Hide
namespace Go.Proofs.YtapcgikamldchaaDoor
open Go.RowKit

theorem ret_bool {a b : Bool} (h : a = b) : Ending.returned (.bool a) = .returned (.bool b) := by rw [h]
def atRoom (k : Int) : Int := if k = 6 then 32 else if k = 7 then 4 else if k = 8 then 16 else if k = 9 then 256 else if k = 10 then 9 else 1
def fieldRoom (k : Int) : Int := if k = 6 then 2 else if k = 8 then 10 else if k = 9 then 8 else if k = 11 then 2 else 1
def mayB (k a f : Int) : Bool := decide (k ≤ 11) && decide (0 ≤ a) && decide (a < atRoom k) && decide (0 ≤ f) && decide (f < fieldRoom k)
def lessB (k a f k' a' f' : Int) : Bool := if k ≠ k' then decide (k < k') else if a ≠ a' then decide (a < a') else decide (f < f')

set_option maxHeartbeats 1000000 in
theorem may_any (k a f : Int) (w : World) :
    Calls Tryd.prog 46 #[.agg #[.int .u8 k, .int .i64 a, .int .i64 f]] w fun e w' => e = .returned (.bool (mayB k a f)) ∧ Below w.heap.size w w' := by
  go_enter Tryd.func46, Tryd.ntmps46
  go_wp2
  all_goals
    go_ret
    refine ⟨ret_bool ?_, (Below.refl _ _).alloc (Nat.le_refl _) _⟩
    simp only [beq_iff_eq, beq_eq_false_iff_ne, ne_eq] at *
    unfold mayB atRoom fieldRoom
    first | (simp [*]; done) | (simp [*]; omega)
end Go.Proofs.YtapcgikamldchaaDoor
namespace Go.Proofs.YtapcgikamldchaaDoor
open Go.RowKit

theorem ret_intM {k : IntKind} {a b : Int} (h : a = b) : Ending.returned (.int k a) = .returned (.int k b) := by rw [h]
theorem below_drewNM' {B : Nat} {a w : World} (h : Below B a w) (n : Nat) : Below B a (w.drewN n) := ⟨h.os, h.tape, h.output, h.size, h.block⟩
/-- A word of the list. -/
structure Wd where
  k : Int
  a : Int
  f : Int
  v : Int
def Wd.is (x : Wd) (k a f : Int) : Bool := x.k == k && x.a == a && x.f == f
/-- What stands at an address. -/
def look : List Wd → Int → Int → Int → Int
  | [], _, _, _ => 0
  | x :: r, k, a, f => if x.is k a f = true then x.v else look r k a f
def wd0 : Wd := ⟨0, 0, 0, 0⟩
theorem look_hit (l : List Wd) (k a f : Int) : ∀ i : Nat, i < l.length → (∀ j, j < i → (l.getD j wd0).is k a f = false) → (l.getD i wd0).is k a f = true → look l k a f = (l.getD i wd0).v := by
  induction l with
  | nil => intro i hi; simp at hi
  | cons x r ih =>
    intro i hi hb ht
    cases i with
    | zero => simp at ht; simp [look, ht]
    | succ i =>
      have h0 := hb 0 (by omega)
      simp at h0
      simp only [look, h0]
      have := ih i (by simpa using hi) (fun j hj => by simpa using hb (j + 1) (by omega)) (by simpa using ht)
      simpa using this
theorem look_miss (l : List Wd) (k a f : Int) (h : ∀ j, j < l.length → (l.getD j wd0).is k a f = false) : look l k a f = 0 := by
  induction l with
  | nil => rfl
  | cons x r ih =>
    have h0 := h 0 (by simp)
    simp at h0
    simp only [look, h0]
    exact ih fun j hj => by simpa using h (j + 1) (by simpa using hj)

/-- The list's cells, four a word, from block g's head on. -/
def WdCells (w : World) (g : Nat) (l : List Wd) : Prop := ∀ i, i < l.length →
  w.cell? ⟨g, i * 4, none⟩ = some (.int .u8 (l.getD i wd0).k) ∧ w.cell? ⟨g, i * 4 + 1, none⟩ = some (.int .i64 (l.getD i wd0).a) ∧ w.cell? ⟨g, i * 4 + 2, none⟩ = some (.int .i64 (l.getD i wd0).f) ∧ w.cell? ⟨g, i * 4 + 3, none⟩ = some (.int .u64 (l.getD i wd0).v)

set_option maxHeartbeats 1000000 in
theorem word_list (b g cap : Nat) (l : List Wd) (k a f : Int) (w : World) (hn : l.length ≤ 1000) (hb : w.cell? ⟨b, 0, none⟩ = some (.slice (some ⟨g, 0, none⟩) l.length cap)) (hc : WdCells w g l) :
    Calls Tryd.prog 40 #[.pointer (some ⟨b, 0, none⟩), .agg #[.int .u8 k, .int .i64 a, .int .i64 f]] w fun e w' => e = .returned (.int .u64 (look l k a f)) ∧ Below w.heap.size w w' := by
  have hbb : Below w.heap.size w (w.alloc (.cells #[.int .u8 k, .int .i64 a, .int .i64 f] 42)) := (Below.refl _ _).alloc (Nat.le_refl _) _
  have e0 : (w.alloc (.cells #[.int .u8 k, .int .i64 a, .int .i64 f] 42)).cell? ⟨w.heap.size, 0, none⟩ = some (.int .u8 k) := by simp [go_sem]
  have e1 : (w.alloc (.cells #[.int .u8 k, .int .i64 a, .int .i64 f] 42)).cell? ⟨w.heap.size, 1, none⟩ = some (.int .i64 a) := by simp [go_sem]
  have e2 : (w.alloc (.cells #[.int .u8 k, .int .i64 a, .int .i64 f] 42)).cell? ⟨w.heap.size, 2, none⟩ = some (.int .i64 f) := by simp [go_sem]
  have hb' : (w.alloc (.cells #[.int .u8 k, .int .i64 a, .int .i64 f] 42)).cell? ⟨b, 0, none⟩ = some (.slice (some ⟨g, 0, none⟩) l.length cap) := (hbb.cell (World.block_lt_of_cell? w _ hb)).trans hb
  have hc' : WdCells (w.alloc (.cells #[.int .u8 k, .int .i64 a, .int .i64 f] 42)) g l := fun i hi => by
    obtain ⟨c0, c1, c2, c3⟩ := hc i hi
    exact ⟨(hbb.cell (World.block_lt_of_cell? w _ c0)).trans c0, (hbb.cell (World.block_lt_of_cell? w _ c1)).trans c1, (hbb.cell (World.block_lt_of_cell? w _ c2)).trans c2, (hbb.cell (World.block_lt_of_cell? w _ c3)).trans c3⟩
  have HB := Lib.hid hbb
  have HC := Lib.hid hc'
  clear hbb hc' hc hb
  go_enter Tryd.func40, Tryd.ntmps40
  go_wp2_with fail
  revert e0 e1 e2 hb' HB HC
  generalize w.alloc (.cells #[.int .u8 k, .int .i64 a, .int .i64 f] 42) = w0
  intro e0 e1 e2 hb' HB HC
  go_loopw [5] (fun j wr => ∃ i d : Nat, i ≤ l.length ∧ j = .int .i64 (i : Int) ∧ (∀ c, c < i → (l.getD c wd0).is k a f = false) ∧ wr = w0.drewN d) (fun j _ => l.length - (intOf j).toNat)
  case atStart => exact ⟨0, 0, Nat.zero_le _, rfl, fun c hc => absurd hc (Nat.not_lt_zero _), rfl⟩
  case round =>
    obtain ⟨i, d, hi, rfl, hno, rfl⟩ := hrel
    have HNO := Lib.hid hno
    clear hno
    by_cases hlt : i < l.length
    · obtain ⟨c0, c1, c2, c3⟩ := HC.out i hlt
      have hlt' : (i : Int) < (l.length : Int) := by omega
      have hge : (0 : Int) ≤ (i : Int) := by omega
      generalize hx : l.getD i wd0 = x at c0 c1 c2 c3
      have HX := Lib.hid hx
      clear hx
      by_cases hk : x.k = k
      · by_cases ha : x.a = a
        · by_cases hf : x.f = f
          · have k1 : (x.k == k) = true := by simpa using hk
            have k2 : (x.a == a) = true := by simpa using ha
            have k3 : (x.f == f) = true := by simpa using hf
            have HV := Lib.hid (look_hit l k a f i hlt HNO.out (by rw [HX.out]; simp [Wd.is, k1, k2, k3]))
            clear hk ha hf
            go_wp2
            go_quiet (fail)
            go_wp2
            go_ret
            exact ⟨ret_intM (by rw [HV.out, HX.out]), HB.out.trans ((below_drewNM' (Below.refl _ _) _).mono HB.out.size)⟩
          · have k1 : (x.k == k) = true := by simpa using hk
            have k2 : (x.a == a) = true := by simpa using ha
            have k3 : (x.f == f) = false := by simpa using hf
            have HM := Lib.hid (show x.is k a f = false by simp [Wd.is, k1, k2, k3])
            clear hk ha hf
            go_wp2
            go_quiet (fail)
            go_wp2
            go_roundw
            case rel =>
              exact ⟨i + 1, d + nq, by omega, by go_num, fun c hc => by
                by_cases he : c = i
                · subst he; rw [HX.out]; exact HM.out
                · exact HNO.out c (by omega), rfl⟩
            case measure => simp [intOf]; omega
        · have k1 : (x.k == k) = true := by simpa using hk
          have k2 : (x.a == a) = false := by simpa using ha
          have HM := Lib.hid (show x.is k a f = false by simp [Wd.is, k1, k2])
          clear hk ha
          go_wp2
          go_quiet (fail)
          go_wp2
          go_roundw
          case rel =>
            exact ⟨i + 1, d + nq, by omega, by go_num, fun c hc => by
              by_cases he : c = i
              · subst he; rw [HX.out]; exact HM.out
              · exact HNO.out c (by omega), rfl⟩
          case measure => simp [intOf]; omega
      · have k1 : (x.k == k) = false := by simpa using hk
        have HM := Lib.hid (show x.is k a f = false by simp [Wd.is, k1])
        clear hk
        go_wp2
        go_quiet (fail)
        go_wp2
        go_roundw
        case rel =>
          exact ⟨i + 1, d + nq, by omega, by go_num, fun c hc => by
            by_cases he : c = i
            · subst he; rw [HX.out]; exact HM.out
            · exact HNO.out c (by omega), rfl⟩
        case measure => simp [intOf]; omega
    · have he : i = l.length := by omega
      have HE := Lib.hid (look_miss l k a f (fun j hj => HNO.out j (by omega)))
      have hge : (l.length : Int) ≤ (i : Int) := by omega
      clear he
      go_wp2
      go_ret
      exact ⟨ret_intM HE.out.symm, HB.out.trans ((below_drewNM' (Below.refl _ _) _).mono HB.out.size)⟩

set_option maxHeartbeats 1000000 in
/-- .. and of a memory that has no list. -/
theorem word_nil (b : Nat) (k a f : Int) (w : World) (hb : w.cell? ⟨b, 0, none⟩ = some (.slice none 0 0)) :
    Calls Tryd.prog 40 #[.pointer (some ⟨b, 0, none⟩), .agg #[.int .u8 k, .int .i64 a, .int .i64 f]] w fun e w' => e = .returned (.int .u64 0) ∧ Below w.heap.size w w' := by
  have hbb : Below w.heap.size w (w.alloc (.cells #[.int .u8 k, .int .i64 a, .int .i64 f] 42)) := (Below.refl _ _).alloc (Nat.le_refl _) _
  have hb' : (w.alloc (.cells #[.int .u8 k, .int .i64 a, .int .i64 f] 42)).cell? ⟨b, 0, none⟩ = some (.slice none 0 0) := (hbb.cell (World.block_lt_of_cell? w _ hb)).trans hb
  have HB := Lib.hid hbb
  clear hbb hb
  go_enter Tryd.func40, Tryd.ntmps40
  go_wp2_with fail
  revert hb' HB
  generalize w.alloc (.cells #[.int .u8 k, .int .i64 a, .int .i64 f] 42) = w0
  intro hb' HB
  refine wp_loop_rounds 1 ?_
  rw [rounds_succ]
  go_wp2
  go_ret
  exact ⟨rfl, HB.out⟩
end Go.Proofs.YtapcgikamldchaaDoor
