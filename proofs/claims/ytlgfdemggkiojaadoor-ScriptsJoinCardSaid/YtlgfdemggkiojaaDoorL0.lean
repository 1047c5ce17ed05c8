/-
  What the laws of layer 3 share: rows of the call's own read as slices, Write's and the document's Write in one form; no condition of its own.
-/
import Derived.Test.YtlgfdemggkiojaaDoorH4
namespace Go.Proofs.YtlgfdemggkiojaaDoor
open Go.RowKit

theorem own_slice {w : World} {base : Nat} {e : TypeId} {size : Nat} {v : Value} {n : Nat} {xs : List Value} (h : w.ownsRow base e size v n xs) : ∃ A c, v = .slice A n c ∧ n ≤ c ∧ c ≤ 9223372036854775807 ∧ (A = none → c = 0) := by
  rcases h.2 with ⟨rfl, rfl⟩ | ⟨g, cap, cur, rfl, _, _, hc, hm, _⟩
  · exact ⟨none, 0, rfl, Nat.le_refl _, by omega, fun _ => rfl⟩
  · exact ⟨_, cap, rfl, hc, by unfold maxLen at hm; exact hm, fun e => by cases e⟩
theorem own_cell {w : World} {base : Nat} {e : TypeId} {size : Nat} {g n c : Nat} {xs : List Value} (h : w.ownsRow base e size (.slice (some ⟨g, 0, none⟩) n c) n xs) (j : Nat) (hj : j < xs.length) : w.cell? ⟨g, j, none⟩ = xs[j]? :=
  h.cellAt j (by rw [← h.1]; exact hj)
theorem own_form {w : World} {base : Nat} {e : TypeId} {size : Nat} {A : Option Addr} {n c : Nat} {xs : List Value} (h : w.ownsRow base e size (.slice A n c) n xs) (hn : 0 < n) : ∃ g, A = some ⟨g, 0, none⟩ ∧ base ≤ g ∧ g < w.heap.size := by
  obtain ⟨g, cap, hv, h1, h2⟩ := h.form hn
  injection hv with hv
  exact ⟨g, hv, h1, h2⟩
theorem slc_of_own {w : World} {base : Nat} {A : Option Addr} {l : List Cm} {c : Nat} (h : w.ownsRow base 34 9 (.slice A l.length c) l.length (flatV l)) : Slc w A l := fun hl => by
  obtain ⟨g, rfl, _, _⟩ := own_form h (List.length_pos_iff.2 hl)
  refine ⟨g, 0, rfl, fun i c hc => ?_⟩
  have hi := (List.getElem?_eq_some_iff.1 hc).1
  have k : ∀ j, j < 9 → w.cell? ⟨g, 0 + i * 9 + j, none⟩ = (vC c)[j]? := fun j hj => by
    rw [Nat.zero_add, h.cellAt _ (by omega)]
    exact flat_at (f := vC) (fun _ => rfl) l i j c hc hj
  exact ⟨k 0 (by omega), k 1 (by omega), k 2 (by omega), k 3 (by omega), k 4 (by omega), k 5 (by omega), k 6 (by omega), k 7 (by omega), k 8 (by omega)⟩
theorem rslc_of_own {w : World} {base : Nat} {A : Option Addr} {l : List Cm} {c : Nat} (h : w.ownsRow base 38 9 (.slice A l.length c) l.length (flatR l)) : RSlc w A l := fun hl => by
  obtain ⟨g, rfl, _, _⟩ := own_form h (List.length_pos_iff.2 hl)
  refine ⟨g, 0, rfl, fun i c hc => ?_⟩
  have hi := (List.getElem?_eq_some_iff.1 hc).1
  have k : ∀ j, j < 9 → w.cell? ⟨g, 0 + i * 9 + j, none⟩ = (rC c)[j]? := fun j hj => by
    rw [Nat.zero_add, h.cellAt _ (by omega)]
    exact flat_at (f := rC) (fun _ => rfl) l i j c hc hj
  exact ⟨k 0 (by omega), k 1 (by omega), k 2 (by omega), k 3 (by omega), k 4 (by omega), k 5 (by omega), k 6 (by omega), k 7 (by omega), k 8 (by omega)⟩
theorem sl_of_own {w : World} {base : Nat} {A : Option Addr} {l : List UInt8} {c : Nat} (h : w.ownsRow base 5 1 (.slice A l.length c) l.length (l.map bC)) : Sl w A l := fun hl => by
  obtain ⟨g, rfl, _, _⟩ := own_form h (List.length_pos_iff.2 hl)
  exact ⟨g, 0, rfl, bys_of_own h⟩
/-- What is written: all bytes, or nothing. -/
def wroteB (l : List Cm) : List UInt8 := if l.all mayC = true then flatB l else []
theorem wroteB_yes {l : List Cm} (h : l.all mayC = true) : wroteB l = flatB l := if_pos h
theorem wroteB_no {l : List Cm} (h : l.all mayC = false) : wroteB l = [] := if_neg (by rw [h]; simp)
theorem wroteB_length (l : List Cm) : (wroteB l).length ≤ l.length * 5 := by
  unfold wroteB
  split
  · exact flatB_length l
  · simp
/-- Write, in one form. -/
def WroteS (w0 : World) (l : List Cm) (e : Ending) (W' : World) : Prop :=
  ∃ A c, e = .returned (.tuple #[.slice A (wroteB l).length c, .bool (l.all mayC)]) ∧ (wroteB l).length ≤ c ∧ c ≤ 9223372036854775807 ∧ Sl W' A (wroteB l) ∧ Below w0.heap.size w0 W'
theorem write_s (A : Option Addr) (cap : Nat) (l : List Cm) (w : World) (hlay : Lay w) (hs : Slc w A l) (hf : ∀ c ∈ l, c.Fit) (hl : l.length ≤ 100000) :
    Calls Tryd.prog 19 #[.slice A l.length cap] w (WroteS w l) := by
  refine (write_any A cap l w hlay hs hf hl).mono ?_
  rintro e w' ⟨hb, ⟨h, rfl⟩ | ⟨h, v, c, ho, hv⟩⟩
  · refine ⟨none, 0, ?_, by rw [wroteB_no h]; exact Nat.le_refl _, by omega, by rw [wroteB_no h]; exact Sl.nil _ _, hb⟩
    rw [wroteB_no h, h]
    rfl
  · have hlen := flatB_length l
    rcases hv with ⟨rfl, rfl⟩ | ⟨g, rfl, rfl⟩
    · have h0 : flatB l = [] := by
        rcases ho.2 with ⟨_, h0⟩ | ⟨_, _, _, h0, _⟩
        · exact List.eq_nil_of_length_eq_zero h0
        · cases h0
      refine ⟨none, 0, ?_, by rw [wroteB_yes h, h0]; exact Nat.le_refl _, by omega, by rw [wroteB_yes h, h0]; exact Sl.nil _ _, hb⟩
      rw [wroteB_yes h, h0, h]
      rfl
    · refine ⟨_, (flatB l).length, ?_, by rw [wroteB_yes h]; exact Nat.le_refl _, by omega, by rw [wroteB_yes h]; exact Sl.of (bys_of_own ho), hb⟩
      rw [wroteB_yes h, h]
theorem rwrite_s (A : Option Addr) (cap : Nat) (l : List Cm) (w : World) (hs : RSlc w A l) (hf : ∀ c ∈ l, c.Fit) (hl : l.length ≤ 100000) :
    Calls Tryd.prog 20 #[.slice A l.length cap] w (WroteS w l) := by
  refine (rwrite_any A cap l w hs hf hl).mono ?_
  rintro e w' ⟨hb, ⟨h, rfl⟩ | ⟨h, v, ho, rfl⟩⟩
  · refine ⟨none, 0, ?_, by rw [wroteB_no h]; exact Nat.le_refl _, by omega, by rw [wroteB_no h]; exact Sl.nil _ _, hb⟩
    rw [wroteB_no h, h]
    rfl
  · obtain ⟨A2, c2, rfl, h1, h2, _⟩ := own_slice ho
    refine ⟨A2, c2, ?_, by rw [wroteB_yes h]; exact h1, h2, by rw [wroteB_yes h]; exact sl_of_own ho, hb⟩
    rw [wroteB_yes h, h]
end Go.Proofs.YtlgfdemggkiojaaDoor
