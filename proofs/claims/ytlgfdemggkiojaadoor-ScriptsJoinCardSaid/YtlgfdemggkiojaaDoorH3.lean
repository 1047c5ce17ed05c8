/-
  The law's Twin and Left of layer 3: a twin of bytes with a marked room behind; is it as it was made: yes; condition: the bytes lie as it says, at most 100000 of them.
-/
import Derived.Test.YtlgfdemggkiojaaDoorH2
namespace Go.Proofs.YtlgfdemggkiojaaDoor
open Go.RowKit

theorem sl_cells {w : World} {A : Option Addr} {l : List UInt8} (h : Sl w A l) : ∀ ad, A = some ad → ∀ j u, (l.map bC)[j]? = some u → w.cell? (ad.add j) = some u := by
  intro ad had j u hu
  have hj : j < l.length := by
    have := (List.getElem?_eq_some_iff.1 hu).1
    simpa using this
  obtain ⟨g, off, e, hb⟩ := h (fun e => by subst e; simp at hj)
  rw [had] at e
  cases e
  rw [Addr.add_lit, hb j hj]
  rw [List.getElem?_map, List.getElem?_eq_getElem hj] at hu
  simp only [Option.map_some, Option.some.injEq] at hu
  rw [← hu]
  simp [bC, byt, List.getD_eq_getElem?_getD, List.getElem?_eq_getElem hj]
theorem sl_none {w : World} {A : Option Addr} {l : List UInt8} (h : Sl w A l) (e : A = none) : l.length = 0 := by
  by_cases hl : l = []
  · rw [hl]; rfl
  · obtain ⟨g, off, e', _⟩ := h hl
    rw [e] at e'
    cases e'
/-- What Twin hands back. -/
def Twinned (w0 : World) (l : List UInt8) (e : Ending) (W' : World) : Prop :=
  ∃ g, e = .returned (.slice (some ⟨g, 0, none⟩) l.length (l.length + 1)) ∧ W'.ownsRow w0.heap.size 5 1 (.slice (some ⟨g, 0, none⟩) (l.length + 1) (l.length + 1)) (l.length + 1) ((l ++ [167]).map bC) ∧ Below w0.heap.size w0 W'
set_option maxHeartbeats 4000000 in
theorem twin_any (A : Option Addr) (cap : Nat) (l : List UInt8) (w : World) (hs : Sl w A l) (hl : l.length ≤ 100000) (hcap : A = none → cap = 0) :
    Calls Tryd.prog 9 #[.slice A l.length cap] w (Twinned w l) := by
  obtain ⟨i0, hi, hz0, hz1, hz2⟩ := info_parts Tryd_info5
  have HS := Lib.hid hs
  have HCAP := Lib.hid hcap
  clear hs hcap
  go_enter Tryd.func9, Tryd.ntmps9
  go_wp2_with (first
    | (at_make; refine wpList_make_own _ rfl _ _ 22 rfl w.heap.size 5 i0 _ 1 Tryd.underlying22 hi hz0 hz1 .i64 .i64 _ (l.length + 1) rfl rfl (by omega) (by rw [hz2]; omega) (by unfold maxLen; omega) (Nat.le_refl _) ?_; intro w1 ho1 hg1; have HO1 := Lib.hid ho1; have HG1 := Lib.hid hg1; clear ho1 hg1)
    | (at_builtin; refine wpList_append_fits_any _ rfl (.tmp 6) (.tmp 7) _ rfl w.heap.size 5 i0 1 Tryd.underlying22 hi hz1 w.heap.size 0 (l.length + 1) [] rfl HO1.out A l.length cap (l.map bC) rfl (by rw [List.length_map, Nat.mul_one]) (fun e => ⟨sl_none HS.out e, HCAP.out e⟩) (sl_cells (HS.out.below ((Below.refl _ _).grown HG1.out (Nat.le_refl _) (fun k hk => by cases hk)))) (bC_one _) (by omega) ?_; intro w2 ho2 hg2; simp only [Nat.zero_add, List.nil_append] at ho2; have HO2 := Lib.hid ho2; have HG2 := Lib.hid hg2; clear ho2 hg2)
    | (at_builtin; refine wpList_append_fits _ rfl (.tmp 8) (.tmp 9) _ rfl w.heap.size 5 i0 1 Tryd.underlying22 hi hz1 w.heap.size l.length (l.length + 1) (l.map bC) rfl (HO2.out.alloc _) ⟨w2.heap.size, 0, none⟩ 1 1 [.int .u8 167] rfl rfl (cells_new _ _ _) (fun u hu => by rw [List.mem_singleton.1 hu]; rfl) (by omega) ?_; intro w3 ho3 hg3; have HO3 := Lib.hid ho3; have HG3 := Lib.hid hg3; clear ho3 hg3))
  go_ret
  have b1 : Below w.heap.size w w1 := (Below.refl _ _).grown HG1.out (Nat.le_refl _) (fun k hk => by cases hk)
  have b2 : Below w.heap.size w w2 := b1.grown HG2.out b1.size (fun k hk => by cases hk; exact Nat.le_refl _)
  have b3 : Below w.heap.size w w3 := (b2.alloc b2.size (.cells #[.int .u8 167] 5)).grown HG3.out (by simp; have := b2.size; omega) (fun k hk => by cases hk; exact Nat.le_refl _)
  refine ⟨_, rfl, ?_, b3⟩
  rw [List.map_append]
  exact HO3.out
set_option maxHeartbeats 1000000 in
theorem left_any (g cap : Nat) (A : Option Addr) (l : List UInt8) (w : World) (ht : Bys w g 0 l) (hm : w.cell? ⟨g, l.length, none⟩ = some (.int .u8 167)) (hs : Sl w A l) (hl : l.length ≤ 100000) :
    Calls Tryd.prog 16 #[.slice (some ⟨g, 0, none⟩) l.length (l.length + 1), .slice A l.length cap] w fun e w' => e = .returned (.bool true) ∧ w = w' := by
  have c1 := str_of w (some ⟨g, 0, none⟩) (l.length + 1) l (Sl.of ht)
  have c2 := str_of w A cap l hs
  clear ht hs
  go_enter Tryd.func16, Tryd.ntmps16
  go_wp2
  go_ret
  exact ⟨rfl, rfl⟩
theorem twin_bys {w : World} {g : Nat} {l : List UInt8} {base n c : Nat} (h : w.ownsRow base 5 1 (.slice (some ⟨g, 0, none⟩) n c) n ((l ++ [167]).map bC)) : Bys w g 0 l ∧ w.cell? ⟨g, l.length, none⟩ = some (.int .u8 167) := by
  have hn : n = l.length + 1 := by
    have := h.1
    simpa using this.symm
  refine ⟨fun i hi => ?_, ?_⟩
  · rw [Nat.zero_add, h.cellAt i (by omega)]
    simp [bC, byt, List.getD_eq_getElem?_getD, List.getElem?_append_left, hi]
  · rw [h.cellAt l.length (by omega)]
    simp [bC]
end Go.Proofs.YtlgfdemggkiojaaDoor
