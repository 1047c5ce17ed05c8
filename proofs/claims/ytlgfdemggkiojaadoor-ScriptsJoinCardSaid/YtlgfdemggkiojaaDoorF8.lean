/-
  The program's May of layer 3, of whatever command: may it be; condition: its small numbers fit their kinds.
-/
import Derived.Test.YtlgfdemggkiojaaDoorF7
namespace Go.Proofs.YtlgfdemggkiojaaDoor
open Go.RowKit

/-- Do a command's small numbers fit their kinds? -/
structure Cm.Fit (c : Cm) : Prop where
  k0 : 0 ≤ c.kind
  k1 : c.kind ≤ 255
  s0 : 0 ≤ c.sch
  s1 : c.sch ≤ 255
  o0 : 0 ≤ c.op
  o1 : c.op ≤ 255
theorem byt_pad (l : List UInt8) (n i : Nat) : byt (l ++ List.replicate n 0) i = byt l i := by
  by_cases h : i < l.length
  · exact byt_append l _ i h
  · have hn : l[i]? = none := List.getElem?_eq_none (by omega)
    have hm : (l ++ List.replicate n (0 : UInt8))[i]?.getD 0 = 0 := by
      rw [List.getElem?_append_right (by omega), List.getElem?_replicate]
      split <;> rfl
    unfold byt
    rw [List.getD_eq_getElem?_getD, List.getD_eq_getElem?_getD, hm, hn]
    rfl
theorem same9_is (c d : Cm) : same9 c.kind c.fr c.to c.at_ c.thr c.sch c.op c.key c.val d.kind d.fr d.to d.at_ d.thr d.sch d.op d.key d.val = decide (c = d) := rfl
theorem mayC_out {c : Cm} (h : ¬ (1 ≤ c.kind ∧ c.kind ≤ 9)) : mayC c = false := by
  unfold mayC
  rw [decide_eq_false h]
  rfl
theorem mayC_in {c : Cm} (h1 : 1 ≤ c.kind) (h9 : c.kind ≤ 9) : mayC c = (inB c && decide (readC c.kind (codeC c) = c.bare)) := by
  unfold mayC
  rw [decide_eq_true ⟨h1, h9⟩]
  rfl
theorem may_any (c : Cm) (w : World) (hf : c.Fit) : Calls Tryd.prog 17 #[c.v] w fun e w' => e = .returned (.bool (mayC c)) ∧ Below w.heap.size w w' := by
  by_cases hk : 1 ≤ c.kind ∧ c.kind ≤ 9
  · obtain ⟨h1, h9⟩ := hk
    have hcode : ∀ W, Calls Tryd.prog 28 #[c.bare.v] W fun e W' => e = .returned (codeV c) ∧ Below W.heap.size W W' := fun W => code_any c.bare W h1 h9 hf.s0 hf.s1 hf.o0 hf.o1
    have hinb : ∀ W, Calls Tryd.prog 29 #[c.bare.v] W fun e W' => e = .returned (.bool (inB c)) ∧ Below W.heap.size W W' := fun W => inB_v c.bare W
    have hlen := codeC_length c
    have hsz := sizeOf_bd c.kind
    cases hi : inB c with
    | false =>
      rw [hi] at hinb
      rw [mayC_in h1 h9, hi]
      exact may_walk_no _ _ _ _ _ _ _ _ _ _ _ _ _ _ w h1 h9 hcode hinb
    | true =>
      rw [hi] at hinb
      rw [mayC_in h1 h9, hi, Bool.true_and]
      have hpl : (codeC c ++ List.replicate (5 - (codeC c).length) 0).length = 5 := by
        rw [List.length_append, List.length_replicate]
        omega
      refine may_walk _ _ _ _ _ _ _ _ _ _ _ _ _ _ (readC c.kind (codeC c)) _ w h1 h9 hcode hinb (fun W q g0 g1 g2 g3 g4 => ?_) (fun W => ?_)
      · have hr := read_any c.kind q 0 5 (codeC c ++ List.replicate (5 - (codeC c).length) 0) W hf.k0 h9 (by omega) (fun i hi => by
          rw [hpl] at hi
          rw [byt_pad, Nat.zero_add]
          match i, hi with
          | 0, _ => exact g0
          | 1, _ => exact g1
          | 2, _ => exact g2
          | 3, _ => exact g3
          | 4, _ => exact g4)
        rw [hpl, readC_append _ _ _ (by omega)] at hr
        exact hr
      · exact eql34 _ _ _ _ _ _ _ _ _ _ _ _ _ _ _ _ _ _ W
  · rw [mayC_out hk]
    have hk0 := hf.k0
    exact may_out _ _ _ _ _ _ _ _ _ w (by omega)
end Go.Proofs.YtlgfdemggkiojaaDoor
