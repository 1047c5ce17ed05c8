/-
  What the law ScriptsParse asks: commands of a script fit their kinds; both Nexts at once; a row of the call's own written over; no condition of its own.
-/
import Derived.Test.YtlgfdemggkiojaaDoorL2
import Derived.Deep.MidRow
import Derived.Maps.AppendAt
import Derived.Laws.OwnMore
namespace Go.Proofs.YtlgfdemggkiojaaDoor
open Go.RowKit

theorem none_fit (n : Int) : (noneC n).Fit :=
  ⟨show (0 : Int) ≤ 0 by omega, show (0 : Int) ≤ 255 by omega, show (0 : Int) ≤ 0 by omega, show (0 : Int) ≤ 255 by omega, show (0 : Int) ≤ 0 by omega, show (0 : Int) ≤ 255 by omega⟩
theorem till_fit {c : Cm} (h : c.Fit) (n : Int) : (c.till n).Fit := ⟨h.k0, h.k1, h.s0, h.s1, h.o0, h.o1⟩
theorem dec_fit (b : List UInt8) : (dec b).Fit := by
  have h1 := byt_bd b 1
  have h2 := byt_bd b 2
  have hk := kindOf_rng (byt b 0) (byt_bd b 0).1 (byt_bd b 0).2
  have hr : ∀ k : Int, 0 ≤ k → k ≤ 9 → (readC k b).Fit := fun k k0 k9 => by
    unfold readC bareC
    repeat' split
    all_goals exact ⟨by dsimp only; omega, by dsimp only; omega, by dsimp only; omega, by dsimp only; omega, by dsimp only; omega, by dsimp only; omega⟩
  have hr' := hr _ hk.1 hk.2
  unfold dec
  split
  · exact none_fit _
  · split
    · exact till_fit hr' _
    · exact none_fit _
theorem shift_fit {c : Cm} (h : c.Fit) (o : Int) : (c.shift o).Fit := ⟨h.k0, h.k1, h.s0, h.s1, h.o0, h.o1⟩
theorem parse_fit (o : Nat) (l : List UInt8) : ∀ c ∈ parseFrom o l, c.Fit := by
  by_cases h : l = []
  · rw [h, parseFrom_nil]
    intro c hc
    cases hc
  · have hd := dlen_bd l h
    have ih := parse_fit (o + dlen l) (l.drop (dlen l))
    rw [parseFrom_cons o l h]
    intro c hc
    rcases List.mem_cons.1 hc with rfl | hc
    · exact shift_fit (dec_fit l) _
    · exact ih c hc
termination_by l.length
decreasing_by
  have := dlen_bd l h
  rw [List.length_drop]
  omega
theorem parseC_fit (l : List UInt8) : ∀ c ∈ parseC l, c.Fit := parse_fit 0 _
/-- Both Nexts, in one form. -/
theorem next_both (l : List UInt8) (at_ : Int) : ∃ (c : Cm) (ok : Bool), c.Fit ∧
    (∀ (A : Option Addr) (cap : Nat) (w : World), Lay w → Sl w A l → l.length ≤ cap → cap ≤ 9223372036854775807 → Calls Tryd.prog 12 #[.slice A l.length cap, .int .i64 at_] w fun e w' => e = .returned (.tuple #[c.v, .bool ok]) ∧ Below w.heap.size w w') ∧
    (∀ (A : Option Addr) (cap : Nat) (w : World), Sl w A l → l.length ≤ cap → cap ≤ 9223372036854775807 → Calls Tryd.prog 13 #[.slice A l.length cap, .int .i64 at_] w fun e w' => e = .returned (.tuple #[c.r, .bool ok]) ∧ Below w.heap.size w w') := by
  cases h : nextC l at_ with
  | none =>
    refine ⟨⟨0, 0, 0, 0, 0, 0, 0, 0, 0⟩, false, ⟨by decide, by decide, by decide, by decide, by decide, by decide⟩, fun A cap w _ _ hn hc => ?_, fun A cap w _ hn hc => ?_⟩
    · exact next_none A cap l at_ w hn hc h
    · exact rnext_none A cap l at_ w hn hc h
  | some c =>
    refine ⟨c, true, ?_, fun A cap w hlay hs hn hc => ?_, fun A cap w hs hn hc => ?_⟩
    · obtain ⟨p, _, _, rfl⟩ := nextC_some h
      exact shift_fit (dec_fit _) _
    · exact next_some A cap l at_ c w hlay hs hn hc h
    · exact rnext_some A cap l at_ c w hs hn hc h
/-- Parse, with the row of the call's own. -/
def ParsedO (w0 : World) (l : List UInt8) (e : Ending) (W' : World) : Prop :=
  ∃ A c, e = .returned (.slice A (parseC l).length (parseC l).length) ∧ W'.ownsRow w0.heap.size 34 9 (.slice A (parseC l).length c) (parseC l).length (flatV (parseC l)) ∧ Below w0.heap.size w0 W'
theorem parse_o (A : Option Addr) (cap : Nat) (l : List UInt8) (w : World) (hlay : Lay w) (hs : Sl w A l) (hn : l.length ≤ cap) (hc : cap ≤ 9223372036854775807) :
    Calls Tryd.prog 10 #[.slice A l.length cap] w (ParsedO w l) := by
  refine (parse_any A cap l w hlay hs hn hc).mono ?_
  rintro e w' ⟨v, c, ho, hb, hv⟩
  rcases hv with ⟨rfl, rfl⟩ | ⟨g, rfl, rfl⟩
  · have h0 : (parseC l).length = 0 := by
      rcases ho.2 with ⟨_, h0⟩ | ⟨_, _, _, h0, _⟩
      · exact h0
      · cases h0
    refine ⟨none, 0, by rw [h0], ?_, hb⟩
    rw [h0] at ho ⊢
    exact ho
  · exact ⟨_, c, rfl, ho, hb⟩
/-- A row of commands has turned, and nothing else. -/
structure Over (w w' : World) (A : Option Addr) (n : Nat) : Prop where
  grown : w.grownBy w' (A.map (·.block))
  there : ∀ g o, A = some ⟨g, o, none⟩ → w'.there g o (n * 9)
theorem grownBy_refl (w : World) (row : Option Nat) : w.grownBy w row := ⟨rfl, rfl, rfl, Nat.le_refl _, fun _ _ _ => rfl⟩
theorem grownBy_cells (g : Nat) : ∀ (vs : List Value) (o : Nat) (w : World), w.grownBy (w.setCells g o vs) (some g)
  | [], _, w => grownBy_refl w _
  | v :: r, o, w => World.grownBy.trans (⟨rfl, rfl, rfl, by simp, fun k _ hk => heap_setCell_other w ⟨g, o, none⟩ k v (fun e => hk (by simp [e]))⟩ : w.grownBy (w.setCell ⟨g, o, none⟩ v) (some g)) (grownBy_cells g r (o + 1) _)
theorem Over.start {w : World} {base c : Nat} {A : Option Addr} {l : List Cm} (h : w.ownsRow base 34 9 (.slice A l.length c) l.length (flatV l)) : Over w w A l.length := by
  refine ⟨grownBy_refl w _, fun g o hA j hj => ?_⟩
  subst hA
  obtain ⟨g', e, _, _⟩ := own_form h (by omega)
  injection e with e
  injection e with e1 e2
  subst e1 e2
  have hx : (flatV l).length = l.length * 9 := h.1
  rw [Nat.zero_add]
  refine ⟨?_, h.frozenAt j⟩
  rw [h.cellAt j hj, List.getElem?_eq_getElem (by omega)]
  rfl
theorem Over.at_ {w w' : World} {g o n k : Nat} (h : Over w w' (some ⟨g, o, none⟩) n) (hk : k < n) : w'.there g (o + k * 9) 9 := fun j hj => by
  have := h.there g o rfl (k * 9 + j) (by omega)
  rw [show o + k * 9 + j = o + (k * 9 + j) by omega]
  exact this
theorem Over.step {w w' : World} {g o n : Nat} (h : Over w w' (some ⟨g, o, none⟩) n) (p : Nat) (vs : List Value) : Over w (w'.setCells g p vs) (some ⟨g, o, none⟩) n :=
  ⟨h.grown.trans (grownBy_cells g vs p w'), fun g' o' e => World.there_setCells (h.there g' o' e) g p vs⟩
theorem own_far {w w' : World} {base : Nat} {e : TypeId} {size : Nat} {v : Value} {n : Nat} {xs : List Value} {row : Option Nat} (h : w.ownsRow base e size v n xs) (hg : w.grownBy w' row) (hr : ∀ g, v.ownBlock = some g → some g ≠ row) : w'.ownsRow base e size v n xs :=
  own_same h fun g e => hg.block g (h.lt g e).2 (hr g e)
theorem Over.low {w0 w w' : World} {B n : Nat} {A : Option Addr} (h : Over w w' A n) (hb : Below B w0 w) (hB : B ≤ w.heap.size) (hA : ∀ a, A = some a → B ≤ a.block) : Below B w0 w' :=
  hb.grown h.grown hB fun k hk => by
    cases A with
    | none => cases hk
    | some a =>
      cases hk
      exact hA a rfl
end Go.Proofs.YtlgfdemggkiojaaDoor
