/-
  What the laws of layer 3 that parse share: Parse's commands as a slice; two commands' cells held over calls; what is written is parsed as it was; no condition of its own.
-/
import Derived.Test.YtlgfdemggkiojaaDoorL0
namespace Go.Proofs.YtlgfdemggkiojaaDoor
open Go.RowKit

/-- Parse, in one form. -/
def ParsedS (w0 : World) (l : List UInt8) (e : Ending) (W' : World) : Prop :=
  ∃ A, e = .returned (.slice A (parseC l).length (parseC l).length) ∧ Slc W' A (parseC l) ∧ Below w0.heap.size w0 W'
theorem parse_s (A : Option Addr) (cap : Nat) (l : List UInt8) (w : World) (hlay : Lay w) (hs : Sl w A l) (hn : l.length ≤ cap) (hc : cap ≤ 9223372036854775807) :
    Calls Tryd.prog 10 #[.slice A l.length cap] w (ParsedS w l) := by
  refine (parse_any A cap l w hlay hs hn hc).mono ?_
  rintro e w' ⟨v, c, ho, hb, hv⟩
  rcases hv with ⟨rfl, rfl⟩ | ⟨g, rfl, rfl⟩
  · have h0 : parseC l = [] := by
      rcases ho.2 with ⟨_, h0⟩ | ⟨_, _, _, h0, _⟩
      · exact List.eq_nil_of_length_eq_zero h0
      · cases h0
    refine ⟨none, ?_, ?_, hb⟩
    · rw [h0]; rfl
    · rw [h0]; exact fun h => absurd rfl h
  · exact ⟨_, rfl, slc_of_own ho, hb⟩
/-- What two commands' cells hold, while the world goes on: they are the same but for their places. -/
def TwoBox (w0 : World) (g o g2 o2 : Nat) (c : Cm) (fr u : Int) (w : World) : Prop :=
  (w.cell? ⟨g, o, none⟩ = some (.int .u8 c.kind) ∧ w.cell? ⟨g, o + 1, none⟩ = some (.int .i64 c.fr) ∧ w.cell? ⟨g, o + 2, none⟩ = some (.int .i64 c.to) ∧ w.cell? ⟨g, o + 3, none⟩ = some (.int .i64 c.at_) ∧ w.cell? ⟨g, o + 4, none⟩ = some (.int .i64 c.thr) ∧ w.cell? ⟨g, o + 5, none⟩ = some (.int .u8 c.sch) ∧ w.cell? ⟨g, o + 6, none⟩ = some (.int .u8 c.op) ∧ w.cell? ⟨g, o + 7, none⟩ = some (.int .u64 c.key) ∧ w.cell? ⟨g, o + 8, none⟩ = some (.int .u64 c.val) ∧
   w.cell? ⟨g2, o2, none⟩ = some (.int .u8 c.kind) ∧ w.cell? ⟨g2, o2 + 1, none⟩ = some (.int .i64 fr) ∧ w.cell? ⟨g2, o2 + 2, none⟩ = some (.int .i64 u) ∧ w.cell? ⟨g2, o2 + 3, none⟩ = some (.int .i64 c.at_) ∧ w.cell? ⟨g2, o2 + 4, none⟩ = some (.int .i64 c.thr) ∧ w.cell? ⟨g2, o2 + 5, none⟩ = some (.int .u8 c.sch) ∧ w.cell? ⟨g2, o2 + 6, none⟩ = some (.int .u8 c.op) ∧ w.cell? ⟨g2, o2 + 7, none⟩ = some (.int .u64 c.key) ∧ w.cell? ⟨g2, o2 + 8, none⟩ = some (.int .u64 c.val)) ∧ Hid (Below w0.heap.size w0 w)
section
variable {w0 w1 w2 : World} {g o g2 o2 : Nat} {c : Cm} {fr u : Int}
theorem TwoBox.step (hg : g < w0.heap.size) (hg2 : g2 < w0.heap.size) (h : TwoBox w0 g o g2 o2 c fr u w1) (hb : Below w1.heap.size w1 w2) : TwoBox w0 g o g2 o2 c fr u w2 := by
  obtain ⟨⟨a0, a1, a2, a3, a4, a5, a6, a7, a8, b0, b1, b2, b3, b4, b5, b6, b7, b8⟩, hB⟩ := h
  exact ⟨⟨cell_keep hB.out hb hg a0, cell_keep hB.out hb hg a1, cell_keep hB.out hb hg a2, cell_keep hB.out hb hg a3, cell_keep hB.out hb hg a4, cell_keep hB.out hb hg a5, cell_keep hB.out hb hg a6, cell_keep hB.out hb hg a7, cell_keep hB.out hb hg a8, cell_keep hB.out hb hg2 b0, cell_keep hB.out hb hg2 b1, cell_keep hB.out hb hg2 b2, cell_keep hB.out hb hg2 b3, cell_keep hB.out hb hg2 b4, cell_keep hB.out hb hg2 b5, cell_keep hB.out hb hg2 b6, cell_keep hB.out hb hg2 b7, cell_keep hB.out hb hg2 b8⟩, Lib.hid (below_next hB.out hb)⟩
theorem TwoBox.drew (h : TwoBox w0 g o g2 o2 c fr u w1) : TwoBox w0 g o g2 o2 c fr u w1.drew := ⟨h.1, Lib.hid h.2.out.drew⟩
theorem TwoBox.low (h : TwoBox w0 g o g2 o2 c fr u w1) : Below w0.heap.size w0 w1 := h.2.out
end
theorem flatB_cons (c : Cm) (r : List Cm) : flatB (c :: r) = codeC c ++ flatB r := rfl
/-- What is written is parsed as it was. -/
theorem parse_back (o : Nat) (l : List Cm) (h : ∀ c ∈ l, mayC c = true) : (parseFrom o (flatB l)).map Cm.bare = l.map Cm.bare := by
  induction l generalizing o with
  | nil => rw [show flatB [] = [] from rfl, parseFrom_nil]
  | cons c r ih =>
    have hne : codeC c ++ flatB r ≠ [] := fun e => codeC_ne c (List.append_eq_nil_iff.1 e).1
    obtain ⟨h1, h2⟩ := dec_code (h c (List.mem_cons_self ..)) (flatB r)
    rw [flatB_cons, parseFrom_cons o _ hne, h2, List.drop_left, List.map_cons, ih _ (fun d hd => h d (List.mem_cons_of_mem _ hd)), List.map_cons, h1]
    rfl
theorem back_all {l : List Cm} (h : l.all mayC = true) (hl : l.length ≤ 10000) : (parseC (flatB l)).map Cm.bare = l.map Cm.bare := by
  have hlen := flatB_length l
  unfold parseC
  rw [take_most _ (by omega)]
  exact parse_back 0 l (List.all_eq_true.1 h)
theorem back_length {l : List Cm} (h : (parseC (flatB l)).map Cm.bare = l.map Cm.bare) : (parseC (flatB l)).length = l.length := by
  have e : ((parseC (flatB l)).map Cm.bare).length = (l.map Cm.bare).length := by rw [h]
  simpa using e
theorem back_at {l m : List Cm} {k : Nat} {c d : Cm} (h : m.map Cm.bare = l.map Cm.bare) (hc : m[k]? = some c) (hd : l[k]? = some d) : d = { c with fr := d.fr, «to» := d.to } := by
  have e : (m.map Cm.bare)[k]? = (l.map Cm.bare)[k]? := by rw [h]
  rw [List.getElem?_map, List.getElem?_map, hc, hd] at e
  simp only [Option.map_some, Option.some.injEq] at e
  cases c
  cases d
  simp only [Cm.bare, Cm.mk.injEq] at e ⊢
  obtain ⟨e0, _, _, e3, e4, e5, e6, e7, e8⟩ := e
  exact ⟨e0.symm, trivial, trivial, e3.symm, e4.symm, e5.symm, e6.symm, e7.symm, e8.symm⟩
end Go.Proofs.YtlgfdemggkiojaaDoor
