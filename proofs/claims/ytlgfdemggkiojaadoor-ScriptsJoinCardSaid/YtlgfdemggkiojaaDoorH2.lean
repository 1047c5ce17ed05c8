/-
  The law's Same of layer 3, of the same commands twice, as the program has them and as the document has them: yes; condition: they lie as it says.
-/
import Derived.Test.YtlgfdemggkiojaaDoorH1
namespace Go.Proofs.YtlgfdemggkiojaaDoor
open Go.RowKit

/-- What two commands' cells hold, while the world goes on. -/
def SameBox (w0 : World) (g o g2 o2 : Nat) (c : Cm) (w : World) : Prop :=
  (w.cell? ⟨g, o, none⟩ = some (.int .u8 c.kind) ∧ w.cell? ⟨g, o + 1, none⟩ = some (.int .i64 c.fr) ∧ w.cell? ⟨g, o + 2, none⟩ = some (.int .i64 c.to) ∧ w.cell? ⟨g, o + 3, none⟩ = some (.int .i64 c.at_) ∧ w.cell? ⟨g, o + 4, none⟩ = some (.int .i64 c.thr) ∧ w.cell? ⟨g, o + 5, none⟩ = some (.int .u8 c.sch) ∧ w.cell? ⟨g, o + 6, none⟩ = some (.int .u8 c.op) ∧ w.cell? ⟨g, o + 7, none⟩ = some (.int .u64 c.key) ∧ w.cell? ⟨g, o + 8, none⟩ = some (.int .u64 c.val) ∧
   w.cell? ⟨g2, o2, none⟩ = some (.int .i64 c.kind) ∧ w.cell? ⟨g2, o2 + 1, none⟩ = some (.int .i64 c.fr) ∧ w.cell? ⟨g2, o2 + 2, none⟩ = some (.int .i64 c.to) ∧ w.cell? ⟨g2, o2 + 3, none⟩ = some (.int .i64 c.at_) ∧ w.cell? ⟨g2, o2 + 4, none⟩ = some (.int .i64 c.thr) ∧ w.cell? ⟨g2, o2 + 5, none⟩ = some (.int .u8 c.sch) ∧ w.cell? ⟨g2, o2 + 6, none⟩ = some (.int .i64 c.op) ∧ w.cell? ⟨g2, o2 + 7, none⟩ = some (.int .u64 c.key) ∧ w.cell? ⟨g2, o2 + 8, none⟩ = some (.int .u64 c.val)) ∧ Hid (Below w0.heap.size w0 w)
section
variable {w0 w1 w2 : World} {g o g2 o2 : Nat} {c : Cm}
theorem SameBox.step (hg : g < w0.heap.size) (hg2 : g2 < w0.heap.size) (h : SameBox w0 g o g2 o2 c w1) (hb : Below w1.heap.size w1 w2) : SameBox w0 g o g2 o2 c w2 := by
  obtain ⟨⟨a0, a1, a2, a3, a4, a5, a6, a7, a8, b0, b1, b2, b3, b4, b5, b6, b7, b8⟩, hB⟩ := h
  exact ⟨⟨cell_keep hB.out hb hg a0, cell_keep hB.out hb hg a1, cell_keep hB.out hb hg a2, cell_keep hB.out hb hg a3, cell_keep hB.out hb hg a4, cell_keep hB.out hb hg a5, cell_keep hB.out hb hg a6, cell_keep hB.out hb hg a7, cell_keep hB.out hb hg a8, cell_keep hB.out hb hg2 b0, cell_keep hB.out hb hg2 b1, cell_keep hB.out hb hg2 b2, cell_keep hB.out hb hg2 b3, cell_keep hB.out hb hg2 b4, cell_keep hB.out hb hg2 b5, cell_keep hB.out hb hg2 b6, cell_keep hB.out hb hg2 b7, cell_keep hB.out hb hg2 b8⟩, Lib.hid (below_next hB.out hb)⟩
theorem SameBox.drew (h : SameBox w0 g o g2 o2 c w1) : SameBox w0 g o g2 o2 c w1.drew := ⟨h.1, Lib.hid h.2.out.drew⟩
theorem SameBox.low (h : SameBox w0 g o g2 o2 c w1) : Below w0.heap.size w0 w1 := h.2.out
end
set_option maxRecDepth 100000 in
set_option maxHeartbeats 4000000 in
theorem same_any (A B : Option Addr) (ca cb : Nat) (l : List Cm) (w : World) (ha : Slc w A l) (hb : RSlc w B l) (hf : ∀ c ∈ l, c.Fit) (hl : l.length ≤ 100000) :
    Calls Tryd.prog 14 #[.slice A l.length ca, .slice B l.length cb] w fun e w' => e = .returned (.bool true) ∧ Below w.heap.size w w' := by
  have HA := Lib.hid ha
  have HB := Lib.hid hb
  have HF := Lib.hid hf
  have H0 := Lib.hid (Below.refl w.heap.size w)
  clear ha hb hf
  go_enter Tryd.func14, Tryd.ntmps14
  go_wp2_with fail
  go_loopw [5] (fun i wr => ∃ k : Nat, k ≤ l.length ∧ i = .int .i64 (k : Int) ∧ Below w.heap.size w wr) (fun i _ => l.length - (intOf i).toNat)
  case atStart => exact ⟨0, Nat.zero_le _, rfl, H0.out⟩
  case round =>
    obtain ⟨k, hk, rfl, hr⟩ := hrel
    have HR := Lib.hid hr
    clear hr
    by_cases hlt : k < l.length
    · obtain ⟨c, hc⟩ : ∃ c, l[k]? = some c := ⟨_, List.getElem?_eq_getElem hlt⟩
      have hne : l ≠ [] := fun e => by rw [e] at hlt; simp at hlt
      obtain ⟨g, off, rfl, hcm⟩ := HA.out hne
      obtain ⟨g2, off2, rfl, hcm2⟩ := HB.out hne
      obtain ⟨a0, a1, a2, a3, a4, a5, a6, a7, a8⟩ := hcm.below (w' := wr) HR.out k c hc
      obtain ⟨b0, b1, b2, b3, b4, b5, b6, b7, b8⟩ := hcm2.below (w' := wr) HR.out k c hc
      have hfit := HF.out c (List.mem_of_getElem? hc)
      have HFIT := Lib.hid hfit
      have hgl := World.block_lt_of_cell? wr _ a0
      have hgl2 := World.block_lt_of_cell? wr _ b0
      have hbox : SameBox wr g (off + k * 9) g2 (off2 + k * 9) c wr := ⟨⟨a0, a1, a2, a3, a4, a5, a6, a7, a8, b0, b1, b2, b3, b4, b5, b6, b7, b8⟩, Lib.hid (Below.refl _ _)⟩
      have hlt' : (k : Int) < (l.length : Int) := by omega
      have hge : (0 : Int) ≤ (k : Int) := by omega
      have hnq := neq38_self c.kind c.fr c.to c.at_ c.thr c.sch c.op c.key c.val
      clear hc hcm hcm2 hfit a0 a1 a2 a3 a4 a5 a6 a7 a8 b0 b1 b2 b3 b4 b5 b6 b7 b8
      go_wp2_with fail
      go_region_held3 (fun w1 => (w1.cell? ⟨g, off + k * 9, none⟩ = some (.int .u8 c.kind) ∧ w1.cell? ⟨g, off + k * 9 + 1, none⟩ = some (.int .i64 c.fr) ∧ w1.cell? ⟨g, off + k * 9 + 2, none⟩ = some (.int .i64 c.to) ∧ w1.cell? ⟨g, off + k * 9 + 3, none⟩ = some (.int .i64 c.at_) ∧ w1.cell? ⟨g, off + k * 9 + 4, none⟩ = some (.int .i64 c.thr) ∧ w1.cell? ⟨g, off + k * 9 + 5, none⟩ = some (.int .u8 c.sch) ∧ w1.cell? ⟨g, off + k * 9 + 6, none⟩ = some (.int .u8 c.op) ∧ w1.cell? ⟨g, off + k * 9 + 7, none⟩ = some (.int .u64 c.key) ∧ w1.cell? ⟨g, off + k * 9 + 8, none⟩ = some (.int .u64 c.val) ∧ w1.cell? ⟨g2, off2 + k * 9, none⟩ = some (.int .i64 c.kind) ∧ w1.cell? ⟨g2, off2 + k * 9 + 1, none⟩ = some (.int .i64 c.fr) ∧ w1.cell? ⟨g2, off2 + k * 9 + 2, none⟩ = some (.int .i64 c.to) ∧ w1.cell? ⟨g2, off2 + k * 9 + 3, none⟩ = some (.int .i64 c.at_) ∧ w1.cell? ⟨g2, off2 + k * 9 + 4, none⟩ = some (.int .i64 c.thr) ∧ w1.cell? ⟨g2, off2 + k * 9 + 5, none⟩ = some (.int .u8 c.sch) ∧ w1.cell? ⟨g2, off2 + k * 9 + 6, none⟩ = some (.int .i64 c.op) ∧ w1.cell? ⟨g2, off2 + k * 9 + 7, none⟩ = some (.int .u64 c.key) ∧ w1.cell? ⟨g2, off2 + k * 9 + 8, none⟩ = some (.int .u64 c.val)) ∧ Hid (Below wr.heap.size wr w1))
        (first | exact SameBox.drew hbox | (refine SameBox.step hgl hgl2 ?_ hb; assumption))
        (first | (go_at_call 15; refine (other_v c _ HFIT.out).mono ?_; rintro e w' ⟨rfl, hb⟩; simp only [Cm.r]))
      have hlow := Lib.hid (HR.out.trans ((SameBox.low (w0 := wr) (g := g) (o := off + k * 9) (g2 := g2) (o2 := off2 + k * 9) (c := c) (by assumption)).mono HR.out.size))
      go_wp2
      go_roundw
      case rel => exact ⟨k + 1, by omega, by go_num, hlow.out⟩
      case measure => simp [intOf]; omega
    · have hge : (l.length : Int) ≤ (k : Int) := by omega
      go_wp2
      go_ret
      exact ⟨rfl, HR.out⟩
end Go.Proofs.YtlgfdemggkiojaaDoor
