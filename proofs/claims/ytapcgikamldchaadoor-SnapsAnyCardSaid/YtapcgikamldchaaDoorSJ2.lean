/-
  What stands when a snapshot was told: both takers, the snapshot's box, its row; a step of one that is over; condition: all lies as it says.
-/
import Derived.Test.YtapcgikamldchaaDoorSL1
namespace Go.Proofs.YtapcgikamldchaaDoor
open Go.RowKit Go.Maps

structure PG (W : World) (p m b T0 q K c k : Nat) (P : List Nat) (v : Value) (s : SG) (X : Nat) (A : Option Addr) (n : Nat) (ys : List TH) (w : World) : Prop where
  pt : PT W p m b T0 q K c k P v s w
  box : Bq X 36 [.slice A n n, .int .u64 0] w
  row : OwnH w W.heap.size (.slice A n n) ys
  ap : ∀ g, (Value.slice A n n).ownBlock = some g → g ∉ P ∧ v.ownBlock ≠ some g
section
variable {W w w' : World} {p m b T0 q K c c' k X n : Nat} {P : List Nat} {v : Value} {s : SG} {A : Option Addr} {ys : List TH}
theorem PG.below (h : PG W p m b T0 q K c k P v s X A n ys w) (hb : Below w.heap.size w w') : PG W p m b T0 q K c k P v s X A n ys w' := ⟨h.pt.below hb, h.box.below hb, h.row.below hb, h.ap⟩
/-- A step of one that is over. -/
theorem PT.over (h : PT W p m b T0 q K c k P v s w) (hn : s.ln = 0) (hc : c ≤ 900) : Calls Tryd.prog 15 #[.pointer (some ⟨q, 0, none⟩), .pointer (some ⟨p, 0, none⟩)] w fun e w2 => e = .returned (.bool true) ∧ ∃ P', PT W p m b T0 q K (c + 1) k P' v s w2 ∧ (∀ y ∈ P', y ∈ P ∨ w.heap.size ≤ y) ∧ ∀ z t cs, Bq z t cs w → t ≠ 90 → z ∉ P → Bq z t cs w2 := by
  obtain ⟨M, n, D, L, S, hnn, hst⟩ := h.both.toM hc
  have hWm := h.mW
  have hW0 := h.w0
  have e1 : stepS M.V s = s := if_pos hn
  have e2 : memT M s = M := if_pos hn
  have F : VX p m M w := S.vx hnn S.pr (Lay.all w) h.laym (by omega)
  refine (stepT_all (fun y hy => by have := h.lowP y hy; omega) F (by omega) h.inv h.prg).mono ?_
  rintro e w2 ⟨rfl, fp', hsub, Q', F2, on⟩
  rw [e1] at Q' ⊢
  rw [e2] at F2
  have hB : BothM p m b (c + 1) M w2 := BothM.of_vx S.pr S.aft F2 on h.ownP (by push_cast; omega) hc
  have hWp : W.heap.size ≤ p := by have := S.pr.mp; omega
  have keep : ∀ z t cs, Bq z t cs w → t ≠ 90 → z ∉ P → Bq z t cs w2 := fun z t cs kz ht hz => by
    obtain ⟨h1, h2⟩ := F.ne ht kz
    exact (on.block z kz.lt h1 h2 hz).trans kz
  refine ⟨by rw [decide_eq_true hn], fp', ⟨hB.both, Lay.all w2, on.laym (by omega) (by omega) (fun y hy => by have := h.lowP y hy; omega) h.laym, h.low.trans (on.below hWp hWm h.lowP h.low.size), hWm, hW0, keep _ _ _ h.box (by decide) (fun hy => ?_), Q', keep _ _ _ h.doc (by decide) (fun hy => (h.ap K hy).1 rfl), h.row.same fun y hy => ?_, fun y hy => ?_, fun y hy => ?_, h.lowK, h.inv⟩, hsub, keep⟩
  · obtain ⟨t, cs, kz, ht⟩ := h.prg.own T0 hy
    have := bq_type kz h.box
    subst this
    revert ht; decide
  · obtain ⟨_, cs, kz⟩ := h.row.bq hy
    exact (keep y _ cs kz (by decide) fun hyP => (h.ap y hyP).2 hy).trans (Eq.symm kz)
  · rcases hsub y hy with h1 | h1
    · exact h.ap y h1
    · refine ⟨fun e => ?_, fun e => ?_⟩
      · have := h.doc.lt; omega
      · have := h.row.lt e; omega
  · rcases hsub y hy with h1 | h1
    · exact h.lowP y h1
    · have := h.low.size; omega
theorem PG.over (h : PG W p m b T0 q K c k P v s X A n ys w) (hn : s.ln = 0) (hc : c ≤ 900) : Calls Tryd.prog 15 #[.pointer (some ⟨q, 0, none⟩), .pointer (some ⟨p, 0, none⟩)] w fun e w2 => e = .returned (.bool true) ∧ ∃ P', PG W p m b T0 q K (c + 1) k P' v s X A n ys w2 := by
  refine (h.pt.over hn hc).mono ?_
  rintro e w2 ⟨rfl, P', h1, hsub, keep⟩
  refine ⟨rfl, P', h1, keep X _ _ h.box (by decide) fun hy => ?_, h.row.same fun y hy => ?_, fun g hg => ⟨fun hy => ?_, (h.ap g hg).2⟩⟩
  · obtain ⟨t, cs, kz, ht⟩ := h.pt.prg.own X hy
    have := bq_type kz h.box
    subst this
    revert ht; decide
  · obtain ⟨_, cs, kz⟩ := h.row.bq hy
    exact (keep y _ cs kz (by decide) (h.ap y hy).1).trans (Eq.symm kz)
  · rcases hsub g hy with h9 | h9
    · exact (h.ap g hg).1 h9
    · have := h.row.lt hg
      omega
/-- A word of the told row is another one. -/
theorem PG.put {g : Nat} (h : PG W p m b T0 q K c k P v s X (some ⟨g, 0, none⟩) n ys w) {j : Nat} (hj : j < ys.length) (u : Int) : PG W p m b T0 q K c k P v s X (some ⟨g, 0, none⟩) n (ys.set j ((ys.getD j TH.zero).set 0 u)) (w.setCell ⟨g, j * 10, none⟩ (.int .u64 u)) := by
  obtain ⟨hBg0, ds, kg⟩ := h.row.bq rfl
  have hBg : W.heap.size ≤ g := hBg0
  have far : ∀ y, y ≠ g → (w.setCell ⟨g, j * 10, none⟩ (.int .u64 u)).heap[y]? = w.heap[y]? := fun y hy => Below.heap_setCell w ⟨g, j * 10, none⟩ _ y hy
  have nT : ∀ {z : Nat} {t : TypeId} {cs : List Value}, Bq z t cs w → t ≠ 52 → z ≠ g := fun kz ht => kz.ne kg ht
  have hap := h.ap g rfl
  have hr := h.row.set hj (f := 0) (by decide) u
  rw [Nat.add_zero] at hr
  obtain ⟨⟨n', D, s8, L, hP, rest⟩, p2, p3, p4, p5, p6, p7, p8, p9, p10, p11, p12, p13, p14⟩ := h.pt
  refine ⟨⟨⟨n', D, s8, L, hP.keepE fun z hz hne => far z fun e => hne ds (e ▸ kg), rest⟩, Lay.all _, p3.same (by simp [World.setCell]) (far _ fun e => by omega), p4.trans ⟨rfl, rfl, rfl, by simp [World.setCell], fun z hz => far z fun e => by omega⟩, p5, p6, p7.same (far _ (nT p7 (by decide))), p8.same fun y hy => far y fun e => hap.1 (e ▸ hy), p9.same (far _ (nT p9 (by decide))), p10.same fun y hy => far y fun e => hap.2 (e ▸ hy), p11, p12, p13, p14⟩, h.box.same (far _ (nT h.box (by decide))), hr, h.ap⟩
end
end Go.Proofs.YtapcgikamldchaaDoor
