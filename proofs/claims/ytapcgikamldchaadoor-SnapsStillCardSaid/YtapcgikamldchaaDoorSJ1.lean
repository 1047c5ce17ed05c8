/-
  Both takers, side by side: what stands between two steps, behind the document's and behind the program's; condition: both memories lie as they say and say the same, both takers lie as they say.
-/
import Derived.Test.YtapcgikamldchaaDoorSK
namespace Go.Proofs.YtapcgikamldchaaDoor
open Go.RowKit Go.Maps

theorem InvS.step' {k : Nat} {s : SG} {V : Ad → Int} (h : InvS k s) (hV : ∀ x, U64 (V x)) : ∃ k', k ≤ k' ∧ InvS k' (stepS V s) ∧ (s.ln ≠ 0 → k' = k + 1) := by
  by_cases hn : s.ln = 0
  · exact ⟨k, Nat.le_refl _, by rw [show stepS V s = s from if_pos hn]; exact h, fun h => absurd hn h⟩
  · exact ⟨k + 1, by omega, h.step hn hV, fun _ => rfl⟩
/-- Between two steps. -/
structure PT (W : World) (p m b T0 q K c k : Nat) (P : List Nat) (v : Value) (s : SG) (w : World) : Prop where
  both : Both p m b c w
  lay : Lay w
  laym : LayM w
  low : Below W.heap.size W w
  mW : W.heap.size ≤ m
  w0 : 0 < W.heap.size
  box : Bq T0 27 [.pointer (some ⟨p, 0, none⟩), .pointer (some ⟨b, 0, none⟩)] w
  prg : TRep q P s w
  doc : Bk K 38 (RDt s v) w
  row : OwnH w W.heap.size v s.l
  ap : ∀ y ∈ P, y ≠ K ∧ v.ownBlock ≠ some y
  lowP : ∀ y ∈ P, W.heap.size ≤ y
  lowK : W.heap.size ≤ K
  inv : InvS k s
/-- Behind the document's step, ahead of the program's. -/
structure Mid (W : World) (p m b T0 q K c k : Nat) (P : List Nat) (v : Value) (s s' : SG) (w : World) : Prop where
  ex : ∃ (M : MV) (n : Nat) (D : DataW Unit) (L : List (Ad × Int)), Pr p m b n D M.s L (memT M s).s w ∧ AftP L (c + 1) (memT M s) ∧ VX p m M w ∧ s' = stepS M.V s ∧ M.s.st ≤ c
  lay : Lay w
  laym : LayM w
  low : Below W.heap.size W w
  mW : W.heap.size ≤ m
  w0 : 0 < W.heap.size
  box : Bq T0 27 [.pointer (some ⟨p, 0, none⟩), .pointer (some ⟨b, 0, none⟩)] w
  prg : TRep q P s w
  doc : Bk K 38 (RDt s' v) w
  row : OwnH w W.heap.size v s'.l
  ap : ∀ y ∈ P, y ≠ K ∧ v.ownBlock ≠ some y
  lowP : ∀ y ∈ P, W.heap.size ≤ y
  lowK : W.heap.size ≤ K
  inv : InvS k s
  inv' : InvS (k + 1) s'
section
variable {W w w' : World} {p m b T0 q K c c' k : Nat} {P : List Nat} {v : Value} {s s' : SG}
theorem Both.below (h : Both p m b c w) (hb : Below w.heap.size w w') : Both p m b c w' := by
  obtain ⟨n, D, s, L, hP, rest⟩ := h
  exact ⟨n, D, s, L, hP.below hb, rest⟩
theorem TRep.lt (h : TRep q P s w) {y : Nat} (hy : y ∈ P) : y < w.heap.size := by obtain ⟨_, _, k, _⟩ := h.own y hy; exact k.lt
theorem TRep.below (h : TRep q P s w) (hb : Below w.heap.size w w') : TRep q P s w' := h.same fun y hy => hb.block y (h.lt hy)
theorem PT.ownP (h : PT W p m b T0 q K c k P v s w) : ∀ y ∈ P, OwnX W.heap.size y w := fun y hy => ⟨h.lowP y hy, h.prg.own y hy⟩
theorem PT.below (h : PT W p m b T0 q K c k P v s w) (hb : Below w.heap.size w w') : PT W p m b T0 q K c k P v s w' :=
  ⟨h.both.below hb, h.lay.below hb, h.laym.below hb, h.low.trans (hb.mono h.low.size), h.mW, h.w0, h.box.below hb, h.prg.below hb, h.doc.below hb, h.row.below hb, h.ap, h.lowP, h.lowK, h.inv⟩
theorem Mid.below (h : Mid W p m b T0 q K c k P v s s' w) (hb : Below w.heap.size w w') : Mid W p m b T0 q K c k P v s s' w' := by
  obtain ⟨M, n, D, L, h1, h2, h3, h4, h5⟩ := h.ex
  exact ⟨⟨M, n, D, L, h1.below hb, h2, h3.below hb, h4, h5⟩, h.lay.below hb, h.laym.below hb, h.low.trans (hb.mono h.low.size), h.mW, h.w0, h.box.below hb, h.prg.below hb, h.doc.below hb, h.row.below hb, h.ap, h.lowP, h.lowK, h.inv, h.inv'⟩
theorem Both.mono (h : Both p m b c w) (hc : c ≤ c') : Both p m b c' w := by
  obtain ⟨n, D, s, L, hP, hr, hL, hn, h0, h1⟩ := h
  exact ⟨n, D, s, L, hP, hr, by omega, hn, h0, by omega⟩
theorem PT.mono (h : PT W p m b T0 q K c k P v s w) (hc : c ≤ c') : PT W p m b T0 q K c' k P v s w :=
  ⟨h.both.mono hc, h.lay, h.laym, h.low, h.mW, h.w0, h.box, h.prg, h.doc, h.row, h.ap, h.lowP, h.lowK, h.inv⟩
theorem PT.boxes (h : PT W p m b T0 q K c k P v s w) : w.cell? ⟨T0, 0, none⟩ = some (.pointer (some ⟨p, 0, none⟩)) ∧ w.cell? ⟨T0, 1, none⟩ = some (.pointer (some ⟨b, 0, none⟩)) := ⟨h.box.cell 0, h.box.cell 1⟩
theorem Mid.boxes (h : Mid W p m b T0 q K c k P v s s' w) : w.cell? ⟨T0, 0, none⟩ = some (.pointer (some ⟨p, 0, none⟩)) ∧ w.cell? ⟨T0, 1, none⟩ = some (.pointer (some ⟨b, 0, none⟩)) := ⟨h.box.cell 0, h.box.cell 1⟩
theorem PT.line (h : PT W p m b T0 q K c k P v s w) : w.cell? ⟨K, 0, none⟩ = some (.int .i64 s.ln) := h.doc.cell 0
theorem Mid.line (h : Mid W p m b T0 q K c k P v s s' w) : w.cell? ⟨K, 0, none⟩ = some (.int .i64 s'.ln) := h.doc.cell 0
theorem both_same (h : Both p m b c w) : Calls Tryd.prog 17 #[.agg #[.pointer (some ⟨p, 0, none⟩), .pointer (some ⟨b, 0, none⟩)]] w fun e W' => e = .returned (.bool true) ∧ Below w.heap.size w W' := by
  obtain ⟨n, D, s, L, hP, _⟩ := h
  exact pair_same hP
theorem both_store (h : Both p m b c w) (hl : LayM w) (hc : c ≤ 900) (x : Ad) (v : Int) (hv : (Lit.int .u64 v).wf = true) :
    Calls Tryd.prog 11 #[.agg #[.pointer (some ⟨p, 0, none⟩), .pointer (some ⟨b, 0, none⟩)], .agg #[.int .u8 x.k, .int .i64 x.a, .int .i64 x.f, .int .u64 v]] w fun e W' => e = .returned (.tuple #[]) ∧ Both p m b (c + 1) W' ∧ Fr p m b w W' := by
  obtain ⟨n, D, s, L, hP, hr, hL, hn, h0, h1⟩ := h
  refine (pair_store2 x v hv hP hr hl h0 (by omega) (by omega) (by omega)).mono ?_
  rintro e W' ⟨rfl, hP', hf⟩
  have := storeA_len L x v
  exact ⟨rfl, ⟨_, _, _, _, hP', hr.store x v, by omega, by show ((n + 1 : Nat) : Int) ≤ s.st + 1; omega, by show 0 ≤ s.st + 1; omega, by show s.st + 1 ≤ _; push_cast; omega⟩, hf⟩
theorem Both.prs (h : Both p m b c w) : ∃ n D s L, Pr p m b n D s L s w := by
  obtain ⟨n, D, s, L, hP, _⟩ := h
  exact ⟨n, D, s, L, hP⟩
/-- A word is stored in both memories. -/
theorem PT.fr (h : PT W p m b T0 q K c k P v s w) (hb : Both p m b c' w') (f : Fr p m b w w') : PT W p m b T0 q K c' k P v s w' := by
  obtain ⟨n, D, s8, L, P0⟩ := h.both.prs
  obtain ⟨⟨cp, kp⟩, ⟨cb, kb⟩, _⟩ := P0.blocks (M := ⟨fun _ => 0, s8⟩)
  have far : ∀ z t cs, Bq z t cs w → t ≠ 90 → t ≠ 80 → t ≠ 106 → Bq z t cs w' := fun z t cs kz h1 h2 h3 => f.cell kz h3 (kz.ne kp h1) (kz.ne kb h2)
  have hlow : Below W.heap.size w w' := f.low.mono h.mW
  refine ⟨hb, Lay.all w', f.lay (by have := h.w0; have := h.mW; omega) h.laym, h.low.trans hlow, h.mW, h.w0, far _ _ _ h.box (by decide) (by decide) (by decide), h.prg.same fun y hy => ?_, far _ _ _ h.doc (by decide) (by decide) (by decide), h.row.same fun y hy => ?_, h.ap, h.lowP, h.lowK, h.inv⟩
  · obtain ⟨t, cs, kz, ht⟩ := h.prg.own y hy
    exact (far y t cs kz (by rintro rfl; revert ht; decide) (by rintro rfl; revert ht; decide) (by rintro rfl; revert ht; decide)).trans (Eq.symm kz)
  · obtain ⟨_, cs, kz⟩ := h.row.bq hy
    exact (far y _ cs kz (by decide) (by decide) (by decide)).trans (Eq.symm kz)
/-- The document's step. -/
theorem PT.stepD (h : PT W p m b T0 q K c k P v s w) (hc : c ≤ 900) (hn : s.ln ≠ 0) : Calls Tryd.prog 14 #[.pointer (some ⟨K, 0, none⟩), .pointer (some ⟨b, 0, none⟩)] w fun e w1 => e = .returned (.tuple #[]) ∧ ∃ v' s', Mid W p m b T0 q K c k P v' s s' w1 := by
  obtain ⟨M, n, D, L, S, hnn, hst⟩ := h.both.toM hc
  have hBm := h.mW
  refine (docT h.inv hBm hc S h.doc h.row h.lowK).mono ?_
  rintro e w1 ⟨rfl, L', v', A', O, hfr⟩
  have own := h.ownP
  have hPlt : ∀ y ∈ P, y < w.heap.size := fun y hy => (own y hy).lt
  have hv : ∀ y ∈ P, v.ownBlock ≠ some y := fun y hy => (h.ap y hy).2
  have sP : ∀ y ∈ P, w1.heap[y]? = w.heap[y]? := fun y hy => (own y hy).fxl S.pr O.f (by
    simp only [List.mem_cons, Option.mem_toList]
    rintro (e | e)
    · exact (h.ap y hy).1 e
    · exact hv y hy e)
  have lay1 : LayM w1 := O.f.laym h.w0 h.laym
  have hbox : Bq T0 27 [.pointer (some ⟨p, 0, none⟩), .pointer (some ⟨b, 0, none⟩)] w1 := by
    obtain ⟨⟨cp, kp⟩, ⟨cb, kb⟩, _⟩ := S.pr.blocks
    refine O.f.far T0 _ _ _ h.box (by decide) (h.box.ne kp (by decide)) (h.box.ne kb (by decide)) ?_
    simp only [List.mem_cons, Option.mem_toList]
    rintro (e | e)
    · exact h.box.ne (show Bq K _ _ w from h.doc) (by decide) e
    · obtain ⟨_, cs, kz⟩ := h.row.bq e
      exact h.box.ne kz (by decide) rfl
  refine ⟨rfl, v', stepS M.V s, ⟨⟨M, n, D, L', O.pr, A', S.vx hnn O.pr (Lay.all w1) lay1 (by have := h.w0; omega), rfl, hst⟩, Lay.all w1, lay1, h.low.trans O.f.low, hBm, h.w0, hbox, h.prg.same sP, O.k, O.row, fun y hy => ⟨(h.ap y hy).1, fun e => ?_⟩, h.lowP, h.lowK, h.inv, h.inv.step hn S.u64⟩⟩
  rcases hfr y e with h1 | h1
  · exact hv y hy h1
  · have := hPlt y hy; omega
/-- The program's, behind it. -/
theorem Mid.stepP (h : Mid W p m b T0 q K c k P v s s' w) (hc : c ≤ 900) : Calls Tryd.prog 15 #[.pointer (some ⟨q, 0, none⟩), .pointer (some ⟨p, 0, none⟩)] w fun e w2 => e = .returned (.bool (decide (s'.ln = 0))) ∧ ∃ P', PT W p m b T0 q K (c + 1) (k + 1) P' v s' w2 := by
  obtain ⟨M, n, D, L, P1, A', F, rfl, hst⟩ := h.ex
  have hWm := h.mW
  have hW0 := h.w0
  have oP : ∀ y ∈ P, OwnX W.heap.size y w := fun y hy => ⟨h.lowP y hy, h.prg.own y hy⟩
  refine (stepT_all (fun y hy => by have := h.lowP y hy; omega) F (by omega) h.inv h.prg).mono ?_
  rintro e w2 ⟨rfl, fp', hsub, Q', F2, on⟩
  have hs1 := (memT_st M s).2
  have hB : BothM p m b (c + 1) (memT M s) w2 := BothM.of_vx P1 A' F2 on oP (by push_cast; omega) hc
  have hWp : W.heap.size ≤ p := by have := P1.mp; omega
  have keep : ∀ z t cs, Bq z t cs w → t ≠ 90 → z ∉ P → Bq z t cs w2 := fun z t cs kz ht hz => by
    obtain ⟨h1, h2⟩ := F.ne ht kz
    exact (on.block z kz.lt h1 h2 hz).trans kz
  refine ⟨rfl, fp', ⟨hB.both, Lay.all w2, on.laym (by omega) (by omega) (fun y hy => by have := h.lowP y hy; omega) h.laym, h.low.trans (on.below hWp hWm h.lowP h.low.size), hWm, hW0, keep _ _ _ h.box (by decide) (fun hy => ?_), Q', keep _ _ _ h.doc (by decide) (fun hy => (h.ap K hy).1 rfl), h.row.same fun y hy => ?_, fun y hy => ?_, fun y hy => ?_, h.lowK, h.inv'⟩⟩
  · obtain ⟨t, cs, kz, ht⟩ := h.prg.own T0 hy
    have := bq_type kz h.box
    subst this
    revert ht; decide
  · obtain ⟨_, cs, kz⟩ := h.row.bq hy
    exact (keep y _ cs kz (by decide) fun hyP => (h.ap y hyP).2 hy).trans (Eq.symm kz)
  · rcases hsub y hy with h1 | h1
    · exact h.ap y h1
    · refine ⟨fun e => ?_, fun e => ?_⟩
      · have := h.doc.lt; omega
      · have := h.row.lt e; omega
  · rcases hsub y hy with h1 | h1
    · exact h.lowP y h1
    · have := h.low.size; omega
end
end Go.Proofs.YtapcgikamldchaaDoor
