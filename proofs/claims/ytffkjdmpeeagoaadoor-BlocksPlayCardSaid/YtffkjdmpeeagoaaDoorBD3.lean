/-
  An operation of layer 11 and the document's side by side: a step of the document's, then one of the program's; condition: both memories lie as they say and say the same, both operations as they say.
-/
import Derived.Test.YtffkjdmpeeagoaaDoorBD2
import Derived.Test.YtffkjdmpeeagoaaDoorBK2
namespace Go.Proofs.YtffkjdmpeeagoaaDoor
open Go.RowKit Go.Maps

section
variable {B p m b n c K : Nat} {o : BO} {D : DataW Unit} {s r : Acc8} {L : List (Ad × Int)} {M : MV} {E : List Nat} {w w' w1 w2 : World}
/-- An operation of the law's: what it is (0: a Join, 1: a Leave), its block, the document's. -/
structure JO where
  kd : Nat
  q : Nat
  K : Nat
def JO.fp (x : JO) : List Nat := [x.q, x.K]
def JBk (B : Nat) (x : JO) (o : BO) (w : World) : Prop := BNum o ∧ ((x.kd = 0 ∧ o.lv = false) ∨ (x.kd = 1 ∧ o.lv = true)) ∧ KRep x.q o w ∧ Bk x.K 99 o.cells w ∧ B ≤ x.q ∧ B ≤ x.K
def JAt (B : Nat) (x : JO) (w : World) : Prop := ∃ o, JBk B x o w
def JO.sub (x x' : JO) (n : Nat) : Prop := x'.kd = x.kd ∧ x'.q = x.q ∧ x'.K = x.K ∧ ∀ y ∈ x'.fp, y ∈ x.fp ∨ n ≤ y
theorem JO.sub_refl (x : JO) (n : Nat) : x.sub x n := ⟨rfl, rfl, rfl, fun _ h => .inl h⟩
theorem KRep.ownX {q : Nat} (h : KRep q o w) (hB : B ≤ q) : OwnX B q w := by
  obtain ⟨t, cs, k, rfl | rfl⟩ := h.bq
  · exact ⟨hB, _, _, k, by decide⟩
  · exact ⟨hB, _, _, k, by decide⟩
theorem KRep.neR {q : Nat} {cs : List Value} (h : KRep q o w) (k : Bk K 99 cs w) : q ≠ K := by
  obtain ⟨t, ds, g, rfl | rfl⟩ := h.bq
  · exact g.ne (show Bq K 99 cs w from k) (by decide)
  · exact g.ne (show Bq K 99 cs w from k) (by decide)
theorem JBk.own {x : JO} (h : JBk B x o w) : ∀ y ∈ x.fp, OwnX B y w := fun y hy => by
  simp only [JO.fp, List.mem_cons, List.not_mem_nil, or_false] at hy
  rcases hy with rfl | rfl
  · exact h.2.2.1.ownX h.2.2.2.2.1
  · exact ⟨h.2.2.2.2.2, _, _, show Bq _ 99 _ w from h.2.2.2.1, by decide⟩
theorem JBk.same {x : JO} (h : JBk B x o w) (hs : ∀ y ∈ x.fp, w'.heap[y]? = w.heap[y]?) : JBk B x o w' :=
  ⟨h.1, h.2.1, h.2.2.1.same (hs _ (by simp [JO.fp])), h.2.2.2.1.same (hs _ (by simp [JO.fp])), h.2.2.2.2⟩
theorem JAt.own {x : JO} (h : JAt B x w) : ∀ y ∈ x.fp, OwnX B y w := by obtain ⟨o, h⟩ := h; exact h.own
theorem JAt.same {x : JO} (h : JAt B x w) (hs : ∀ y ∈ x.fp, w'.heap[y]? = w.heap[y]?) : JAt B x w' := by obtain ⟨o, h⟩ := h; exact ⟨o, h.same hs⟩
theorem JBk.below {x : JO} (h : JBk B x o w) (hb : Below w.heap.size w w') : JBk B x o w' := h.same fun y hy => hb.block y (h.own y hy).lt
theorem JAt.below {x : JO} (h : JAt B x w) (hb : Below w.heap.size w w') : JAt B x w' := by obtain ⟨o, h⟩ := h; exact ⟨o, h.below hb⟩
theorem kX_lv (o : BO) (M : MV) : (kX o M).1.lv = o.lv := by
  unfold kX lessX moreX
  repeat' split
  all_goals rfl
/-- Behind both steps. -/
def JDone (B p m b c : Nat) (x : JO) (o' : BO) (w : World) (ee : Ending) (w2 : World) : Prop := ee = .returned (.bool (o'.ln == 0)) ∧ FxL B p b x.fp w w2 ∧ Both p m b (c + 1) w2 ∧ JBk B x o' w2
set_option maxHeartbeats 4000000 in
theorem joint {x : JO} (hB : 1 < B) (hBm : B ≤ m) (hc : c ≤ 900) (hb : Both p m b c w) (hl : Lay w) (hlm : LayM w) (J : JBk B x o w) :
    ∃ o', o'.lv = o.lv ∧ Calls Tryd.prog 42 #[.pointer (some ⟨x.K, 0, none⟩), .pointer (some ⟨b, 0, none⟩)] w fun ee w1 => ee = .returned (.tuple #[]) ∧ FxL B p b x.fp w w1 ∧ w1.cell? ⟨x.K, 1, none⟩ = some (.int .i64 o'.ln) ∧ w1.cell? ⟨x.K, 2, none⟩ = some (.int .i64 o'.e) ∧
      ∀ X, Below w1.heap.size w1 X → Calls Tryd.prog (fnK o'.lv) #[.pointer (some ⟨x.q, 0, none⟩), .pointer (some ⟨p, 0, none⟩)] X (JDone B p m b c x o' w) := by
  obtain ⟨n, D, L, M, S, hn, hs⟩ := hb.say hc
  have own := J.own
  obtain ⟨ok, hkd, Q, d, hq, hK⟩ := J
  have hqK := Q.neR d
  have hBw : B ≤ w.heap.size := Nat.le_trans hBm S.pr.m_le
  have inq : x.q ∈ x.fp := by simp [JO.fp]
  have inK : x.K ∈ x.fp := by simp [JO.fp]
  refine ⟨(kX o M).1, kX_lv o M, (docK hBm hc S ok d hK).mono ?_⟩
  rintro ee w0 ⟨rfl, L', A', O0⟩
  have f0 : FxL B p b x.fp w w0 := O0.f.more (fun y hy => by simp only [List.mem_cons, List.not_mem_nil, or_false] at hy; rw [hy]; exact inK)
  have hc9 := O0.k.c4
  refine ⟨rfl, f0, hc9.2.1, hc9.2.2.1, fun w1 hX => ?_⟩
  have f1 := f0.trans (.of_below hX (Nat.le_trans hBw f0.low.size))
  have f1K := O0.f.trans (.of_below hX (Nat.le_trans hBw f0.low.size))
  have P1 := O0.pr.below hX
  have d1 := O0.k.below hX
  have hsz := f1.low.size
  have sq : w1.heap[x.q]? = w.heap[x.q]? := (own x.q inq).fxl S.pr f1K (by simpa using hqK)
  have oq1 : OwnX B x.q w1 := (own x.q inq).same sq
  have F := S.vx hn P1 (f1.lay hB hl) (f1.laym hB hlm) (by omega)
  rw [kX_lv]
  refine (prgK_stepE (by omega) F S.st1 ok (Q.same sq) rfl).mono ?_
  rintro ee w2 ⟨rfl, Q', F2, on⟩
  have oK1 : OwnX B x.K w1 := ⟨hK, _, _, show Bq _ 99 _ w1 from d1, by decide⟩
  have sK : w2.heap[x.K]? = w1.heap[x.K]? := oK1.onl F on (by simpa using Ne.symm hqK)
  have f2 := (onl_fxl on F (B := B) (b := b) (by have := P1.mp; omega) hBm (fun y hy => by simp only [List.mem_cons, List.not_mem_nil, or_false] at hy; omega) (by omega)).more (E' := x.fp) (fun y hy => by simp only [List.mem_cons, List.not_mem_nil, or_false] at hy; rw [hy]; exact inq)
  have hst := kX_st o M
  refine ⟨rfl, f1.trans f2, Both.of_vx P1 A' F2 on (fun y hy => by simp only [List.mem_cons, List.not_mem_nil, or_false] at hy; rw [hy]; exact oq1) (by push_cast; omega), ok.step S.u64, ?_, Q', d1.same sK, hq, hK⟩
  rw [kX_lv]
  exact hkd
end
end Go.Proofs.YtffkjdmpeeagoaaDoor
