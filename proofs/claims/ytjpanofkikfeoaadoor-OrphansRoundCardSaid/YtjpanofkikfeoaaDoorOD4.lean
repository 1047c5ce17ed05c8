/-
  A step of an operation of the program's and of the document's, one behind the other; condition: both memories lie as they say and say the same, both operations lie as they say.
-/
import Derived.Test.YtjpanofkikfeoaaDoorOD2
import Derived.Test.YtjpanofkikfeoaaDoorOK7
namespace Go.Proofs.YtjpanofkikfeoaaDoor
open Go.RowKit Go.Maps

section
variable {B p m b n c K : Nat} {o : OG} {D : DataW Unit} {s r : Acc8} {L : List (Ad × Int)} {M : MV} {E : List Nat} {w w' w1 w2 : World}
/-- An operation of the law's: what it is (0: a Give, 1: a Take), its block, the document's; the program's blocks, the document's. -/
structure JO where
  kd : Nat
  q : Nat
  K : Nat
  P : List Nat
  R : List Nat
def JO.fp (x : JO) : List Nat := x.P ++ x.R
/-- The document's operation, all its blocks. -/
def DRepO (B K : Nat) (R : List Nat) (o : OG) (w : World) : Prop := ∃ vg vv, Bk K 50 (RD o vg vv) w ∧ Rw B o vg vv w ∧ R = K :: (vg.ownBlock.toList ++ vv.ownBlock.toList)
theorem DRepO.mem {R : List Nat} (h : DRepO B K R o w) : K ∈ R := by obtain ⟨vg, vv, _, _, rfl⟩ := h; simp
theorem DRepO.own {R : List Nat} (h : DRepO B K R o w) (hK : B ≤ K) : ∀ y ∈ R, OwnX B y w := fun y hy => by
  obtain ⟨vg, vv, k, rw_, rfl⟩ := h
  simp only [List.mem_cons, List.mem_append, Option.mem_toList] at hy
  rcases hy with rfl | hy | hy
  · exact ⟨hK, _, _, show Bq _ 50 _ w from k, by decide⟩
  · obtain ⟨h1, cs, k1⟩ := rw_.g.bq hy
    exact ⟨h1, _, _, k1, by decide⟩
  · obtain ⟨h1, cs, k1⟩ := rw_.v.bq hy
    exact ⟨h1, _, _, k1, by decide⟩
theorem DRepO.same {R : List Nat} (h : DRepO B K R o w) (hs : ∀ y ∈ R, w'.heap[y]? = w.heap[y]?) : DRepO B K R o w' := by
  obtain ⟨vg, vv, k, rw_, rfl⟩ := h
  exact ⟨vg, vv, k.same (hs _ (by simp)), rw_.same fun x hx => hs x (by rcases hx with hx | hx <;> (rw [hx]; simp)), rfl⟩
structure JOk (B : Nat) (x : JO) (o : OG) (w : World) : Prop where
  num : ONum o
  len : o.g.length < 100000
  kd : x.kd ≤ 1
  prg : PRepO (x.kd == 1) x.q x.P o w
  doc : DRepO B x.K x.R o w
  ap : ∀ y ∈ x.P, y ∉ x.R
  lowP : ∀ y ∈ x.P, B ≤ y
  lowK : B ≤ x.K
def JAt (B : Nat) (x : JO) (w : World) : Prop := ∃ o, JOk B x o w
def JO.sub (x x' : JO) (n : Nat) : Prop := x'.kd = x.kd ∧ x'.q = x.q ∧ x'.K = x.K ∧ ∀ y ∈ x'.fp, y ∈ x.fp ∨ n ≤ y
theorem JO.sub_refl (x : JO) (n : Nat) : x.sub x n := ⟨rfl, rfl, rfl, fun _ h => .inl h⟩
theorem PRepO.ownX {kd : Bool} {q : Nat} {fp : List Nat} (h : PRepO kd q fp o w) (hB : ∀ y ∈ fp, B ≤ y) : ∀ y ∈ fp, OwnX B y w := fun y hy => by
  obtain ⟨t, cs, k, h1⟩ := h.own y hy
  exact ⟨hB y hy, t, cs, k, okP_okT h1⟩
theorem JOk.own {x : JO} (h : JOk B x o w) : ∀ y ∈ x.fp, OwnX B y w := fun y hy => by
  rcases List.mem_append.1 hy with hy | hy
  · exact h.prg.ownX h.lowP y hy
  · exact h.doc.own h.lowK y hy
theorem JOk.same {x : JO} (h : JOk B x o w) (hs : ∀ y ∈ x.fp, w'.heap[y]? = w.heap[y]?) : JOk B x o w' :=
  ⟨h.num, h.len, h.kd, h.prg.same fun y hy => hs y (List.mem_append_left _ hy), h.doc.same fun y hy => hs y (List.mem_append_right _ hy), h.ap, h.lowP, h.lowK⟩
theorem JAt.own {x : JO} (h : JAt B x w) : ∀ y ∈ x.fp, OwnX B y w := by obtain ⟨o, h⟩ := h; exact h.own
theorem JAt.same {x : JO} (h : JAt B x w) (hs : ∀ y ∈ x.fp, w'.heap[y]? = w.heap[y]?) : JAt B x w' := by obtain ⟨o, h⟩ := h; exact ⟨o, h.same hs⟩
theorem JOk.below {x : JO} (h : JOk B x o w) (hb : Below w.heap.size w w') : JOk B x o w' := h.same fun y hy => hb.block y (h.own y hy).lt
theorem JAt.below {x : JO} (h : JAt B x w) (hb : Below w.heap.size w w') : JAt B x w' := by obtain ⟨o, h⟩ := h; exact ⟨o, h.below hb⟩
/-- Both memories, that hold M. -/
def BothM (p m b c : Nat) (M : MV) (w : World) : Prop := ∃ n D L, Say p m b n D L c M w ∧ (n : Int) ≤ M.s.st ∧ M.s.st ≤ c
theorem BothM.both (h : BothM p m b c M w) : Both p m b c w := by
  obtain ⟨n, D, L, S, hn, hs⟩ := h
  exact ⟨n, D, M.s, L, S.pr, S.rel, S.len, hn, S.st0, hs⟩
theorem Both.toM (h : Both p m b c w) (hc : c ≤ 4900) : ∃ M, BothM p m b c M w := by
  obtain ⟨n, D, L, M, S, hn, hs⟩ := h.say hc
  exact ⟨M, n, D, L, S, hn, hs⟩
theorem BothM.below (h : BothM p m b c M w) (hb : Below w.heap.size w w') : BothM p m b c M w' := by
  obtain ⟨n, D, L, S, hn, hs⟩ := h
  exact ⟨n, D, L, S.below hb, hn, hs⟩
theorem BothM.of_vx {M' : MV} (P1 : Pr p m b n D s L M'.s w1) (A : AftP L (c + 1) M') (F : VX p m M' w2) (o : Onl p m E w1 w2) (hE : ∀ x ∈ E, OwnX B x w1) (hst : M'.s.st ≤ ((c + 1 : Nat) : Int)) (hc : c ≤ 4900) : BothM p m b (c + 1) M' w2 := by
  obtain ⟨⟨cp, kp⟩, _, es, k, hm⟩ := P1.blocks
  have kc : ∀ z (cs : Array Value) t, w1.heap[z]? = some (Obj.cells cs t (0, 0)) → okT t = false → t ≠ 92 → w2.heap[z]? = some (Obj.cells cs t (0, 0)) := fun z cs t hz h1 h2 => by
    have kz : Bq z t cs.toList w1 := by unfold Bq; simpa using hz
    refine (o.block z (Array.getElem?_eq_some_iff.1 hz).1 (kz.ne kp h2) ?_ (fun hx => (hE z hx).ne kz h1 rfl)).trans hz
    rintro rfl
    rw [hz] at hm
    cases hm
  have h0 := F.st0
  obtain ⟨n', D', g1, g2, g3, g4⟩ := F.mem
  refine ⟨n', D', L, ⟨⟨g3, ?_, P1.mp, P1.pb⟩, ⟨g2.map, A.2.2, fun x => (g4 x).trans (A.1 x).symm, g2.has⟩, A.1, A.2.1, h0, by push_cast at hst; omega⟩, g1, hst⟩
  obtain ⟨v, hr⟩ := P1.ref
  refine ⟨v, kc _ _ _ hr.blk (by decide) (by decide), ⟨hr.own.1, ?_⟩, hr.pos⟩
  rcases hr.own.2 with hn | ⟨g, cap, cur, hv, hB, hh, rest⟩
  · exact .inl hn
  · exact .inr ⟨g, cap, cur, hv, hB, kc _ _ _ hh (by decide) (by decide), rest⟩
/-- Behind both steps. -/
def JDone (B p m b c : Nat) (x : JO) (o' : OG) (M' : MV) (w : World) (ee : Ending) (w2 : World) : Prop := ee = .returned (.bool (o'.ln == 0)) ∧ FxL B p b x.fp w w2 ∧ BothM p m b (c + 1) M' w2 ∧ ∃ x', x.sub x' w.heap.size ∧ JOk B x' o' w2
set_option maxHeartbeats 4000000 in
theorem joint {x : JO} (hB : 1 < B) (hBm : B ≤ m) (hc : c ≤ 4900) (hb : BothM p m b c M w) (hl : Lay w) (hlm : LayM w) (J : JOk B x o w) :
    Calls Tryd.prog 29 #[.pointer (some ⟨x.K, 0, none⟩), .pointer (some ⟨b, 0, none⟩)] w fun ee w1 => ee = .returned (.tuple #[]) ∧ FxL B p b x.fp w w1 ∧ w1.cell? ⟨x.K, 0, none⟩ = some (.int .i64 (oX o M).1.ln) ∧
      ∀ X, Below w1.heap.size w1 X → Calls Tryd.prog (fnO (x.kd == 1)) #[.pointer (some ⟨x.q, 0, none⟩), .pointer (some ⟨p, 0, none⟩)] X (JDone B p m b c x (oX o M).1 (oX o M).2 w) := by
  obtain ⟨n, D, L, S, hn, hs⟩ := hb
  have own := J.own
  have hBw : B ≤ w.heap.size := Nat.le_trans hBm S.pr.m_le
  obtain ⟨ok, hlen, hkd, Q, ⟨vg, vv, d, rw_, hR⟩, hap, hlP, hK⟩ := J
  have inP : ∀ y ∈ x.P, y ∈ x.fp := fun y hy => List.mem_append_left _ hy
  have inR : ∀ y ∈ x.R, y ∈ x.fp := fun y hy => List.mem_append_right _ hy
  refine (docO hBm hc S ok hlen d rw_ hK).mono ?_
  rintro ee w0 ⟨rfl, L', vg', st, A', O0, hfr⟩
  rw [← hR] at O0
  have f0 : FxL B p b x.fp w w0 := O0.f.more inR
  refine ⟨rfl, f0, O0.k.c12.1, fun w1 hX => ?_⟩
  have f1 := f0.trans (.of_below hX (Nat.le_trans hBw f0.low.size))
  have f1R := O0.f.trans (.of_below hX (Nat.le_trans hBw f0.low.size))
  have P1 := O0.pr.below hX
  have sP : ∀ y ∈ x.P, w1.heap[y]? = w.heap[y]? := fun y hy => (own y (inP y hy)).fxl S.pr f1R (hap y hy)
  have oP1 : ∀ y ∈ x.P, OwnX B y w1 := fun y hy => (own y (inP y hy)).same (sP y hy)
  have F := S.vx hn P1 (f1.lay hB hl) (f1.laym hB hlm) (by omega)
  refine (stepO_all (fun y hy => by have := hlP y hy; omega) F S.st1 ok hlen (Q.same sP)).mono ?_
  rintro ee w2 ⟨rfl, fp', hsub, Q', F2, on⟩
  have k1 : Bk x.K 50 (RD (oX o M).1 vg' vv) w1 := O0.k.below hX
  have r1 : Rw B (oX o M).1 vg' vv w1 := O0.rw_.below hX
  have hd1 : DRepO B x.K (x.K :: (vg'.ownBlock.toList ++ vv.ownBlock.toList)) (oX o M).1 w1 := ⟨vg', vv, k1, r1, rfl⟩
  have oR1 := hd1.own hK
  have hPlt : ∀ y ∈ x.P, y < w.heap.size := fun y hy => (own y (inP y hy)).lt
  have hR' : ∀ y ∈ x.K :: (vg'.ownBlock.toList ++ vv.ownBlock.toList), y ∈ x.R ∨ w.heap.size ≤ y := fun y hy => by
    rw [hR]
    simp only [List.mem_cons, List.mem_append, Option.mem_toList] at hy ⊢
    rcases hy with rfl | hy | hy
    · exact .inl (.inl rfl)
    · rcases hfr y hy with k | k
      · exact .inl (.inr (.inl k))
      · exact .inr k
    · exact .inl (.inr (.inr hy))
  have hRP : ∀ y ∈ x.K :: (vg'.ownBlock.toList ++ vv.ownBlock.toList), y ∉ x.P := fun y hy hyP => by
    rcases hR' y hy with k | k
    · exact hap y hyP k
    · have := hPlt y hyP; omega
  have sR : ∀ y ∈ x.K :: (vg'.ownBlock.toList ++ vv.ownBlock.toList), w2.heap[y]? = w1.heap[y]? := fun y hy => (oR1 y hy).onl F on (hRP y hy)
  have f2 := (onl_fxl on F (B := B) (b := b) (by have := P1.mp; omega) hBm hlP (Nat.le_trans (Nat.le_trans hBw f0.low.size) hX.size)).more (E' := x.fp) inP
  have hst := oX_st o M
  have hsz : w.heap.size ≤ w1.heap.size := f1.low.size
  refine ⟨rfl, f1.trans f2, BothM.of_vx P1 A' F2 on oP1 (by push_cast; omega) hc, ⟨x.kd, x.q, x.K, fp', x.K :: (vg'.ownBlock.toList ++ vv.ownBlock.toList)⟩, ⟨rfl, rfl, rfl, fun y hy => ?_⟩, ok.step S.u64, by rw [oX_g]; exact hlen, hkd, Q', hd1.same sR, fun y hy hy2 => ?_, fun y hy => ?_, hK⟩
  · rcases List.mem_append.1 hy with hy | hy
    · rcases hsub y hy with k | k
      · exact .inl (inP y k)
      · exact .inr (by omega)
    · rcases hR' y hy with k | k
      · exact .inl (inR y k)
      · exact .inr k
  · rcases hsub y hy with k | k
    · exact hRP y hy2 k
    · have := (oR1 y hy2).lt
      omega
  · rcases hsub y hy with k | k
    · exact hlP y k
    · omega
end
end Go.Proofs.YtjpanofkikfeoaaDoor
