/-
  A step of an operation of the program's and of the document's, one behind the other; condition: both memories lie as they say and say the same, both operations lie as they say.
  A step of the law's operation of layer 12, of both: they are one; condition: both memories lie as they say and say the same, the operation and the document's as they say.
-/
import Derived.Test.YtjpanofkikfeoaaGreatDoorOD2
import Derived.Test.YtjpanofkikfeoaaGreatDoorOK7
import Derived.Test.YtjpanofkikfeoaaGreatDoorD6
import Derived.Test.YtjpanofkikfeoaaGreatDoorOE2
import Derived.Deep.DeepCutAuto
namespace Go.Proofs.YtjpanofkikfeoaaGreatDoor
open Go.RowKit Go.Maps

section
variable {B p m b n c K : Nat} {o : OG} {D : DataW Unit} {s r : Acc8} {L : List (Ad × Int)} {M : MV} {E : List Nat} {w w' w1 w2 : World}
/-- An operation of the law's: what it is (0: a Give, 1: a Take), its block, the document's; the program's blocks, the document's. -/
structure JO where
  kd : Nat
  q : Nat
  K : Nat
  P : List Nat
  R : List Nat
def JO.fp (x : JO) : List Nat := x.P ++ x.R
/-- The document's operation, all its blocks. -/
def DRepO (B K : Nat) (R : List Nat) (o : OG) (w : World) : Prop := ∃ vg vv, Bk K 80 (RD o vg vv) w ∧ Rw B o vg vv w ∧ R = K :: (vg.ownBlock.toList ++ vv.ownBlock.toList)
theorem DRepO.mem {R : List Nat} (h : DRepO B K R o w) : K ∈ R := by obtain ⟨vg, vv, _, _, rfl⟩ := h; simp
theorem DRepO.own {R : List Nat} (h : DRepO B K R o w) (hK : B ≤ K) : ∀ y ∈ R, OwnX B y w := fun y hy => by
  obtain ⟨vg, vv, k, rw_, rfl⟩ := h
  simp only [List.mem_cons, List.mem_append, Option.mem_toList] at hy
  rcases hy with rfl | hy | hy
  · exact ⟨hK, _, _, show Bq _ 80 _ w from k, by decide⟩
  · obtain ⟨h1, cs, k1⟩ := rw_.g.bq hy
    exact ⟨h1, _, _, k1, by decide⟩
  · obtain ⟨h1, cs, k1⟩ := rw_.v.bq hy
    exact ⟨h1, _, _, k1, by decide⟩
theorem DRepO.same {R : List Nat} (h : DRepO B K R o w) (hs : ∀ y ∈ R, w'.heap[y]? = w.heap[y]?) : DRepO B K R o w' := by
  obtain ⟨vg, vv, k, rw_, rfl⟩ := h
  exact ⟨vg, vv, k.same (hs _ (by simp)), rw_.same fun x hx => hs x (by rcases hx with hx | hx <;> (rw [hx]; simp)), rfl⟩
structure JOk (B : Nat) (x : JO) (o : OG) (w : World) : Prop where
  num : ONum o
  len : o.g.length < 100000
  kd : x.kd ≤ 1
  prg : PRepO (x.kd == 1) x.q x.P o w
  doc : DRepO B x.K x.R o w
  ap : ∀ y ∈ x.P, y ∉ x.R
  lowP : ∀ y ∈ x.P, B ≤ y
  lowK : B ≤ x.K
def JAt (B : Nat) (x : JO) (w : World) : Prop := ∃ o, JOk B x o w
def JO.sub (x x' : JO) (n : Nat) : Prop := x'.kd = x.kd ∧ x'.q = x.q ∧ x'.K = x.K ∧ ∀ y ∈ x'.fp, y ∈ x.fp ∨ n ≤ y
theorem JO.sub_refl (x : JO) (n : Nat) : x.sub x n := ⟨rfl, rfl, rfl, fun _ h => .inl h⟩
theorem PRepO.ownX {kd : Bool} {q : Nat} {fp : List Nat} (h : PRepO kd q fp o w) (hB : ∀ y ∈ fp, B ≤ y) : ∀ y ∈ fp, OwnX B y w := fun y hy => by
  obtain ⟨t, cs, k, h1⟩ := h.own y hy
  exact ⟨hB y hy, t, cs, k, okP_okT h1⟩
theorem JOk.own {x : JO} (h : JOk B x o w) : ∀ y ∈ x.fp, OwnX B y w := fun y hy => by
  rcases List.mem_append.1 hy with hy | hy
  · exact h.prg.ownX h.lowP y hy
  · exact h.doc.own h.lowK y hy
theorem JOk.same {x : JO} (h : JOk B x o w) (hs : ∀ y ∈ x.fp, w'.heap[y]? = w.heap[y]?) : JOk B x o w' :=
  ⟨h.num, h.len, h.kd, h.prg.same fun y hy => hs y (List.mem_append_left _ hy), h.doc.same fun y hy => hs y (List.mem_append_right _ hy), h.ap, h.lowP, h.lowK⟩
theorem JAt.own {x : JO} (h : JAt B x w) : ∀ y ∈ x.fp, OwnX B y w := by obtain ⟨o, h⟩ := h; exact h.own
theorem JAt.same {x : JO} (h : JAt B x w) (hs : ∀ y ∈ x.fp, w'.heap[y]? = w.heap[y]?) : JAt B x w' := by obtain ⟨o, h⟩ := h; exact ⟨o, h.same hs⟩
theorem JOk.below {x : JO} (h : JOk B x o w) (hb : Below w.heap.size w w') : JOk B x o w' := h.same fun y hy => hb.block y (h.own y hy).lt
theorem JAt.below {x : JO} (h : JAt B x w) (hb : Below w.heap.size w w') : JAt B x w' := by obtain ⟨o, h⟩ := h; exact ⟨o, h.below hb⟩
/-- Both memories, that hold M. -/
def BothM (p m b c : Nat) (M : MV) (w : World) : Prop := ∃ n D L, Say p m b n D L c M w ∧ (n : Int) ≤ M.s.st ∧ M.s.st ≤ c
theorem BothM.both (h : BothM p m b c M w) : Both p m b c w := by
  obtain ⟨n, D, L, S, hn, hs⟩ := h
  exact ⟨n, D, M.s, L, S.pr, S.rel, S.len, hn, S.st0, hs⟩
theorem Both.toM (h : Both p m b c w) (hc : c ≤ 4900) : ∃ M, BothM p m b c M w := by
  obtain ⟨n, D, L, M, S, hn, hs⟩ := h.say hc
  exact ⟨M, n, D, L, S, hn, hs⟩
theorem BothM.below (h : BothM p m b c M w) (hb : Below w.heap.size w w') : BothM p m b c M w' := by
  obtain ⟨n, D, L, S, hn, hs⟩ := h
  exact ⟨n, D, L, S.below hb, hn, hs⟩
theorem BothM.of_vx {M' : MV} (P1 : Pr p m b n D s L M'.s w1) (A : AftP L (c + 1) M') (F : VX p m M' w2) (o : Onl p m E w1 w2) (hE : ∀ x ∈ E, OwnX B x w1) (hst : M'.s.st ≤ ((c + 1 : Nat) : Int)) (hc : c ≤ 4900) : BothM p m b (c + 1) M' w2 := by
  obtain ⟨⟨cp, kp⟩, _, es, k, hm⟩ := P1.blocks
  have kc : ∀ z (cs : Array Value) t, w1.heap[z]? = some (Obj.cells cs t (0, 0)) → okT t = false → t ≠ 96 → w2.heap[z]? = some (Obj.cells cs t (0, 0)) := fun z cs t hz h1 h2 => by
    have kz : Bq z t cs.toList w1 := by unfold Bq; simpa using hz
    refine (o.block z (Array.getElem?_eq_some_iff.1 hz).1 (kz.ne kp h2) ?_ (fun hx => (hE z hx).ne kz h1 rfl)).trans hz
    rintro rfl
    rw [hz] at hm
    cases hm
  have h0 := F.st0
  obtain ⟨n', D', g1, g2, g3, g4⟩ := F.mem
  refine ⟨n', D', L, ⟨⟨g3, ?_, P1.mp, P1.pb⟩, ⟨g2.map, A.2.2, fun x => (g4 x).trans (A.1 x).symm, g2.has⟩, A.1, A.2.1, h0, by push_cast at hst; omega⟩, g1, hst⟩
  obtain ⟨v, hr⟩ := P1.ref
  refine ⟨v, kc _ _ _ hr.blk (by decide) (by decide), ⟨hr.own.1, ?_⟩, hr.pos⟩
  rcases hr.own.2 with hn | ⟨g, cap, cur, hv, hB, hh, rest⟩
  · exact .inl hn
  · exact .inr ⟨g, cap, cur, hv, hB, kc _ _ _ hh (by decide) (by decide), rest⟩
/-- Behind both steps. -/
def JDone (B p m b c : Nat) (x : JO) (o' : OG) (M' : MV) (w : World) (ee : Ending) (w2 : World) : Prop := ee = .returned (.bool (o'.ln == 0)) ∧ FxL B p b x.fp w w2 ∧ BothM p m b (c + 1) M' w2 ∧ ∃ x', x.sub x' w.heap.size ∧ JOk B x' o' w2
set_option maxHeartbeats 4000000 in
theorem joint {x : JO} (hB : 1 < B) (hBm : B ≤ m) (hc : c ≤ 4900) (hb : BothM p m b c M w) (hl : Lay w) (hlm : LayM w) (J : JOk B x o w) :
    Calls Tryz.prog 25 #[.pointer (some ⟨x.K, 0, none⟩), .pointer (some ⟨b, 0, none⟩)] w fun ee w1 => ee = .returned (.tuple #[]) ∧ FxL B p b x.fp w w1 ∧ w1.cell? ⟨x.K, 0, none⟩ = some (.int .i64 (oX o M).1.ln) ∧
      ∀ X, Below w1.heap.size w1 X → Calls Tryz.prog (fnO (x.kd == 1)) #[.pointer (some ⟨x.q, 0, none⟩), .pointer (some ⟨p, 0, none⟩)] X (JDone B p m b c x (oX o M).1 (oX o M).2 w) := by
  obtain ⟨n, D, L, S, hn, hs⟩ := hb
  have own := J.own
  have hBw : B ≤ w.heap.size := Nat.le_trans hBm S.pr.m_le
  obtain ⟨ok, hlen, hkd, Q, ⟨vg, vv, d, rw_, hR⟩, hap, hlP, hK⟩ := J
  have inP : ∀ y ∈ x.P, y ∈ x.fp := fun y hy => List.mem_append_left _ hy
  have inR : ∀ y ∈ x.R, y ∈ x.fp := fun y hy => List.mem_append_right _ hy
  refine (docO hBm hc S ok hlen d rw_ hK).mono ?_
  rintro ee w0 ⟨rfl, L', vg', st, A', O0, hfr⟩
  rw [← hR] at O0
  have f0 : FxL B p b x.fp w w0 := O0.f.more inR
  refine ⟨rfl, f0, O0.k.c12.1, fun w1 hX => ?_⟩
  have f1 := f0.trans (.of_below hX (Nat.le_trans hBw f0.low.size))
  have f1R := O0.f.trans (.of_below hX (Nat.le_trans hBw f0.low.size))
  have P1 := O0.pr.below hX
  have sP : ∀ y ∈ x.P, w1.heap[y]? = w.heap[y]? := fun y hy => (own y (inP y hy)).fxl S.pr f1R (hap y hy)
  have oP1 : ∀ y ∈ x.P, OwnX B y w1 := fun y hy => (own y (inP y hy)).same (sP y hy)
  have F := S.vx hn P1 (f1.lay hB hl) (f1.laym hB hlm) (by omega)
  refine (stepO_all (fun y hy => by have := hlP y hy; omega) F S.st1 ok hlen (Q.same sP)).mono ?_
  rintro ee w2 ⟨rfl, fp', hsub, Q', F2, on⟩
  have k1 : Bk x.K 80 (RD (oX o M).1 vg' vv) w1 := O0.k.below hX
  have r1 : Rw B (oX o M).1 vg' vv w1 := O0.rw_.below hX
  have hd1 : DRepO B x.K (x.K :: (vg'.ownBlock.toList ++ vv.ownBlock.toList)) (oX o M).1 w1 := ⟨vg', vv, k1, r1, rfl⟩
  have oR1 := hd1.own hK
  have hPlt : ∀ y ∈ x.P, y < w.heap.size := fun y hy => (own y (inP y hy)).lt
  have hR' : ∀ y ∈ x.K :: (vg'.ownBlock.toList ++ vv.ownBlock.toList), y ∈ x.R ∨ w.heap.size ≤ y := fun y hy => by
    rw [hR]
    simp only [List.mem_cons, List.mem_append, Option.mem_toList] at hy ⊢
    rcases hy with rfl | hy | hy
    · exact .inl (.inl rfl)
    · rcases hfr y hy with k | k
      · exact .inl (.inr (.inl k))
      · exact .inr k
    · exact .inl (.inr (.inr hy))
  have hRP : ∀ y ∈ x.K :: (vg'.ownBlock.toList ++ vv.ownBlock.toList), y ∉ x.P := fun y hy hyP => by
    rcases hR' y hy with k | k
    · exact hap y hyP k
    · have := hPlt y hyP; omega
  have sR : ∀ y ∈ x.K :: (vg'.ownBlock.toList ++ vv.ownBlock.toList), w2.heap[y]? = w1.heap[y]? := fun y hy => (oR1 y hy).onl F on (hRP y hy)
  have f2 := (onl_fxl on F (B := B) (b := b) (by have := P1.mp; omega) hBm hlP (Nat.le_trans (Nat.le_trans hBw f0.low.size) hX.size)).more (E' := x.fp) inP
  have hst := oX_st o M
  have hsz : w.heap.size ≤ w1.heap.size := f1.low.size
  refine ⟨rfl, f1.trans f2, BothM.of_vx P1 A' F2 on oP1 (by push_cast; omega) hc, ⟨x.kd, x.q, x.K, fp', x.K :: (vg'.ownBlock.toList ++ vv.ownBlock.toList)⟩, ⟨rfl, rfl, rfl, fun y hy => ?_⟩, ok.step S.u64, by rw [oX_g]; exact hlen, hkd, Q', hd1.same sR, fun y hy hy2 => ?_, fun y hy => ?_, hK⟩
  · rcases List.mem_append.1 hy with hy | hy
    · rcases hsub y hy with k | k
      · exact .inl (inP y k)
      · exact .inr (by omega)
    · rcases hR' y hy with k | k
      · exact .inl (inR y k)
      · exact .inr k
  · rcases hsub y hy with k | k
    · exact hRP y hy2 k
    · have := (oR1 y hy2).lt
      omega
  · rcases hsub y hy with k | k
    · exact hlP y k
    · omega
end
end Go.Proofs.YtjpanofkikfeoaaGreatDoor
namespace Go.Proofs.YtjpanofkikfeoaaGreatDoor
open Go.RowKit Go.Maps

section
variable {B p m b c n : Nat} {x x' : JO} {o : OG} {q : Nat} {D : DataW Unit} {s : Acc8} {L : List (Ad × Int)} {w w' : World}
theorem Both.below (h : Both p m b c w) (hb : Below w.heap.size w w') : Both p m b c w' := by
  obtain ⟨n, D, s, L, hP, h2⟩ := h
  exact ⟨n, D, s, L, hP.below hb, h2⟩
theorem Both.mono {c' : Nat} (h : Both p m b c w) (hc : c ≤ c') : Both p m b c' w := by
  obtain ⟨n, D, s, L, hP, hr, h2, h3, h4, h5⟩ := h
  exact ⟨n, D, s, L, hP, hr, by omega, h3, h4, by omega⟩
theorem both_same (h : Both p m b c w) : Calls Tryz.prog 14 #[.agg #[.pointer (some ⟨p, 0, none⟩), .pointer (some ⟨b, 0, none⟩)]] w fun e W' => e = .returned (.bool true) ∧ Below w.heap.size w W' := by
  obtain ⟨n, D, s, L, hP, _⟩ := h
  exact pair_same hP
/-- A block of a type that no operation has. -/
def isBx (t : TypeId) : Bool := t == 28 || t == 46
theorem isBx_no {t : TypeId} (h : isBx t = true) : okT t = false ∧ t ≠ 93 ∧ t ≠ 96 ∧ t ≠ 70 := by
  simp only [isBx, Bool.or_eq_true, beq_iff_eq] at h
  rcases h with rfl | rfl <;> decide
theorem fxl_box {E : List Nat} {z : Nat} {t : TypeId} {cs : List Value} (f : FxL B p b E w w') (h : Both p m b c w) (ho : ∀ y ∈ E, OwnX B y w) (hz : Bq z t cs w) (ht : isBx t = true) : Bq z t cs w' := by
  obtain ⟨n, D, s, L, hP, _⟩ := h
  obtain ⟨⟨cp, kp⟩, ⟨cb, kb⟩, _⟩ := Pr.blocks (M := ⟨vals L, s⟩) hP
  obtain ⟨t1, t3, t4, t5⟩ := isBx_no ht
  exact f.far z _ _ _ hz t3 (hz.ne kp t4) (hz.ne kb t5) fun hx => (ho z hx).ne hz t1 rfl
theorem Bq.cells2 {z : Nat} {t : TypeId} {u v : Value} (k : Bq z t [u, v] w) : w.cell? ⟨z, 0, none⟩ = some u ∧ w.cell? ⟨z, 1, none⟩ = some v := ⟨k.cell 0, k.cell 1⟩
theorem Bq.cells3 {z : Nat} {t : TypeId} {v0 v1 v2 : Value} (k : Bq z t [v0, v1, v2] w) : w.cell? ⟨z, 0, none⟩ = some v0 ∧ w.cell? ⟨z, 1, none⟩ = some v1 ∧ w.cell? ⟨z, 2, none⟩ = some v2 := ⟨k.cell 0, k.cell 1, k.cell 2⟩
/-- What a step of an operation of the law's leaves. -/
def StepM (B p m b c : Nat) (x : JO) (o' : OG) (M' : MV) (w : World) (e : Ending) (w' : World) : Prop := e = .returned (.bool true) ∧ FxL B p b x.fp w w' ∧ BothM p m b (c + 1) M' w' ∧ ∃ x', x.sub x' w.heap.size ∧ JOk B x' o' w'
def StepS (B p m b c : Nat) (x : JO) (w : World) (e : Ending) (w' : World) : Prop := e = .returned (.bool true) ∧ FxL B p b x.fp w w' ∧ Both p m b (c + 1) w' ∧ ∃ x', x.sub x' w.heap.size ∧ JAt B x' w'
theorem StepM.toS {x : JO} {o' : OG} {M' : MV} {e : Ending} (h : StepM B p m b c x o' M' w e w') : StepS B p m b c x w e w' := by
  obtain ⟨h1, h2, h3, x', h4, h5⟩ := h
  exact ⟨h1, h2, h3.both, x', h4, o', h5⟩
theorem JOk.kdb0 {x : JO} (hk : x.kd = 0) : (x.kd == 1) = false := by rw [hk]; rfl
theorem JOk.kdb1 {x : JO} (hk : x.kd = 1) : (x.kd == 1) = true := by rw [hk]; rfl
theorem JOk.go {x x' : JO} {o' : OG} {w1 w2 : World} (hs : x.sub x' w.heap.size) (J : JOk B x' o' w1) (hb : Below w1.heap.size w1 w2) : ∃ x', x.sub x' w.heap.size ∧ JAt B x' w2 := ⟨x', hs, o', J.below hb⟩
/-- What the document took, as it lies. -/
theorem JOk.gotD {x : JO} (J : JOk B x o w) : ∃ A k, w.cell? ⟨x.K, 1, none⟩ = some (.slice A o.got.length k) ∧ SeeE w (.slice A o.got.length k) o.got := by
  obtain ⟨vg, vv, k, rw_, _⟩ := J.doc
  obtain ⟨A, kk, rfl, _⟩ := rw_.g.slice
  exact ⟨A, kk, k.c12.2.1, rw_.g.see⟩
theorem held3_below {a b' c' : Addr} {u v z : Value} (h : w.cell? a = some u ∧ w.cell? b' = some v ∧ w.cell? c' = some z) (hb : Below w.heap.size w w') : w'.cell? a = some u ∧ w'.cell? b' = some v ∧ w'.cell? c' = some z :=
  ⟨(hb.cell (World.block_lt_of_cell? w _ h.1)).trans h.1, (hb.cell (World.block_lt_of_cell? w _ h.2.1)).trans h.2.1, (hb.cell (World.block_lt_of_cell? w _ h.2.2)).trans h.2.2⟩
set_option maxRecDepth 100000 in
set_option maxHeartbeats 4000000 in
theorem op_give {x : JO} {M : MV} (hB : 1 < B) (hBm : B ≤ m) (hBw : B ≤ w.heap.size) (hc : c ≤ 4900) (hb : BothM p m b c M w) (hl : Lay w) (hlm : LayM w) (J : JOk B x o w) (hkd : x.kd = 0) :
    Calls Tryz.prog 13 #[.agg #[.pointer (some ⟨x.q, 0, none⟩), .pointer none, .pointer (some ⟨x.K, 0, none⟩)], .agg #[.pointer (some ⟨p, 0, none⟩), .pointer (some ⟨b, 0, none⟩)]] w (StepM B p m b c x (oX o M).1 (oX o M).2 w) := by
  have hX : Below w.heap.size w ((w.alloc (.cells #[.pointer (some ⟨x.q, 0, none⟩), .pointer none, .pointer (some ⟨x.K, 0, none⟩)] 46)).alloc (.cells #[.pointer (some ⟨p, 0, none⟩), .pointer (some ⟨b, 0, none⟩)] 28)) := ((Below.refl _ _).alloc (Nat.le_refl _) _).alloc (by simp) _
  have k1 : Bq w.heap.size 46 [.pointer (some ⟨x.q, 0, none⟩), .pointer none, .pointer (some ⟨x.K, 0, none⟩)] ((w.alloc (.cells #[.pointer (some ⟨x.q, 0, none⟩), .pointer none, .pointer (some ⟨x.K, 0, none⟩)] 46)).alloc (.cells #[.pointer (some ⟨p, 0, none⟩), .pointer (some ⟨b, 0, none⟩)] 28)) := (Bq.new w [.pointer (some ⟨x.q, 0, none⟩), .pointer none, .pointer (some ⟨x.K, 0, none⟩)] _).below ((Below.refl _ _).alloc (by simp) _)
  have k2 : Bq (w.heap.size + 1) 28 [.pointer (some ⟨p, 0, none⟩), .pointer (some ⟨b, 0, none⟩)] ((w.alloc (.cells #[.pointer (some ⟨x.q, 0, none⟩), .pointer none, .pointer (some ⟨x.K, 0, none⟩)] 46)).alloc (.cells #[.pointer (some ⟨p, 0, none⟩), .pointer (some ⟨b, 0, none⟩)] 28)) := by
    have := Bq.new (w.alloc (.cells #[.pointer (some ⟨x.q, 0, none⟩), .pointer none, .pointer (some ⟨x.K, 0, none⟩)] 46)) [.pointer (some ⟨p, 0, none⟩), .pointer (some ⟨b, 0, none⟩)] 28
    simpa using this
  have HJ := Lib.hid (J.below hX)
  have HB := Lib.hid (hb.below hX)
  have HX := Lib.hid (show FxL B p b x.fp w _ from .of_below hX hBw)
  have HL := Lib.hid (hl.below hX)
  have HM := Lib.hid (hlm.below hX)
  have HS := Lib.hid hX.size
  have HKa := Lib.hid k1
  have HKb := Lib.hid k2
  have HKD := Lib.hid hkd
  generalize hO : oX o M = O'
  obtain ⟨o', M'⟩ := O'
  have HOX := Lib.hid hO
  clear hO
  clear J hb hl hlm hX k1 k2
  go_enter Tryz.func13, Tryz.ntmps13
  go_upto_region 1 with (fail)
  revert HJ HB HX HL HM HS HKa HKb
  generalize ((w.alloc (.cells #[.pointer (some ⟨x.q, 0, none⟩), .pointer none, .pointer (some ⟨x.K, 0, none⟩)] 46)).alloc (.cells #[.pointer (some ⟨p, 0, none⟩), .pointer (some ⟨b, 0, none⟩)] 28)) = w0
  intro HJ HB HX HL HM HS HKa HKb
  obtain ⟨d0, d1, d2⟩ := HKa.out.cells3
  obtain ⟨t0, t1⟩ := HKb.out.cells2
  have hj := joint hB hBm hc HB.out HL.out HM.out HJ.out
  rw [HOX.out] at hj
  dsimp only at hj
  go_wp2_with fail
  ((with_reducible refine hj.mono ?_); rintro ee w1 ⟨rfl, f1, c1, hstep⟩)
  have k1 := fxl_box f1 HB.out.both HJ.out.own HKa.out (by decide)
  have k2 := fxl_box f1 HB.out.both HJ.out.own HKb.out (by decide)
  clear hj f1 d0 d1 d2 t0 t1
  obtain ⟨d0, d1, d2⟩ := k1.cells3
  obtain ⟨t0, t1⟩ := k2.cells2
  rw [JOk.kdb0 hkd] at hstep
  have hst := hstep w1 (Below.refl _ w1)
  rw [show fnO false = 26 from rfl] at hst
  clear hstep k1 k2
  unfold JDone at hst
  have HOWN := Lib.hid HJ.out.own
  cases hz : (o'.ln == 0)
  · have hz1 := hz
    skip
    have hzb : (o'.ln == 0) = false := hz1
    rw [hzb] at hst
    go_wp2_with fail
    ((with_reducible refine hst.mono ?_); rintro ee w2 ⟨rfl, f2, b2, ⟨kd', q', K', P', R'⟩, hsub, J2⟩)
    have hk1 : kd' = x.kd := hsub.1
    have hk2 : q' = x.q := hsub.2.1
    have hk3 : K' = x.K := hsub.2.2.1
    subst hk1 hk2 hk3
    have k1 := fxl_box f2 HB.out.both HOWN.out HKa.out rfl
    have hov := overG_all J2.num (JOk.kdb0 (x := ⟨x.kd, x.q, x.K, P', R'⟩) HKD.out ▸ J2.prg)
    rw [hzb] at hov
    have HF2 := Lib.hid f2
    have HB2 := Lib.hid b2
    have HJ2 := Lib.hid J2
    have HSUB := Lib.hid hsub
    clear f2 b2 J2 hsub d0 d1 d2 t0 t1 c1 hst
    obtain ⟨d0, d1, d2⟩ := k1.cells3
    clear k1
    go_wp2_with fail
    ((with_reducible refine hov.mono ?_); rintro e4 w4 ⟨rfl, hw4⟩)
    subst hw4
    go_wp2_with fail
    go_ret
    exact ⟨rfl, HX.out.trans HF2.out, HB2.out, ⟨x.kd, x.q, x.K, P', R'⟩, ⟨rfl, rfl, rfl, fun y hy => (HSUB.out.2.2.2 y hy).imp id fun k => by have := HS.out; omega⟩, HJ2.out⟩
  · replace hz : o'.ln = 0 := by simpa using hz
    rw [hz] at c1
    have hzb : (o'.ln == 0) = true := by rw [hz]; rfl
    rw [hzb] at hst
    go_wp2_with fail
    ((with_reducible refine hst.mono ?_); rintro ee w2 ⟨rfl, f2, b2, ⟨kd', q', K', P', R'⟩, hsub, J2⟩)
    have hk1 : kd' = x.kd := hsub.1
    have hk2 : q' = x.q := hsub.2.1
    have hk3 : K' = x.K := hsub.2.2.1
    subst hk1 hk2 hk3
    have k1 := fxl_box f2 HB.out.both HOWN.out HKa.out rfl
    have hov := overG_all J2.num (JOk.kdb0 (x := ⟨x.kd, x.q, x.K, P', R'⟩) HKD.out ▸ J2.prg)
    rw [hzb] at hov
    have HF2 := Lib.hid f2
    have HB2 := Lib.hid b2
    have HJ2 := Lib.hid J2
    have HSUB := Lib.hid hsub
    clear f2 b2 J2 hsub d0 d1 d2 t0 t1 c1 hst
    obtain ⟨d0, d1, d2⟩ := k1.cells3
    clear k1
    go_wp2_with fail
    ((with_reducible refine hov.mono ?_); rintro e4 w4 ⟨rfl, hw4⟩)
    subst hw4
    go_wp2_with fail
    go_ret
    exact ⟨rfl, HX.out.trans HF2.out, HB2.out, ⟨x.kd, x.q, x.K, P', R'⟩, ⟨rfl, rfl, rfl, fun y hy => (HSUB.out.2.2.2 y hy).imp id fun k => by have := HS.out; omega⟩, HJ2.out⟩
set_option maxRecDepth 100000 in
set_option maxHeartbeats 4000000 in
theorem op_take {x : JO} {M : MV} (hB : 1 < B) (hBm : B ≤ m) (hBw : B ≤ w.heap.size) (hc : c ≤ 4900) (hb : BothM p m b c M w) (hl : Lay w) (hlm : LayM w) (J : JOk B x o w) (hkd : x.kd = 1) :
    Calls Tryz.prog 13 #[.agg #[.pointer none, .pointer (some ⟨x.q, 0, none⟩), .pointer (some ⟨x.K, 0, none⟩)], .agg #[.pointer (some ⟨p, 0, none⟩), .pointer (some ⟨b, 0, none⟩)]] w (StepM B p m b c x (oX o M).1 (oX o M).2 w) := by
  have hX : Below w.heap.size w ((w.alloc (.cells #[.pointer none, .pointer (some ⟨x.q, 0, none⟩), .pointer (some ⟨x.K, 0, none⟩)] 46)).alloc (.cells #[.pointer (some ⟨p, 0, none⟩), .pointer (some ⟨b, 0, none⟩)] 28)) := ((Below.refl _ _).alloc (Nat.le_refl _) _).alloc (by simp) _
  have k1 : Bq w.heap.size 46 [.pointer none, .pointer (some ⟨x.q, 0, none⟩), .pointer (some ⟨x.K, 0, none⟩)] ((w.alloc (.cells #[.pointer none, .pointer (some ⟨x.q, 0, none⟩), .pointer (some ⟨x.K, 0, none⟩)] 46)).alloc (.cells #[.pointer (some ⟨p, 0, none⟩), .pointer (some ⟨b, 0, none⟩)] 28)) := (Bq.new w [.pointer none, .pointer (some ⟨x.q, 0, none⟩), .pointer (some ⟨x.K, 0, none⟩)] _).below ((Below.refl _ _).alloc (by simp) _)
  have k2 : Bq (w.heap.size + 1) 28 [.pointer (some ⟨p, 0, none⟩), .pointer (some ⟨b, 0, none⟩)] ((w.alloc (.cells #[.pointer none, .pointer (some ⟨x.q, 0, none⟩), .pointer (some ⟨x.K, 0, none⟩)] 46)).alloc (.cells #[.pointer (some ⟨p, 0, none⟩), .pointer (some ⟨b, 0, none⟩)] 28)) := by
    have := Bq.new (w.alloc (.cells #[.pointer none, .pointer (some ⟨x.q, 0, none⟩), .pointer (some ⟨x.K, 0, none⟩)] 46)) [.pointer (some ⟨p, 0, none⟩), .pointer (some ⟨b, 0, none⟩)] 28
    simpa using this
  have HJ := Lib.hid (J.below hX)
  have HB := Lib.hid (hb.below hX)
  have HX := Lib.hid (show FxL B p b x.fp w _ from .of_below hX hBw)
  have HL := Lib.hid (hl.below hX)
  have HM := Lib.hid (hlm.below hX)
  have HS := Lib.hid hX.size
  have HKa := Lib.hid k1
  have HKb := Lib.hid k2
  have HKD := Lib.hid hkd
  generalize hO : oX o M = O'
  obtain ⟨o', M'⟩ := O'
  have HOX := Lib.hid hO
  clear hO
  clear J hb hl hlm hX k1 k2
  go_enter Tryz.func13, Tryz.ntmps13
  go_upto_region 1 with (fail)
  revert HJ HB HX HL HM HS HKa HKb
  generalize ((w.alloc (.cells #[.pointer none, .pointer (some ⟨x.q, 0, none⟩), .pointer (some ⟨x.K, 0, none⟩)] 46)).alloc (.cells #[.pointer (some ⟨p, 0, none⟩), .pointer (some ⟨b, 0, none⟩)] 28)) = w0
  intro HJ HB HX HL HM HS HKa HKb
  obtain ⟨d0, d1, d2⟩ := HKa.out.cells3
  obtain ⟨t0, t1⟩ := HKb.out.cells2
  have hj := joint hB hBm hc HB.out HL.out HM.out HJ.out
  rw [HOX.out] at hj
  dsimp only at hj
  go_wp2_with fail
  ((with_reducible refine hj.mono ?_); rintro ee w1 ⟨rfl, f1, c1, hstep⟩)
  have k1 := fxl_box f1 HB.out.both HJ.out.own HKa.out (by decide)
  have k2 := fxl_box f1 HB.out.both HJ.out.own HKb.out (by decide)
  clear hj f1 d0 d1 d2 t0 t1
  obtain ⟨d0, d1, d2⟩ := k1.cells3
  obtain ⟨t0, t1⟩ := k2.cells2
  rw [JOk.kdb1 hkd] at hstep
  have hst := hstep w1 (Below.refl _ w1)
  rw [show fnO true = 28 from rfl] at hst
  clear hstep k1 k2
  unfold JDone at hst
  have HOWN := Lib.hid HJ.out.own
  cases hz : (o'.ln == 0)
  · have hz1 := hz
    skip
    have hzb : (o'.ln == 0) = false := hz1
    have hzi : (if o'.ln = 0 then o'.got else []) = [] := if_neg (by simpa using hz1)
    rw [hzb] at hst
    go_wp2_with fail
    ((with_reducible refine hst.mono ?_); rintro ee w2 ⟨rfl, f2, b2, ⟨kd', q', K', P', R'⟩, hsub, J2⟩)
    have hk1 : kd' = x.kd := hsub.1
    have hk2 : q' = x.q := hsub.2.1
    have hk3 : K' = x.K := hsub.2.2.1
    subst hk1 hk2 hk3
    have k1 := fxl_box f2 HB.out.both HOWN.out HKa.out rfl
    have hprg := (JOk.kdb1 (x := ⟨x.kd, x.q, x.K, P', R'⟩) HKD.out ▸ J2.prg)
    have hov := overT_all J2.num hprg
    have hgt := gotT_all J2.num hprg
    rw [hzb] at hov
    rw [hzi] at hgt
    have HF2 := Lib.hid f2
    have HB2 := Lib.hid b2
    have HJ2 := Lib.hid J2
    have HSUB := Lib.hid hsub
    have HK1 := Lib.hid k1
    have HGT := Lib.hid hgt
    clear f2 b2 J2 hsub d0 d1 d2 t0 t1 c1 hst hprg hgt
    obtain ⟨d0, d1, d2⟩ := k1.cells3
    clear k1
    go_wp2_with fail
    ((with_reducible refine hov.mono ?_); rintro e4 w4 ⟨rfl, hw4⟩)
    subst hw4
    go_wp2_with fail
    ((with_reducible refine HGT.out.mono ?_); rintro e5 w5 ⟨A5, k5, xs5, hx5, rfl, hO5, hb5⟩)
    subst hx5
    have HB5 := Lib.hid hb5
    clear hO5 hb5 hov
    go_wp2_with fail
    go_ret
    exact ⟨rfl, (HX.out.trans HF2.out).trans (.of_below HB5.out (by have := HF2.out.low.size; have := HS.out; omega)), HB2.out.below HB5.out, ⟨x.kd, x.q, x.K, P', R'⟩, ⟨rfl, rfl, rfl, fun y hy => (HSUB.out.2.2.2 y hy).imp id fun k => by have := HS.out; omega⟩, HJ2.out.below HB5.out⟩
  · replace hz : o'.ln = 0 := by simpa using hz
    rw [hz] at c1
    have hzb : (o'.ln == 0) = true := by rw [hz]; rfl
    have hzi : (if o'.ln = 0 then o'.got else []) = o'.got := if_pos hz
    rw [hzb] at hst
    go_wp2_with fail
    ((with_reducible refine hst.mono ?_); rintro ee w2 ⟨rfl, f2, b2, ⟨kd', q', K', P', R'⟩, hsub, J2⟩)
    have hk1 : kd' = x.kd := hsub.1
    have hk2 : q' = x.q := hsub.2.1
    have hk3 : K' = x.K := hsub.2.2.1
    subst hk1 hk2 hk3
    have k1 := fxl_box f2 HB.out.both HOWN.out HKa.out rfl
    have hprg := (JOk.kdb1 (x := ⟨x.kd, x.q, x.K, P', R'⟩) HKD.out ▸ J2.prg)
    have hov := overT_all J2.num hprg
    have hgt := gotT_all J2.num hprg
    rw [hzb] at hov
    rw [hzi] at hgt
    have HF2 := Lib.hid f2
    have HB2 := Lib.hid b2
    have HJ2 := Lib.hid J2
    have HSUB := Lib.hid hsub
    have HK1 := Lib.hid k1
    have HGT := Lib.hid hgt
    clear f2 b2 J2 hsub d0 d1 d2 t0 t1 c1 hst hprg hgt
    obtain ⟨d0, d1, d2⟩ := k1.cells3
    clear k1
    go_wp2_with fail
    ((with_reducible refine hov.mono ?_); rintro e4 w4 ⟨rfl, hw4⟩)
    subst hw4
    go_wp2_with fail
    ((with_reducible refine HGT.out.mono ?_); rintro e5 w5 ⟨A5, k5, xs5, hx5, rfl, hO5, hb5⟩)
    subst hx5
    have HJ5 := Lib.hid (HJ2.out.below hb5)
    have HO5 := Lib.hid hO5
    have HB5 := Lib.hid hb5
    obtain ⟨Ag, kg, cg, sg⟩ := HJ5.out.gotD
    have hk5 := HK1.out.below hb5
    have hsame := same_any hO5.see sg (show o'.got.length < 100000 from by have := HJ5.out.num; have := (this.tk (HJ5.out.prg.kt (JOk.kdb1 (x := ⟨x.kd, x.q, x.K, P', R'⟩) HKD.out))).2.1; omega)
    rw [decide_eq_true rfl] at hsame
    clear hO5 hb5 hov d0 d1 d2 sg
    obtain ⟨d0, d1, d2⟩ := hk5.cells3
    have HK5 := Lib.hid hk5
    clear hk5
    dsimp only at cg
    go_wp2_with fail
    ((with_reducible refine hsame.mono ?_); rintro e6 w6 ⟨rfl, hb6⟩)
    have HB6 := Lib.hid hb6
    have hsp := spoil_any (HO5.out.below hb6)
    clear hsame hb6 cg d0 d1 d2
    go_wp2_with fail
    ((with_reducible refine hsp.mono ?_); rintro e7 w7 ⟨rfl, hb7⟩)
    have HB7 := Lib.hid (HB5.out.trans ((HB6.out.mono HB5.out.size).trans hb7))
    have HJ7 := Lib.hid (HJ2.out.below HB7.out)
    have hk7 := HK1.out.below HB7.out
    obtain ⟨d0, d1, d2⟩ := hk7.cells3
    have HK7 := Lib.hid (hk7.below (Below.refl _ w7).drew)
    obtain ⟨Ag, kg, cg, sg⟩ := HJ7.out.gotD
    have HJD := Lib.hid (HJ7.out.below (Below.refl _ w7).drew)
    have hlen : o'.got.length < 100000 := by have := HJ7.out.num; have := (this.tk (HJ7.out.prg.kt (JOk.kdb1 (x := ⟨x.kd, x.q, x.K, P', R'⟩) HKD.out))).2.1; omega
    have HLEN := Lib.hid hlen
    have hgt7 := gotT_all HJD.out.num (JOk.kdb1 (x := ⟨x.kd, x.q, x.K, P', R'⟩) HKD.out ▸ HJD.out.prg)
    rw [hzi] at hgt7
    dsimp only at cg
    have HSG := Lib.hid (sg.below (Below.refl _ w7).drew)
    have hs0 := Lib.hid (show w7.drew.cell? ⟨w.heap.size, 1, none⟩ = some (.pointer (some ⟨x.q, 0, none⟩)) ∧ w7.drew.cell? ⟨w.heap.size, 2, none⟩ = some (.pointer (some ⟨x.K, 0, none⟩)) ∧ w7.drew.cell? ⟨x.K, 1, none⟩ = some (.slice Ag o'.got.length kg) from ⟨HK7.out.cell 1, HK7.out.cell 2, cg⟩)
    clear hsp hb7 hk7 sg cg hlen
    go_wp2_with fail
    clear d0 d1 d2
    go_region_held3 (fun w9 => w9.cell? ⟨w.heap.size, 1, none⟩ = some (.pointer (some ⟨x.q, 0, none⟩)) ∧ w9.cell? ⟨w.heap.size, 2, none⟩ = some (.pointer (some ⟨x.K, 0, none⟩)) ∧ w9.cell? ⟨x.K, 1, none⟩ = some (.slice Ag o'.got.length kg))
      (first | exact hs0.out | exact hs1.out | exact hs2.out | fail)
      (first
        | (go_at_call 30; (with_reducible refine hgt7.mono ?_); rintro e8 w8 ⟨A8, k8, xs8, hx8, rfl, hO8, hb8⟩; subst hx8; have HO8 := Lib.hid hO8; have HB8 := Lib.hid hb8; have hs1 := Lib.hid (held3_below hs0.out hb8); have hsame := (same_any hO8.see (HSG.out.below hb8) HLEN.out); rw [decide_eq_true rfl] at hsame; have HSAME := Lib.hid hsame; clear hO8 hb8 hsame)
        | (go_at_call 8; (with_reducible refine HSAME.out.mono ?_); rintro e9 w9 ⟨rfl, hb9⟩; have HB9 := Lib.hid (HB7.out.trans (((Below.refl _ w7).drew.trans ((HB8.out.mono (Nat.le_refl _)).trans (hb9.mono HB8.out.size))).mono HB7.out.size)); have hs2 := Lib.hid (held3_below hs1.out hb9); clear hb9)
        | fail)
    all_goals
      go_wp2_with fail
      go_ret
      exact ⟨rfl, (HX.out.trans HF2.out).trans (.of_below HB9.out (by have := HF2.out.low.size; have := HS.out; omega)), HB2.out.below HB9.out, ⟨x.kd, x.q, x.K, P', R'⟩, ⟨rfl, rfl, rfl, fun y hy => (HSUB.out.2.2.2 y hy).imp id fun k => by have := HS.out; omega⟩, HJ2.out.below HB9.out⟩
end
end Go.Proofs.YtjpanofkikfeoaaGreatDoor
