/-
  Blocks of an operation and of the document's; from the document's step to the program's, and both memories behind it; condition: all lies as it says. An operation and the document's, side by side: a step of the document's, then one of the program's; condition: both memories lie as they say and say the same, both operations as they say.
  A step of the law's operation, of both: they are one; condition: both memories lie as they say and say the same, the operation and the document's as they say. A step of the law's Free and of its Park, of both: they are one; condition: both memories lie as they say and say the same, the operation and the document's as they say.
-/
import Derived.Test.YtlcbinckbkdgdaaGreatDoorZ1
import Derived.Test.YtlcbinckbkdgdaaGreatDoorB14
import Derived.Laws.StructEq
import Derived.Deep.DeepCutAuto
import Derived.Deep.RegionHeldLaw
namespace Go.Proofs.YtlcbinckbkdgdaaGreatDoor
open Go.RowKit Go.Maps

/-- The types of the document's blocks, and of the program's. -/
def isRt (t : TypeId) : Bool := t == 96 || t == 92 || t == 84 || t == 120
def isPt (t : TypeId) : Bool := !(isRt t || t == 110 || t == 105 || t == 74 || t == 28 || t == 49 || t == 39)
def OwnP (B x : Nat) (w : World) : Prop := B ≤ x ∧ ∃ t cs, Bq x t cs w ∧ isPt t = true
def OwnR (B x : Nat) (w : World) : Prop := B ≤ x ∧ ∃ t cs, Bq x t cs w ∧ isRt t = true
section
variable {B p m b n c q r r1 K k1 k2 x y : Nat} {E : List Nat} {D : DataW Unit} {s : Acc8} {L L' : List (Ad × Int)} {M M' : MV} {w w' w1 w2 : World}
theorem OwnP.lt (h : OwnP B x w) : x < w.heap.size := by obtain ⟨_, t, cs, k, _⟩ := h; exact k.lt
theorem OwnR.lt (h : OwnR B x w) : x < w.heap.size := by obtain ⟨_, t, cs, k, _⟩ := h; exact k.lt
theorem OwnP.same (h : OwnP B x w) (hs : w'.heap[x]? = w.heap[x]?) : OwnP B x w' := by obtain ⟨g, t, cs, k, h1⟩ := h; exact ⟨g, t, cs, k.same hs, h1⟩
theorem OwnR.same (h : OwnR B x w) (hs : w'.heap[x]? = w.heap[x]?) : OwnR B x w' := by obtain ⟨g, t, cs, k, h1⟩ := h; exact ⟨g, t, cs, k.same hs, h1⟩
theorem bq_type {t u : TypeId} {cs ds : List Value} (k : Bq x t cs w) (j : Bq x u ds w) : t = u := by
  have := Eq.trans (Eq.symm k) j
  simp only [Option.some.injEq, Obj.cells.injEq] at this
  exact this.2.1
theorem OwnP.neR (h : OwnP B x w) (k : OwnR B y w) : x ≠ y := by
  rintro rfl
  obtain ⟨_, t, cs, k1, h1⟩ := h
  obtain ⟨_, u, ds, k2, h2⟩ := k
  rw [bq_type k1 k2, isPt, h2] at h1
  simp at h1
theorem OwnP.ne (h : OwnP B x w) {u : TypeId} {ds : List Value} (k : Bq y u ds w) (hu : isPt u = false) : x ≠ y := by
  rintro rfl
  obtain ⟨_, t, cs, k1, h1⟩ := h
  rw [bq_type k1 k, hu] at h1
  cases h1
theorem OwnR.ne (h : OwnR B x w) {u : TypeId} {ds : List Value} (k : Bq y u ds w) (hu : isRt u = false) : x ≠ y := by
  rintro rfl
  obtain ⟨_, t, cs, k1, h1⟩ := h
  rw [bq_type k1 k, hu] at h1
  cases h1
theorem Pr.blocks (P : Pr p m b n D s L M.s w) : (∃ cs, Bq p 110 cs w) ∧ (∃ cs, Bq b 74 cs w) ∧ ∃ es k, w.heap[m]? = some (.map es k) := by
  obtain ⟨v, hr⟩ := P.ref
  exact ⟨⟨_, by unfold Bq; exact P.prog.blk⟩, ⟨_, hr.blk⟩, P.prog.map_at⟩
/-- What the document's step keeps. -/
theorem OwnP.fxl (h : OwnP B x w) (P : Pr p m b n D s L M.s w) (f : FxL B p b E w w') (hx : x ∉ E) : w'.heap[x]? = w.heap[x]? := by
  obtain ⟨⟨cp, kp⟩, ⟨cb, kb⟩, _⟩ := P.blocks
  have h1 := h.ne kp (by decide)
  have h2 := h.ne kb (by decide)
  obtain ⟨_, t, cs, k, ht⟩ := h
  exact (f.far x _ _ _ k (by rintro rfl; revert ht; decide) h1 h2 hx).trans (Eq.symm k)
theorem OwnR.fxl (h : OwnR B x w) (P : Pr p m b n D s L M.s w) (f : FxL B p b E w w') (hx : x ∉ E) : w'.heap[x]? = w.heap[x]? := by
  obtain ⟨⟨cp, kp⟩, ⟨cb, kb⟩, _⟩ := P.blocks
  have h1 := h.ne kp (by decide)
  have h2 := h.ne kb (by decide)
  obtain ⟨_, t, cs, k, ht⟩ := h
  exact (f.far x _ _ _ k (by rintro rfl; revert ht; decide) h1 h2 hx).trans (Eq.symm k)
theorem OwnR.onl (h : OwnR B x w) (F : VX p m M w) (o : Onl p m E w w') (hx : x ∉ E) : w'.heap[x]? = w.heap[x]? := by
  have hlt := h.lt
  obtain ⟨_, t, cs, k, ht⟩ := h
  obtain ⟨h1, h2⟩ := F.ne (by rintro rfl; revert ht; decide) k
  exact o.block x hlt h1 h2 hx
theorem onl_fxl (o : Onl p m E w w') (F : VX p m M w) (hp : B ≤ p) (hm : B ≤ m) (hE : ∀ x ∈ E, B ≤ x) (hB : B ≤ w.heap.size) : FxL B p b E w w' := by
  refine ⟨o.below hp hm hE hB, fun x cs t fr hx _ h1 _ h3 => (o.block x (Array.getElem?_eq_some_iff.1 hx).1 h1 ?_ h3).trans hx⟩
  rintro rfl
  obtain ⟨_, es, c, hm⟩ := F.objs
  rw [hx] at hm
  cases hm
/-- Both memories, as a step asks them. -/
theorem Both.say (h : Both p m b c w) (hc : c ≤ 900) : ∃ n D L M, Say p m b n D L c M w ∧ (n : Int) ≤ M.s.st ∧ M.s.st ≤ c := by
  obtain ⟨n, D, s, L, hP, hr, hL, hn, h0, h1⟩ := h
  exact ⟨n, D, L, ⟨vals L, s⟩, ⟨hP, hr, fun _ => rfl, hL, h0, by show s.st < 1000000; omega⟩, hn, h1⟩
/-- The program's memory behind the document's step. -/
theorem Say.vx {r' : Acc8} (S : Say p m b n D L c M w) (hn : (n : Int) ≤ M.s.st) (P1 : Pr p m b n D M.s L' r' w1) (hl : Lay w1) (hm : LayM w1) (h1 : 1 < m) : VX p m M w1 :=
  ⟨⟨n, D, hn, ⟨S.rel.map, S.rel.has⟩, P1.prog, fun x => (S.rel.val x).trans (S.val x)⟩, hl, hm, by have := P1.mp; omega, h1⟩
/-- Both memories behind the program's. -/
theorem Both.of_vx (P1 : Pr p m b n D s L' M'.s w1) (A : AftP L' (c + 1) M') (F : VX p m M' w2) (o : Onl p m E w1 w2) (hE : ∀ x ∈ E, OwnP B x w1) (hst : M'.s.st ≤ ((c + 1 : Nat) : Int)) : Both p m b (c + 1) w2 := by
  obtain ⟨⟨cp, kp⟩, _, es, k, hm⟩ := P1.blocks
  have kc : ∀ z (cs : Array Value) t, w1.heap[z]? = some (Obj.cells cs t (0, 0)) → isPt t = false → t ≠ 110 → w2.heap[z]? = some (Obj.cells cs t (0, 0)) := fun z cs t hz h1 h2 => by
    have kz : Bq z t cs.toList w1 := by unfold Bq; simpa using hz
    refine (o.block z (Array.getElem?_eq_some_iff.1 hz).1 (kz.ne kp h2) ?_ (fun hx => (hE z hx).ne kz h1 rfl)).trans hz
    rintro rfl
    rw [hz] at hm
    cases hm
  have h0 := F.st0
  obtain ⟨n', D', g1, g2, g3, g4⟩ := F.mem
  refine ⟨n', D', M'.s, L', ⟨g3, ?_, P1.mp, P1.pb⟩, ⟨g2.map, A.2.2, fun x => (g4 x).trans (A.1 x).symm, g2.has⟩, A.2.1, g1, h0, hst⟩
  obtain ⟨v, hr⟩ := P1.ref
  refine ⟨v, kc _ _ _ hr.blk (by decide) (by decide), ⟨hr.own.1, ?_⟩, hr.pos⟩
  rcases hr.own.2 with hn | ⟨g, cap, cur, hv, hB, hh, rest⟩
  · exact .inl hn
  · exact .inr ⟨g, cap, cur, hv, hB, kc _ _ _ hh (by decide) (by decide), rest⟩
theorem PkX.same {o : PO} (h : PkX q r o w) (h1 : w'.heap[q]? = w.heap[q]?) (h2 : w'.heap[r]? = w.heap[r]?) : PkX q r o w' := by
  rcases h with ⟨h, s, g, k⟩ | ⟨pt, bt, cs, hp, kq, kr⟩
  · exact .inl ⟨h, s, g, k.same h1⟩
  · exact .inr ⟨pt, bt, cs, hp, kq.same h1, kr.same h2⟩
theorem AlRep.same {o : AX} (h : AlRep q r r1 o w) (h1 : w'.heap[q]? = w.heap[q]?) (h2 : w'.heap[r]? = w.heap[r]?) (h3 : w'.heap[r1]? = w.heap[r1]?) : AlRep q r r1 o w' := by
  rcases h with ⟨h, s, g, hg, k⟩ | ⟨pt, bt, cs, s, g, hp, g1, g2, kq, kr⟩ | ⟨h, g, kq, P⟩
  · exact .inl ⟨h, s, g, hg, k.same h1⟩
  · exact .inr (.inl ⟨pt, bt, cs, s, g, hp, g1, g2, kq.same h1, kr.same h2⟩)
  · exact .inr (.inr ⟨h, g, kq.same h1, P.same h2 h3⟩)
theorem FrRep.same {f : FX} (h : FrRep q r r1 f w) (h1 : w'.heap[q]? = w.heap[q]?) (h2 : w'.heap[r]? = w.heap[r]?) (h3 : w'.heap[r1]? = w.heap[r1]?) : FrRep q r r1 f w' := by
  rcases h with ⟨h, s, g, k⟩ | ⟨pt, bt, cs, hp, kq, kr⟩ | ⟨h, kq, P⟩
  · exact .inl ⟨h, s, g, k.same h1⟩
  · exact .inr (.inl ⟨pt, bt, cs, hp, kq.same h1, kr.same h2⟩)
  · exact .inr (.inr ⟨h, kq.same h1, P.same h2 h3⟩)
theorem PushD.same {o : OS} (h : PushD x o w) (h1 : w'.heap[x]? = w.heap[x]?) : PushD x o w' := by obtain ⟨nn, R, h2⟩ := h; exact ⟨nn, R.same h1, h2⟩
theorem PopD.same {o : OS} (h : PopD x o w) (h1 : w'.heap[x]? = w.heap[x]?) : PopD x o w' := by obtain ⟨sl, got, nn, R, h2⟩ := h; exact ⟨sl, got, nn, R.same h1, h2⟩
theorem PkD.same {o : PO} (h : PkD B K k1 o w) (h1 : w'.heap[K]? = w.heap[K]?) (h2 : w'.heap[k1]? = w.heap[k1]?) : PkD B K k1 o w' := by
  obtain ⟨a, d, pu, k, h3⟩ := h
  exact ⟨a, d, pu, k.same h1, fun hh => ⟨(h3 hh).1, (h3 hh).2.same h2⟩⟩
theorem FrD.same {o : FX} (h : FrD B K k1 k2 o w) (h1 : w'.heap[K]? = w.heap[K]?) (h2 : w'.heap[k1]? = w.heap[k1]?) (h3 : w'.heap[k2]? = w.heap[k2]?) : FrD B K k1 k2 o w' := by
  obtain ⟨a, pa, pu, k, h6, h7⟩ := h
  exact ⟨a, pa, pu, k.same h1, fun hh => ⟨(h6 hh).1, (h6 hh).2.1, (h6 hh).2.2.same h2 h3⟩, fun hh => ⟨(h7 hh).1, (h7 hh).2.same h3⟩⟩
theorem AlD.same {o : AX} (h : AlD B K k1 k2 o w) (h1 : w'.heap[K]? = w.heap[K]?) (h2 : w'.heap[k1]? = w.heap[k1]?) (h3 : w'.heap[k2]? = w.heap[k2]?) : AlD B K k1 k2 o w' := by
  obtain ⟨a, sl, ge, pp, pa, k, e1, e2, h6, h7⟩ := h
  exact ⟨a, sl, ge, pp, pa, k.same h1, e1, e2, fun hh => ⟨(h6 hh).1, (h6 hh).2.same h2⟩, fun hh => ⟨(h7 hh).1, (h7 hh).2.1, (h7 hh).2.2.same h2 h3⟩⟩
theorem PkPart.isPt {o : PO} {pt bt : TypeId} {cs : List Value} (h : PkPart o pt bt cs) : isPt bt = true := by cases h <;> decide
theorem AlPart.isPt {o : AX} {pt bt : TypeId} {cs : List Value} (h : AlPart o pt bt cs) : isPt bt = true := by cases h <;> decide
theorem FrPart.isPt {o : FX} {pt bt : TypeId} {cs : List Value} (h : FrPart o pt bt cs) : isPt bt = true := by cases h <;> decide
/-- A block that is of no use may be another. -/
theorem PkX.tidy {o : PO} (h : PkX q r o w) (hq : B ≤ q) (hr : B ≤ r) : ∃ r2, PkX q r2 o w ∧ (r2 = q ∨ r2 = r) ∧ OwnP B q w ∧ OwnP B r2 w := by
  rcases h with ⟨h, s, g, k⟩ | ⟨pt, bt, cs, hp, kq, kr⟩
  · exact ⟨q, .inl ⟨h, s, g, k⟩, .inl rfl, ⟨hq, _, _, k, by decide⟩, ⟨hq, _, _, k, by decide⟩⟩
  · exact ⟨r, .inr ⟨pt, bt, cs, hp, kq, kr⟩, .inr rfl, ⟨hq, _, _, kq, by decide⟩, ⟨hr, _, _, kr, hp.isPt⟩⟩
theorem AlRep.tidy {o : AX} (h : AlRep q r r1 o w) (hq : B ≤ q) (hr : B ≤ r) (hr1 : B ≤ r1) : ∃ r2 r3, AlRep q r2 r3 o w ∧ (r2 = q ∨ r2 = r) ∧ (r3 = q ∨ r3 = r ∨ r3 = r1) ∧ OwnP B q w ∧ OwnP B r2 w ∧ OwnP B r3 w := by
  rcases h with ⟨h, s, g, hg, k⟩ | ⟨pt, bt, cs, s, g, hp, g1, g2, kq, kr⟩ | ⟨h, g, kq, P⟩
  · have o1 : OwnP B q w := ⟨hq, _, _, k, by decide⟩
    exact ⟨q, q, .inl ⟨h, s, g, hg, k⟩, .inl rfl, .inl rfl, o1, o1, o1⟩
  · have o1 : OwnP B r w := ⟨hr, _, _, kr, hp.isPt⟩
    exact ⟨r, r, .inr (.inl ⟨pt, bt, cs, s, g, hp, g1, g2, kq, kr⟩), .inr rfl, .inr (.inl rfl), ⟨hq, _, _, kq, by decide⟩, o1, o1⟩
  · obtain ⟨r3, P', e3, o2, o3⟩ := P.tidy hr hr1
    exact ⟨r, r3, .inr (.inr ⟨h, g, kq, P'⟩), .inr rfl, .inr e3, ⟨hq, _, _, kq, by decide⟩, o2, o3⟩
theorem FrRep.tidy {o : FX} (h : FrRep q r r1 o w) (hq : B ≤ q) (hr : B ≤ r) (hr1 : B ≤ r1) : ∃ r2 r3, FrRep q r2 r3 o w ∧ (r2 = q ∨ r2 = r) ∧ (r3 = q ∨ r3 = r ∨ r3 = r1) ∧ OwnP B q w ∧ OwnP B r2 w ∧ OwnP B r3 w := by
  rcases h with ⟨h, s, g, k⟩ | ⟨pt, bt, cs, hp, kq, kr⟩ | ⟨h, kq, P⟩
  · have o1 : OwnP B q w := ⟨hq, _, _, k, by decide⟩
    exact ⟨q, q, .inl ⟨h, s, g, k⟩, .inl rfl, .inl rfl, o1, o1, o1⟩
  · have o1 : OwnP B r w := ⟨hr, _, _, kr, hp.isPt⟩
    exact ⟨r, r, .inr (.inl ⟨pt, bt, cs, hp, kq, kr⟩), .inr rfl, .inr (.inl rfl), ⟨hq, _, _, kq, by decide⟩, o1, o1⟩
  · obtain ⟨r3, P', e3, o2, o3⟩ := P.tidy hr hr1
    exact ⟨r, r3, .inr (.inr ⟨h, kq, P'⟩), .inr rfl, .inr e3, ⟨hq, _, _, kq, by decide⟩, o2, o3⟩
theorem PkD.tidy {o : PO} (h : PkD B K k1 o w) : ∃ a, PkD B K a o w ∧ (a = K ∨ a = k1) ∧ OwnR B K w ∧ OwnR B a w := by
  obtain ⟨hK, hk, pu, k, h10⟩ := h
  have oK : OwnR B K w := ⟨hK, _, _, k, by decide⟩
  by_cases hh : o.ln = 10
  · obtain ⟨e1, nn, R, e2⟩ := h10 hh
    exact ⟨k1, ⟨hK, hk, pu, k, h10⟩, .inr rfl, oK, ⟨hk, _, _, by unfold Bq; exact R, by decide⟩⟩
  · exact ⟨K, ⟨hK, hK, pu, k, fun h => absurd h hh⟩, .inl rfl, oK, oK⟩
theorem FrD.tidy {o : FX} (h : FrD B K k1 k2 o w) : ∃ a d, FrD B K a d o w ∧ (a = K ∨ a = k1) ∧ (d = K ∨ d = k1 ∨ d = k2) ∧ OwnR B K w ∧ OwnR B a w ∧ OwnR B d w := by
  obtain ⟨⟨hK, hk1, hk2⟩, pa, pu, k, h6, h7⟩ := h
  have oK : OwnR B K w := ⟨hK, _, _, k, by decide⟩
  by_cases hh : o.o.ln = 6
  · obtain ⟨e1, ⟨n1, n2⟩, P⟩ := h6 hh
    obtain ⟨a, P', ea, o1, o2⟩ := P.tidy
    exact ⟨k1, a, ⟨⟨hK, hk1, P'.2.1⟩, pa, pu, k, fun _ => ⟨e1, ⟨n1, by rcases ea with rfl | rfl <;> assumption⟩, P'⟩, fun h => by omega⟩, .inr rfl, .inr ea, oK, o1, o2⟩
  · by_cases h9 : o.o.ln = 7
    · obtain ⟨e1, nn, R, e2⟩ := h7 h9
      exact ⟨K, k2, ⟨⟨hK, hK, hk2⟩, pa, pu, k, fun h => absurd h hh, h7⟩, .inl rfl, .inr (.inr rfl), oK, oK, ⟨hk2, _, _, by unfold Bq; exact R, by decide⟩⟩
    · exact ⟨K, K, ⟨⟨hK, hK, hK⟩, pa, pu, k, fun h => absurd h hh, fun h => absurd h h9⟩, .inl rfl, .inl rfl, oK, oK, oK⟩
theorem AlD.tidy {o : AX} (h : AlD B K k1 k2 o w) : ∃ a d, AlD B K a d o w ∧ (a = K ∨ a = k1) ∧ (d = K ∨ d = k1 ∨ d = k2) ∧ OwnR B K w ∧ OwnR B a w ∧ OwnR B d w := by
  obtain ⟨⟨hK, hk1, hk2⟩, sl, ge, pp, pa, k, f1, f2, h1, h3⟩ := h
  have oK : OwnR B K w := ⟨hK, _, _, k, by decide⟩
  by_cases hh : o.o.ln = 3
  · obtain ⟨e1, ⟨n1, n2⟩, P⟩ := h3 hh
    obtain ⟨a, P', ea, o1, o2⟩ := P.tidy
    exact ⟨k1, a, ⟨⟨hK, hk1, P'.2.1⟩, sl, ge, pp, pa, k, f1, f2, fun h => by omega, fun _ => ⟨e1, ⟨n1, by rcases ea with rfl | rfl <;> assumption⟩, P'⟩⟩, .inr rfl, .inr ea, oK, o1, o2⟩
  · by_cases h9 : o.o.ln = 1
    · obtain ⟨e1, s1, g1, nn, R, e2⟩ := h1 h9
      exact ⟨k1, K, ⟨⟨hK, hk1, hK⟩, sl, ge, pp, pa, k, f1, f2, h1, fun h => absurd h hh⟩, .inr rfl, .inl rfl, oK, ⟨hk1, _, _, by unfold Bq; exact R, by decide⟩, oK⟩
    · exact ⟨K, K, ⟨⟨hK, hK, hK⟩, sl, ge, pp, pa, k, f1, f2, fun h => absurd h h9, fun h => absurd h hh⟩, .inl rfl, .inl rfl, oK, oK, oK⟩
end
end Go.Proofs.YtlcbinckbkdgdaaGreatDoor
namespace Go.Proofs.YtlcbinckbkdgdaaGreatDoor
open Go.RowKit Go.Maps

/-- An operation of the law's: what it is, its block and its parts', the document's and its parts'. -/
structure JO where
  kd : Nat
  q : Nat
  r : Nat
  r1 : Nat
  K : Nat
  k1 : Nat
  k2 : Nat
def JO.fp (x : JO) : List Nat := [x.q, x.r, x.r1, x.K, x.k1, x.k2]
def JO.own (B : Nat) (x : JO) (w : World) : Prop := OwnP B x.q w ∧ OwnP B x.r w ∧ OwnP B x.r1 w ∧ OwnR B x.K w ∧ OwnR B x.k1 w ∧ OwnR B x.k2 w
def JAl (B : Nat) (x : JO) (o : AX) (w : World) : Prop := x.kd = 0 ∧ AlNum o ∧ AlRep x.q x.r x.r1 o w ∧ AlD B x.K x.k1 x.k2 o w ∧ x.own B w
def JFr (B : Nat) (x : JO) (o : FX) (w : World) : Prop := x.kd = 1 ∧ FrNum o ∧ FrRep x.q x.r x.r1 o w ∧ FrD B x.K x.k1 x.k2 o w ∧ x.own B w
def JPk (B : Nat) (x : JO) (o : PO) (w : World) : Prop := x.kd = 2 ∧ PkNum o ∧ PkX x.q x.r o w ∧ PkD B x.K x.k1 o w ∧ x.own B w
def JAt (B : Nat) (x : JO) (w : World) : Prop := (∃ o, JAl B x o w) ∨ (∃ o, JFr B x o w) ∨ (∃ o, JPk B x o w)
/-- It has become that: the same blocks, and new ones. -/
def JO.sub (x x' : JO) (n : Nat) : Prop := x'.kd = x.kd ∧ x'.q = x.q ∧ x'.K = x.K ∧ ∀ y ∈ x'.fp, y ∈ x.fp ∨ n ≤ y
theorem JO.own_fp {B : Nat} {x : JO} {w : World} (h : x.own B w) {y : Nat} (hy : y ∈ x.fp) : OwnP B y w ∨ OwnR B y w := by
  obtain ⟨h1, h2, h3, h4, h5, h6⟩ := h
  simp only [JO.fp, List.mem_cons, List.not_mem_nil, or_false] at hy
  rcases hy with rfl | rfl | rfl | rfl | rfl | rfl
  · exact .inl h1
  · exact .inl h2
  · exact .inl h3
  · exact .inr h4
  · exact .inr h5
  · exact .inr h6
theorem JO.own_same {B : Nat} {x : JO} {w w' : World} (h : x.own B w) (hs : ∀ y ∈ x.fp, w'.heap[y]? = w.heap[y]?) : x.own B w' := by
  obtain ⟨h1, h2, h3, h4, h5, h6⟩ := h
  exact ⟨h1.same (hs _ (by simp [JO.fp])), h2.same (hs _ (by simp [JO.fp])), h3.same (hs _ (by simp [JO.fp])), h4.same (hs _ (by simp [JO.fp])), h5.same (hs _ (by simp [JO.fp])), h6.same (hs _ (by simp [JO.fp]))⟩
theorem JAl.same {B : Nat} {x : JO} {o : AX} {w w' : World} (h : JAl B x o w) (hs : ∀ y ∈ x.fp, w'.heap[y]? = w.heap[y]?) : JAl B x o w' := by
  obtain ⟨h1, h2, h3, h4, h5⟩ := h
  exact ⟨h1, h2, h3.same (hs _ (by simp [JO.fp])) (hs _ (by simp [JO.fp])) (hs _ (by simp [JO.fp])), h4.same (hs _ (by simp [JO.fp])) (hs _ (by simp [JO.fp])) (hs _ (by simp [JO.fp])), JO.own_same h5 hs⟩
theorem JFr.same {B : Nat} {x : JO} {o : FX} {w w' : World} (h : JFr B x o w) (hs : ∀ y ∈ x.fp, w'.heap[y]? = w.heap[y]?) : JFr B x o w' := by
  obtain ⟨h1, h2, h3, h4, h5⟩ := h
  exact ⟨h1, h2, h3.same (hs _ (by simp [JO.fp])) (hs _ (by simp [JO.fp])) (hs _ (by simp [JO.fp])), h4.same (hs _ (by simp [JO.fp])) (hs _ (by simp [JO.fp])) (hs _ (by simp [JO.fp])), JO.own_same h5 hs⟩
theorem JPk.same {B : Nat} {x : JO} {o : PO} {w w' : World} (h : JPk B x o w) (hs : ∀ y ∈ x.fp, w'.heap[y]? = w.heap[y]?) : JPk B x o w' := by
  obtain ⟨h1, h2, h3, h4, h5⟩ := h
  exact ⟨h1, h2, h3.same (hs _ (by simp [JO.fp])) (hs _ (by simp [JO.fp])), h4.same (hs _ (by simp [JO.fp])) (hs _ (by simp [JO.fp])), JO.own_same h5 hs⟩
theorem JAt.own {B : Nat} {x : JO} {w : World} (h : JAt B x w) : x.own B w := by
  rcases h with ⟨o, h⟩ | ⟨o, h⟩ | ⟨o, h⟩
  · exact h.2.2.2.2
  · exact h.2.2.2.2
  · exact h.2.2.2.2
theorem JAt.same {B : Nat} {x : JO} {w w' : World} (h : JAt B x w) (hs : ∀ y ∈ x.fp, w'.heap[y]? = w.heap[y]?) : JAt B x w' := by
  rcases h with ⟨o, h⟩ | ⟨o, h⟩ | ⟨o, h⟩
  · exact .inl ⟨o, h.same hs⟩
  · exact .inr (.inl ⟨o, h.same hs⟩)
  · exact .inr (.inr ⟨o, h.same hs⟩)
/-- Behind both steps. -/
def JDone (B p m b c : Nat) (x : JO) (over : Bool) (J : JO → World → Prop) (w : World) (ee : Ending) (w2 : World) : Prop := ee = .returned (.bool over) ∧ FxL B p b x.fp w w2 ∧ Both p m b (c + 1) w2 ∧ ∃ x', x.sub x' w.heap.size ∧ J x' w2
theorem sub6 {x : JO} {n n1 r' r1' r2 r3 k1' k2' a dd : Nat} (hn : n ≤ n1) (e3 : r' = x.r ∨ n1 ≤ r') (e4 : r1' = x.r1 ∨ n1 ≤ r1') (er2 : r2 = x.q ∨ r2 = r') (er3 : r3 = x.q ∨ r3 = r' ∨ r3 = r1') (e1 : k1' = x.k1 ∨ n ≤ k1') (e2 : k2' = x.k2 ∨ n ≤ k2') (ea : a = x.K ∨ a = k1') (ed : dd = x.K ∨ dd = k1' ∨ dd = k2') :
    ∀ y ∈ JO.fp ⟨x.kd, x.q, r2, r3, x.K, a, dd⟩, y ∈ x.fp ∨ n ≤ y := by
  have pq : x.q ∈ x.fp ∨ n ≤ x.q := .inl (by simp [JO.fp])
  have pK : x.K ∈ x.fp ∨ n ≤ x.K := .inl (by simp [JO.fp])
  have pr : r' ∈ x.fp ∨ n ≤ r' := e3.elim (fun h => .inl (by rw [h]; simp [JO.fp])) (fun h => .inr (Nat.le_trans hn h))
  have pr1 : r1' ∈ x.fp ∨ n ≤ r1' := e4.elim (fun h => .inl (by rw [h]; simp [JO.fp])) (fun h => .inr (Nat.le_trans hn h))
  have pk1 : k1' ∈ x.fp ∨ n ≤ k1' := e1.elim (fun h => .inl (by rw [h]; simp [JO.fp])) .inr
  have pk2 : k2' ∈ x.fp ∨ n ≤ k2' := e2.elim (fun h => .inl (by rw [h]; simp [JO.fp])) .inr
  intro y hy
  simp only [JO.fp, List.mem_cons, List.not_mem_nil, or_false] at hy
  rcases hy with rfl | rfl | rfl | rfl | rfl | rfl
  · exact pq
  · rcases er2 with h | h <;> rw [h] <;> assumption
  · rcases er3 with h | h | h <;> rw [h] <;> assumption
  · exact pK
  · rcases ea with h | h <;> rw [h] <;> assumption
  · rcases ed with h | h | h <;> rw [h] <;> assumption
section
variable {B p m b c : Nat} {x : JO} {w : World}
set_option maxHeartbeats 4000000 in
theorem al_joint (hB : 1 < B) (hBm : B ≤ m) (hc : c ≤ 900) (hb : Both p m b c w) (hl : Lay w) (hlm : LayM w) {o : AX} (J : JAl B x o w) :
    ∃ o', Calls Tryz.prog 29 #[.pointer (some ⟨x.K, 0, none⟩), .pointer (some ⟨b, 0, none⟩)] w fun ee w1 => ee = .returned (.tuple #[]) ∧ FxL B p b x.fp w w1 ∧
      Calls Tryz.prog 30 #[.pointer (some ⟨x.q, 0, none⟩), .pointer (some ⟨p, 0, none⟩)] w1 (JDone B p m b c x (o'.o.ln == 0) (fun x' => JAl B x' o') w) := by
  obtain ⟨n, D, L, M, S, hn, hs⟩ := hb.say hc
  obtain ⟨hkd, ok, P, d, oq, or, or1, oK, ok1, ok2⟩ := J
  obtain ⟨L', A', hd⟩ := alloc_doc hBm hc S ok d
  refine ⟨(alX o M).1, hd.mono ?_⟩
  rintro ee w1 ⟨rfl, ⟨k1', k2', d1, e1, e2⟩, P1, f1⟩
  have nR : ∀ y, OwnP B y w → y ∉ [x.K, x.k1, x.k2] := fun y hy h => by
    simp only [List.mem_cons, List.not_mem_nil, or_false] at h
    rcases h with h | h | h
    · exact hy.neR oK h
    · exact hy.neR ok1 h
    · exact hy.neR ok2 h
  have sq := oq.fxl S.pr f1 (nR _ oq)
  have sr := or.fxl S.pr f1 (nR _ or)
  have sr1 := or1.fxl S.pr f1 (nR _ or1)
  have hbq := oq.1
  have hbr := or.1
  have hbr1 := or1.1
  have hbK := oK.1
  have hlw := oq.lt
  have hsz := f1.low.size
  have oq1 := oq.same sq
  have or2 := or.same sr
  have or3 := or1.same sr1
  have F := S.vx hn P1 (f1.lay hB hl) (f1.laym hB hlm) (by omega)
  obtain ⟨a, dd, d2, ea, ed, o1, o2, o3⟩ := d1.tidy
  refine ⟨rfl, f1.more (by simp [JO.fp]), (alloc_stepX (by omega) (by omega) (by omega) F S.st1 ok (P.same sq sr sr1)).mono ?_⟩
  rintro ee w2 ⟨rfl, r', r1', P2, F2, on, e3, e4⟩
  have hE : ∀ y ∈ [x.q, x.r, x.r1], OwnP B y w1 := fun y hy => by
    simp only [List.mem_cons, List.not_mem_nil, or_false] at hy
    rcases hy with rfl | rfl | rfl
    · exact oq1
    · exact or2
    · exact or3
  have nE : ∀ y, OwnR B y w1 → y ∉ [x.q, x.r, x.r1] := fun y hy h => (hE y h).neR hy rfl
  have hp := P1.mp
  have f2 := (onl_fxl on F (B := B) (b := b) (by omega) hBm (fun y hy => (hE y hy).1) (by omega)).more (E' := x.fp) (by simp [JO.fp])
  obtain ⟨r2, r3, P3, er2, er3, q1, q2, q3⟩ := P2.tidy (B := B) hbq (by omega) (by omega)
  have hst := alX_st o M
  refine ⟨rfl, (f1.more (by simp [JO.fp])).trans f2, Both.of_vx P1 A' F2 on hE (by push_cast; omega), ⟨x.kd, x.q, r2, r3, x.K, a, dd⟩, ⟨rfl, rfl, rfl, sub6 hsz e3 e4 er2 er3 e1 e2 ea ed⟩, hkd, ok.step F.u64, P3, d2.same (o1.onl F on (nE _ o1)) (o2.onl F on (nE _ o2)) (o3.onl F on (nE _ o3)), q1, q2, q3, o1.same (o1.onl F on (nE _ o1)), o2.same (o2.onl F on (nE _ o2)), o3.same (o3.onl F on (nE _ o3))⟩
set_option maxHeartbeats 4000000 in
theorem fr_joint (hB : 1 < B) (hBm : B ≤ m) (hc : c ≤ 900) (hb : Both p m b c w) (hl : Lay w) (hlm : LayM w) {o : FX} (J : JFr B x o w) :
    ∃ o', Calls Tryz.prog 33 #[.pointer (some ⟨x.K, 0, none⟩), .pointer (some ⟨b, 0, none⟩)] w fun ee w1 => ee = .returned (.tuple #[]) ∧ FxL B p b x.fp w w1 ∧
      Calls Tryz.prog 20 #[.pointer (some ⟨x.q, 0, none⟩), .pointer (some ⟨p, 0, none⟩)] w1 (JDone B p m b c x (o'.o.ln == 0) (fun x' => JFr B x' o') w) := by
  obtain ⟨n, D, L, M, S, hn, hs⟩ := hb.say hc
  obtain ⟨hkd, ok, P, d, oq, or, or1, oK, ok1, ok2⟩ := J
  obtain ⟨L', A', hd⟩ := free_doc hBm hc S ok d
  refine ⟨(frX o M).1, hd.mono ?_⟩
  rintro ee w1 ⟨rfl, ⟨k1', k2', d1, e1, e2⟩, P1, f1⟩
  have nR : ∀ y, OwnP B y w → y ∉ [x.K, x.k1, x.k2] := fun y hy h => by
    simp only [List.mem_cons, List.not_mem_nil, or_false] at h
    rcases h with h | h | h
    · exact hy.neR oK h
    · exact hy.neR ok1 h
    · exact hy.neR ok2 h
  have sq := oq.fxl S.pr f1 (nR _ oq)
  have sr := or.fxl S.pr f1 (nR _ or)
  have sr1 := or1.fxl S.pr f1 (nR _ or1)
  have hbq := oq.1
  have hbr := or.1
  have hbr1 := or1.1
  have hbK := oK.1
  have hlw := oq.lt
  have hsz := f1.low.size
  have oq1 := oq.same sq
  have or2 := or.same sr
  have or3 := or1.same sr1
  have F := S.vx hn P1 (f1.lay hB hl) (f1.laym hB hlm) (by omega)
  obtain ⟨a, dd, d2, ea, ed, o1, o2, o3⟩ := d1.tidy
  refine ⟨rfl, f1.more (by simp [JO.fp]), (free_stepX (by omega) (by omega) (by omega) F S.st1 ok (P.same sq sr sr1)).mono ?_⟩
  rintro ee w2 ⟨rfl, r', r1', P2, F2, on, e3, e4⟩
  have hE : ∀ y ∈ [x.q, x.r, x.r1], OwnP B y w1 := fun y hy => by
    simp only [List.mem_cons, List.not_mem_nil, or_false] at hy
    rcases hy with rfl | rfl | rfl
    · exact oq1
    · exact or2
    · exact or3
  have nE : ∀ y, OwnR B y w1 → y ∉ [x.q, x.r, x.r1] := fun y hy h => (hE y h).neR hy rfl
  have hp := P1.mp
  have f2 := (onl_fxl on F (B := B) (b := b) (by omega) hBm (fun y hy => (hE y hy).1) (by omega)).more (E' := x.fp) (by simp [JO.fp])
  obtain ⟨r2, r3, P3, er2, er3, q1, q2, q3⟩ := P2.tidy (B := B) hbq (by omega) (by omega)
  have hst := frX_st o M
  refine ⟨rfl, (f1.more (by simp [JO.fp])).trans f2, Both.of_vx P1 A' F2 on hE (by push_cast; omega), ⟨x.kd, x.q, r2, r3, x.K, a, dd⟩, ⟨rfl, rfl, rfl, sub6 hsz e3 e4 er2 er3 e1 e2 ea ed⟩, hkd, ok.step F.u64, P3, d2.same (o1.onl F on (nE _ o1)) (o2.onl F on (nE _ o2)) (o3.onl F on (nE _ o3)), q1, q2, q3, o1.same (o1.onl F on (nE _ o1)), o2.same (o2.onl F on (nE _ o2)), o3.same (o3.onl F on (nE _ o3))⟩
set_option maxHeartbeats 4000000 in
theorem pk_joint (hB : 1 < B) (hBm : B ≤ m) (hc : c ≤ 900) (hb : Both p m b c w) (hl : Lay w) (hlm : LayM w) {o : PO} (J : JPk B x o w) :
    ∃ o', Calls Tryz.prog 35 #[.pointer (some ⟨x.K, 0, none⟩), .pointer (some ⟨b, 0, none⟩)] w fun ee w1 => ee = .returned (.tuple #[]) ∧ FxL B p b x.fp w w1 ∧
      Calls Tryz.prog 36 #[.pointer (some ⟨x.q, 0, none⟩), .pointer (some ⟨p, 0, none⟩)] w1 (JDone B p m b c x (o'.ln == 0) (fun x' => JPk B x' o') w) := by
  obtain ⟨n, D, L, M, S, hn, hs⟩ := hb.say hc
  obtain ⟨hkd, ok, P, d, oq, or, or1, oK, ok1, ok2⟩ := J
  obtain ⟨L', A', hd⟩ := park_doc hBm hc S ok d
  refine ⟨(parkX o M).1, hd.mono ?_⟩
  rintro ee w1 ⟨rfl, dk, P1, f1⟩
  obtain ⟨k1', d1, e1⟩ := PkR.doc dk d.1 d.2.1 (Nat.le_trans d.1 (Nat.le_of_lt oK.lt))
  have nR : ∀ y, OwnP B y w → y ∉ [x.K, x.k1] := fun y hy h => by
    simp only [List.mem_cons, List.not_mem_nil, or_false] at h
    rcases h with h | h
    · exact hy.neR oK h
    · exact hy.neR ok1 h
  have sq := oq.fxl S.pr f1 (nR _ oq)
  have sr := or.fxl S.pr f1 (nR _ or)
  have hbq := oq.1
  have hbr := or.1
  have hbr1 := or1.1
  have hbK := oK.1
  have hlw := oq.lt
  have hsz := f1.low.size
  have oq1 := oq.same sq
  have or2 := or.same sr
  have F := S.vx hn P1 (f1.lay hB hl) (f1.laym hB hlm) (by omega)
  obtain ⟨a, d2, ea, o1, o2⟩ := d1.tidy
  refine ⟨rfl, f1.more (by simp [JO.fp]), (park_stepX (by omega) (by omega) F S.st1 ok (P.same sq sr)).mono ?_⟩
  rintro ee w2 ⟨rfl, r', P2, F2, on, e3⟩
  have hE : ∀ y ∈ [x.q, x.r], OwnP B y w1 := fun y hy => by
    simp only [List.mem_cons, List.not_mem_nil, or_false] at hy
    rcases hy with rfl | rfl
    · exact oq1
    · exact or2
  have nE : ∀ y, OwnR B y w1 → y ∉ [x.q, x.r] := fun y hy h => (hE y h).neR hy rfl
  have hp := P1.mp
  have f2 := (onl_fxl on F (B := B) (b := b) (by omega) hBm (fun y hy => (hE y hy).1) (by omega)).more (E' := x.fp) (by simp [JO.fp])
  obtain ⟨r2, P3, er2, q1, q2⟩ := P2.tidy (B := B) hbq (by omega)
  have hst := parkX_st o M
  refine ⟨rfl, (f1.more (by simp [JO.fp])).trans f2, Both.of_vx P1 A' F2 on hE (by push_cast; omega), ⟨x.kd, x.q, r2, x.q, x.K, a, x.K⟩, ⟨rfl, rfl, rfl, sub6 hsz e3 (r1' := x.r1) (.inl rfl) er2 (.inl rfl) e1 (k2' := x.k2) (.inl rfl) ea (.inl rfl)⟩, hkd, ok.step F.u64, P3, d2.same (o1.onl F on (nE _ o1)) (o2.onl F on (nE _ o2)), q1, q2, q1, o1.same (o1.onl F on (nE _ o1)), o2.same (o2.onl F on (nE _ o2)), o1.same (o1.onl F on (nE _ o1))⟩
end
end Go.Proofs.YtlcbinckbkdgdaaGreatDoor
namespace Go.Proofs.YtlcbinckbkdgdaaGreatDoor
open Go.RowKit Go.Maps

section
variable {B p m b c n : Nat} {x : JO} {D : DataW Unit} {s : Acc8} {L : List (Ad × Int)} {w w' : World}
theorem Both.below (h : Both p m b c w) (hb : Below w.heap.size w w') : Both p m b c w' := by
  obtain ⟨n, D, s, L, hP, h2⟩ := h
  exact ⟨n, D, s, L, hP.below hb, h2⟩
theorem Both.mono {c' : Nat} (h : Both p m b c w) (hc : c ≤ c') : Both p m b c' w := by
  obtain ⟨n, D, s, L, hP, hr, h2, h3, h4, h5⟩ := h
  exact ⟨n, D, s, L, hP, hr, by omega, h3, h4, by omega⟩
theorem own_below (ho : x.own B w) (hb : Below w.heap.size w w') {y : Nat} (hy : y ∈ x.fp) : w'.heap[y]? = w.heap[y]? := hb.block y (by rcases JO.own_fp ho hy with h | h <;> exact h.lt)
theorem JAl.below {o : AX} (h : JAl B x o w) (hb : Below w.heap.size w w') : JAl B x o w' := h.same fun _ hy => own_below h.2.2.2.2 hb hy
theorem JFr.below {o : FX} (h : JFr B x o w) (hb : Below w.heap.size w w') : JFr B x o w' := h.same fun _ hy => own_below h.2.2.2.2 hb hy
theorem JPk.below {o : PO} (h : JPk B x o w) (hb : Below w.heap.size w w') : JPk B x o w' := h.same fun _ hy => own_below h.2.2.2.2 hb hy
theorem JAt.below (h : JAt B x w) (hb : Below w.heap.size w w') : JAt B x w' := h.same fun _ hy => own_below h.own hb hy
/-- A block of a type that no operation has. -/
def isBx (t : TypeId) : Bool := t == 28 || t == 49 || t == 39
theorem isBx_no {t : TypeId} (h : isBx t = true) : isPt t = false ∧ isRt t = false ∧ t ≠ 105 ∧ t ≠ 110 ∧ t ≠ 74 := by
  simp only [isBx, Bool.or_eq_true, beq_iff_eq] at h
  rcases h with (rfl | rfl) | rfl <;> decide
theorem fxl_box {z : Nat} {t : TypeId} {cs : List Value} (f : FxL B p b x.fp w w') (h : Both p m b c w) (ho : x.own B w) (hz : Bq z t cs w) (ht : isBx t = true) : Bq z t cs w' := by
  obtain ⟨n, D, s, L, hP, _⟩ := h
  obtain ⟨⟨cp, kp⟩, ⟨cb, kb⟩, _⟩ := Pr.blocks (M := ⟨vals L, s⟩) hP
  obtain ⟨t1, t2, t3, t4, t5⟩ := isBx_no ht
  refine f.far z _ _ _ hz t3 (hz.ne kp t4) (hz.ne kb t5) fun hx => ?_
  rcases JO.own_fp ho hx with h | h
  · exact h.ne hz t1 rfl
  · exact h.ne hz t2 rfl
theorem Bq.cells2 {z : Nat} {t : TypeId} {u v : Value} (k : Bq z t [u, v] w) : w.cell? ⟨z, 0, none⟩ = some u ∧ w.cell? ⟨z, 1, none⟩ = some v := ⟨k.cell 0, k.cell 1⟩
theorem Bq.cells6 {z : Nat} {t : TypeId} {v0 v1 v2 v3 v4 v5 : Value} (k : Bq z t [v0, v1, v2, v3, v4, v5] w) : w.cell? ⟨z, 0, none⟩ = some v0 ∧ w.cell? ⟨z, 1, none⟩ = some v1 ∧ w.cell? ⟨z, 2, none⟩ = some v2 ∧ w.cell? ⟨z, 3, none⟩ = some v3 ∧ w.cell? ⟨z, 4, none⟩ = some v4 ∧ w.cell? ⟨z, 5, none⟩ = some v5 := ⟨k.cell 0, k.cell 1, k.cell 2, k.cell 3, k.cell 4, k.cell 5⟩
/-- What a step of an operation of the law's leaves. -/
def StepS (B p m b c : Nat) (x : JO) (w : World) (e : Ending) (w' : World) : Prop := e = .returned (.bool true) ∧ FxL B p b x.fp w w' ∧ Both p m b (c + 1) w' ∧ ∃ x', x.sub x' w.heap.size ∧ JAt B x' w'
theorem AlNum.got_ln {o : AX} (h : AlNum o) (hg : o.o.got = true) : o.o.ln = 0 := Classical.byContradiction fun hc => by rw [h.got hc] at hg; cases hg
theorem AlD.reads {K k1 k2 : Nat} {o : AX} (h : AlD B K k1 k2 o w) : ∃ sl ge, w.cell? ⟨K, 0, none⟩ = some (.int .i64 o.o.ln) ∧ w.cell? ⟨K, 1, none⟩ = some (.int .i64 sl) ∧ w.cell? ⟨K, 2, none⟩ = some (.int .u32 ge) ∧ w.cell? ⟨K, 3, none⟩ = some (.bool false) ∧ w.cell? ⟨K, 4, none⟩ = some (.bool o.o.got) ∧ (o.o.got = true → sl = o.o.sl ∧ ge = gW o.o.w) := by
  obtain ⟨_, sl, ge, pp, pa, k, h1, h2, _⟩ := h
  exact ⟨sl, ge, k.cell 0, k.cell 1, k.cell 2, k.cell 3, k.cell 4, fun hg => ⟨h1 (.inr hg), h2 hg⟩⟩
theorem FrD.reads {K k1 k2 : Nat} {o : FX} (h : FrD B K k1 k2 o w) : w.cell? ⟨K, 2, none⟩ = some (.int .i64 o.o.ln) ∧ w.cell? ⟨K, 3, none⟩ = some (.int .u8 o.got) := by
  obtain ⟨_, pa, pu, k, _⟩ := h
  exact ⟨k.cell 2, k.cell 3⟩
theorem PkD.reads {K k1 : Nat} {o : PO} (h : PkD B K k1 o w) : w.cell? ⟨K, 1, none⟩ = some (.int .i64 o.ln) ∧ w.cell? ⟨K, 2, none⟩ = some (.bool o.st) := by
  obtain ⟨_, _, pu, k, _⟩ := h
  exact ⟨k.cell 1, k.cell 2⟩
theorem eq_refs (s g : Int) (w : World) : (binOp .eql 62 (.agg #[.int .i64 s, .int .u32 g, .bool false]) (.agg #[.int .i64 s, .int .u32 g, .bool false])).run Tryz.prog w = .ok (.bool true) w := by
  have hS : Tryz.prog.underlying 62 = some (.struct (Tryz.prog.fieldsOf 62)) := by kernel_rfl
  have hp : Tryz.prog.stoodInHeld 62 = false := by kernel_rfl
  rw [run_eql_struct, show (10000 : Nat) = 9999 + 1 from rfl, run_equalIn_agg w 9999 62 _ _ hS hp]
  simp only [Program.fieldsOf, Tryz.underlying62]
  have u3 := Tryz.underlying3
  have a3 := Tryz.isAgg3
  have z3 := Tryz.sizeOf3
  have u4 := Tryz.underlying31
  have a4 := Tryz.isAgg31
  have z4 := Tryz.sizeOf31
  have u5 := Tryz.underlying4
  have a5 := Tryz.isAgg4
  have z5 := Tryz.sizeOf4
  go_simp
theorem fill_same {e y : Nat} {d0 d1 d2 : Value} (h : y ≠ e) : (fill3 e d0 d1 d2 w).heap[y]? = w.heap[y]? := (Below.heap_setCell _ ⟨e, 2, none⟩ d2 y h).trans ((Below.heap_setCell _ ⟨e, 1, none⟩ d1 y h).trans (Below.heap_setCell _ ⟨e, 0, none⟩ d0 y h))
theorem own_lt (ho : x.own B w) {y : Nat} (hy : y ∈ x.fp) : y < w.heap.size := by rcases JO.own_fp ho hy with h | h <;> exact h.lt
/-- Blocks behind all turn nothing that lay. -/
theorem fill_below {e : Nat} {d0 d1 d2 : Value} (h : Below n w w') (he : n ≤ e) : Below n w (fill3 e d0 d1 d2 w') := ((h.setCell (p := ⟨e, 0, none⟩) he d0).setCell (p := ⟨e, 1, none⟩) he d1).setCell (p := ⟨e, 2, none⟩) he d2
set_option maxRecDepth 100000 in
set_option maxHeartbeats 4000000 in
theorem op_alloc (hB : 1 < B) (hBm : B ≤ m) (hc : c ≤ 900) (hb : Both p m b c w) (hl : Lay w) (hlm : LayM w) {o : AX} (J : JAl B x o w) :
    Calls Tryz.prog 13 #[.agg #[.pointer (some ⟨x.q, 0, none⟩), .pointer none, .pointer none, .pointer (some ⟨x.K, 0, none⟩), .pointer none, .pointer none], .agg #[.pointer (some ⟨p, 0, none⟩), .pointer (some ⟨b, 0, none⟩)]] w (StepS B p m b c x w) := by
  have hX : Below w.heap.size w ((w.alloc (.cells #[.pointer (some ⟨x.q, 0, none⟩), .pointer none, .pointer none, .pointer (some ⟨x.K, 0, none⟩), .pointer none, .pointer none] 49)).alloc (.cells #[.pointer (some ⟨p, 0, none⟩), .pointer (some ⟨b, 0, none⟩)] 28)) := ((Below.refl _ _).alloc (Nat.le_refl _) _).alloc (by simp) _
  have k1 : Bq w.heap.size 49 [.pointer (some ⟨x.q, 0, none⟩), .pointer none, .pointer none, .pointer (some ⟨x.K, 0, none⟩), .pointer none, .pointer none] ((w.alloc (.cells #[.pointer (some ⟨x.q, 0, none⟩), .pointer none, .pointer none, .pointer (some ⟨x.K, 0, none⟩), .pointer none, .pointer none] 49)).alloc (.cells #[.pointer (some ⟨p, 0, none⟩), .pointer (some ⟨b, 0, none⟩)] 28)) := (Bq.new w [.pointer (some ⟨x.q, 0, none⟩), .pointer none, .pointer none, .pointer (some ⟨x.K, 0, none⟩), .pointer none, .pointer none] _).below ((Below.refl _ _).alloc (by simp) _)
  have k2 : Bq (w.heap.size + 1) 28 [.pointer (some ⟨p, 0, none⟩), .pointer (some ⟨b, 0, none⟩)] ((w.alloc (.cells #[.pointer (some ⟨x.q, 0, none⟩), .pointer none, .pointer none, .pointer (some ⟨x.K, 0, none⟩), .pointer none, .pointer none] 49)).alloc (.cells #[.pointer (some ⟨p, 0, none⟩), .pointer (some ⟨b, 0, none⟩)] 28)) := by
    have := Bq.new (w.alloc (.cells #[.pointer (some ⟨x.q, 0, none⟩), .pointer none, .pointer none, .pointer (some ⟨x.K, 0, none⟩), .pointer none, .pointer none] 49)) [.pointer (some ⟨p, 0, none⟩), .pointer (some ⟨b, 0, none⟩)] 28
    simpa using this
  have hBw : B ≤ w.heap.size := by have := J.2.2.2.2.1; have h1 := this.1; have h2 := this.lt; omega
  have HJ := Lib.hid (J.below hX)
  have HB := Lib.hid (hb.below hX)
  have HX := Lib.hid (show FxL B p b x.fp w _ from .of_below hX hBw)
  have HL := Lib.hid (hl.below hX)
  have HM := Lib.hid (hlm.below hX)
  have HS := Lib.hid hX.size
  have HK1 := Lib.hid k1
  have HK2 := Lib.hid k2
  clear J hb hl hlm hX k1 k2
  go_enter Tryz.func13, Tryz.ntmps13
  go_upto_region 1 with (fail)
  revert HJ HB HX HL HM HS HK1 HK2
  generalize (w.alloc (.cells #[.pointer (some ⟨x.q, 0, none⟩), .pointer none, .pointer none, .pointer (some ⟨x.K, 0, none⟩), .pointer none, .pointer none] 49)).alloc (.cells #[.pointer (some ⟨p, 0, none⟩), .pointer (some ⟨b, 0, none⟩)] 28) = w0
  intro HJ HB HX HL HM HS HK1 HK2
  obtain ⟨d0, d1, d2, d3, d4, d5⟩ := HK1.out.cells6
  obtain ⟨t0, t1⟩ := HK2.out.cells2
  obtain ⟨o', hj⟩ := al_joint hB hBm hc HB.out HL.out HM.out HJ.out
  go_wp2_with fail
  ((with_reducible refine hj.mono ?_); rintro ee w1 ⟨rfl, f1, hstep⟩)
  have HF1 := Lib.hid f1
  have k1 := fxl_box f1 HB.out HJ.out.2.2.2.2 HK1.out (by decide)
  have k2 := fxl_box f1 HB.out HJ.out.2.2.2.2 HK2.out (by decide)
  clear hj f1 d0 d1 d2 d3 d4 d5 t0 t1
  obtain ⟨d0, d1, d2, d3, d4, d5⟩ := k1.cells6
  obtain ⟨t0, t1⟩ := k2.cells2
  clear k1 k2
  go_wp2_with fail
  ((with_reducible refine hstep.mono ?_); rintro ee w2 ⟨rfl, f2, b2, x', xs, J2⟩)
  have k1 := fxl_box f2 HB.out HJ.out.2.2.2.2 HK1.out (by decide)
  clear hstep d0 d1 d2 d3 d4 d5 t0 t1
  obtain ⟨d0, d1, d2, d3, d4, d5⟩ := k1.cells6
  have HF2 := Lib.hid f2
  have HB2 := Lib.hid b2
  have HXS := Lib.hid xs
  have HJ2 := Lib.hid J2
  have HK12 := Lib.hid k1
  have xq := xs.2.1
  clear f2 b2 xs J2 k1 HF1 HK1 HK2
  have HNUM := Lib.hid HJ2.out.2.1
  have hg := alGot HJ2.out.2.2.1 HJ2.out.2.1.got_ln
  rw [xq] at hg
  by_cases hgo : o'.o.got = true
  · have hz := HNUM.out.got_ln hgo
    rw [show refV o' = .agg #[.int .i64 o'.o.sl, .int .u32 (gW o'.o.w), .bool false] from if_pos hgo, hgo] at hg
    rw [hz]
    go_wp2_with fail
    ((with_reducible refine hg.mono ?_); rintro ee w3 ⟨rfl, hb3⟩)
    have hX4 : Below w3.heap.size w3 ((w3.alloc (.cells #[.int .i64 o'.o.sl, .int .u32 (gW o'.o.w), .bool false] 62)).alloc (.cells #[.int .i64 (-1), .int .u32 0, .bool false] 62)) := ((Below.refl _ _).alloc (Nat.le_refl _) _).alloc (by simp) _
    have kr1 : Bq w3.heap.size 62 [.int .i64 o'.o.sl, .int .u32 (gW o'.o.w), .bool false] ((w3.alloc (.cells #[.int .i64 o'.o.sl, .int .u32 (gW o'.o.w), .bool false] 62)).alloc (.cells #[.int .i64 (-1), .int .u32 0, .bool false] 62)) := (Bq.new w3 [.int .i64 o'.o.sl, .int .u32 (gW o'.o.w), .bool false] _).below ((Below.refl _ _).alloc (by simp) _)
    have kr2 : Bq (w3.heap.size + 1) 62 [.int .i64 (-1), .int .u32 0, .bool false] ((w3.alloc (.cells #[.int .i64 o'.o.sl, .int .u32 (gW o'.o.w), .bool false] 62)).alloc (.cells #[.int .i64 (-1), .int .u32 0, .bool false] 62)) := by
      have := Bq.new (w3.alloc (.cells #[.int .i64 o'.o.sl, .int .u32 (gW o'.o.w), .bool false] 62)) [.int .i64 (-1), .int .u32 0, .bool false] 62
      simpa using this
    have HB4 := Lib.hid (hb3.trans (hX4.mono hb3.size))
    have HR1 := Lib.hid kr1
    have HR2 := Lib.hid kr2
    have hw3 := hb3.size
    clear hX4 kr1 kr2 hb3 hg d0 d1 d2 d3 d4 d5
    go_upto_region 6 with (fail)
    revert HB4 HR1 HR2
    generalize (w3.alloc (.cells #[.int .i64 o'.o.sl, .int .u32 (gW o'.o.w), .bool false] 62)).alloc (.cells #[.int .i64 (-1), .int .u32 0, .bool false] 62) = w4
    generalize w3.heap.size = g at *
    intro HB4 HR1 HR2
    have HJ4 := Lib.hid (HJ2.out.below HB4.out)
    have HK4 := Lib.hid (HK12.out.below HB4.out)
    obtain ⟨d0, d1, d2, d3, d4, d5⟩ := HK4.out.cells6
    obtain ⟨r0, r1, r2, _, _, _⟩ := Bq.s3 HR1.out
    obtain ⟨s0, s1, s2, z0, z1, z2⟩ := Bq.s3 HR2.out
    obtain ⟨sl, ge, c0, c1, c2, c3, c4, hsg⟩ := HJ4.out.2.2.2.1.reads
    rw [HXS.out.2.2.1] at c0 c1 c2 c3 c4
    rw [hz] at c0
    rw [hgo] at c4
    obtain ⟨rfl, rfl⟩ := hsg hgo
    go_upto_region 8 with (fail)
    clear hsg c0 c1 c2 c3 c4 d0 d1 d2 d3 d4 d5 r0 r1 r2 s0 s1 s2 z0 z1 z2
    have HB5 := Lib.hid (fill_below (e := g + 1) (d0 := .int .i64 o'.o.sl) (d1 := .int .u32 (gW o'.o.w)) (d2 := .bool false) HB4.out (by omega))
    have HJ5 := Lib.hid (HJ2.out.below HB5.out)
    have HK5 := Lib.hid (HK12.out.below HB5.out)
    have HR15 := Lib.hid (HR1.out.same (fill_same (e := g + 1) (d0 := .int .i64 o'.o.sl) (d1 := .int .u32 (gW o'.o.w)) (d2 := .bool false) (show g ≠ g + 1 by omega)))
    have HR25 := Lib.hid (HR2.out.fill3 (d0 := .int .i64 o'.o.sl) (d1 := .int .u32 (gW o'.o.w)) (d2 := .bool false))
    clear HR1 HR2 HJ4 HK4 HB4
    unfold fill3 at HB5 HJ5 HK5 HR15 HR25
    revert HB5 HJ5 HK5 HR15 HR25
    generalize ((w4.setCell ⟨g + 1, 0, none⟩ (.int .i64 o'.o.sl)).setCell ⟨g + 1, 1, none⟩ (.int .u32 (gW o'.o.w))).setCell ⟨g + 1, 2, none⟩ (.bool false) = w5
    intro HB5 HJ5 HK5 HR15 HR25
    obtain ⟨d0, d1, d2, d3, d4, d5⟩ := HK5.out.cells6
    obtain ⟨r0, r1, r2, _, _, _⟩ := Bq.s3 HR15.out
    obtain ⟨s0, s1, s2, z0, z1, z2⟩ := Bq.s3 HR25.out
    obtain ⟨sl, ge, c0, c1, c2, c3, c4, hsg⟩ := HJ5.out.2.2.2.1.reads
    rw [HXS.out.2.2.1] at c0 c1 c2 c3 c4
    rw [hz] at c0
    rw [hgo] at c4
    clear hsg
    have HJF := HJ5
    have HBF := HB5
    have he := eq_refs (o'.o.sl) (gW o'.o.w)
    have hov := alOver HJF.out.2.2.1
    rw [xq, hz] at hov
    go_wp2_with fail
    ((with_reducible refine hov.mono ?_); rintro ee w6 ⟨rfl, rfl⟩)
    clear hov
    go_wp2_with fail
    go_ret
    exact ⟨rfl, (HX.out.trans HF2.out).trans (.of_below HBF.out (by have := HS.out; have := HF2.out.low.size; omega)), HB2.out.below HBF.out, x', ⟨HXS.out.1, HXS.out.2.1, HXS.out.2.2.1, fun y hy => (HXS.out.2.2.2 y hy).imp id fun h => Nat.le_trans HS.out h⟩, .inl ⟨o', HJF.out⟩⟩
  · have hgo : o'.o.got = false := by simpa using hgo
    by_cases hz : o'.o.ln = 0
    · skip
      rw [show refV o' = .agg #[.int .i64 (-1), .int .u32 0, .bool false] from if_neg (by rw [hgo]; decide), hgo] at hg
      rw [hz]
      go_wp2_with fail
      ((with_reducible refine hg.mono ?_); rintro ee w3 ⟨rfl, hb3⟩)
      have hX4 : Below w3.heap.size w3 ((w3.alloc (.cells #[.int .i64 (-1), .int .u32 0, .bool false] 62)).alloc (.cells #[.int .i64 (-1), .int .u32 0, .bool false] 62)) := ((Below.refl _ _).alloc (Nat.le_refl _) _).alloc (by simp) _
      have kr1 : Bq w3.heap.size 62 [.int .i64 (-1), .int .u32 0, .bool false] ((w3.alloc (.cells #[.int .i64 (-1), .int .u32 0, .bool false] 62)).alloc (.cells #[.int .i64 (-1), .int .u32 0, .bool false] 62)) := (Bq.new w3 [.int .i64 (-1), .int .u32 0, .bool false] _).below ((Below.refl _ _).alloc (by simp) _)
      have kr2 : Bq (w3.heap.size + 1) 62 [.int .i64 (-1), .int .u32 0, .bool false] ((w3.alloc (.cells #[.int .i64 (-1), .int .u32 0, .bool false] 62)).alloc (.cells #[.int .i64 (-1), .int .u32 0, .bool false] 62)) := by
        have := Bq.new (w3.alloc (.cells #[.int .i64 (-1), .int .u32 0, .bool false] 62)) [.int .i64 (-1), .int .u32 0, .bool false] 62
        simpa using this
      have HB4 := Lib.hid (hb3.trans (hX4.mono hb3.size))
      have HR1 := Lib.hid kr1
      have HR2 := Lib.hid kr2
      have hw3 := hb3.size
      clear hX4 kr1 kr2 hb3 hg d0 d1 d2 d3 d4 d5
      go_upto_region 6 with (fail)
      revert HB4 HR1 HR2
      generalize (w3.alloc (.cells #[.int .i64 (-1), .int .u32 0, .bool false] 62)).alloc (.cells #[.int .i64 (-1), .int .u32 0, .bool false] 62) = w4
      generalize w3.heap.size = g at *
      intro HB4 HR1 HR2
      have HJ4 := Lib.hid (HJ2.out.below HB4.out)
      have HK4 := Lib.hid (HK12.out.below HB4.out)
      obtain ⟨d0, d1, d2, d3, d4, d5⟩ := HK4.out.cells6
      obtain ⟨r0, r1, r2, _, _, _⟩ := Bq.s3 HR1.out
      obtain ⟨s0, s1, s2, z0, z1, z2⟩ := Bq.s3 HR2.out
      obtain ⟨sl, ge, c0, c1, c2, c3, c4, hsg⟩ := HJ4.out.2.2.2.1.reads
      rw [HXS.out.2.2.1] at c0 c1 c2 c3 c4
      rw [hz] at c0
      rw [hgo] at c4
      clear hsg
      have HJF := HJ4
      have HBF := HB4
      have he := eq_refs (-1) 0
      have hov := alOver HJF.out.2.2.1
      rw [xq, hz] at hov
      go_wp2_with fail
      ((with_reducible refine hov.mono ?_); rintro ee w6 ⟨rfl, rfl⟩)
      clear hov
      go_wp2_with fail
      go_ret
      exact ⟨rfl, (HX.out.trans HF2.out).trans (.of_below HBF.out (by have := HS.out; have := HF2.out.low.size; omega)), HB2.out.below HBF.out, x', ⟨HXS.out.1, HXS.out.2.1, HXS.out.2.2.1, fun y hy => (HXS.out.2.2.2 y hy).imp id fun h => Nat.le_trans HS.out h⟩, .inl ⟨o', HJF.out⟩⟩
    · have hzb : (o'.o.ln == 0) = false := by simpa using hz
      rw [show refV o' = .agg #[.int .i64 (-1), .int .u32 0, .bool false] from if_neg (by rw [hgo]; decide), hgo] at hg
      rw [hzb]
      go_wp2_with fail
      ((with_reducible refine hg.mono ?_); rintro ee w3 ⟨rfl, hb3⟩)
      have hX4 : Below w3.heap.size w3 ((w3.alloc (.cells #[.int .i64 (-1), .int .u32 0, .bool false] 62)).alloc (.cells #[.int .i64 (-1), .int .u32 0, .bool false] 62)) := ((Below.refl _ _).alloc (Nat.le_refl _) _).alloc (by simp) _
      have kr1 : Bq w3.heap.size 62 [.int .i64 (-1), .int .u32 0, .bool false] ((w3.alloc (.cells #[.int .i64 (-1), .int .u32 0, .bool false] 62)).alloc (.cells #[.int .i64 (-1), .int .u32 0, .bool false] 62)) := (Bq.new w3 [.int .i64 (-1), .int .u32 0, .bool false] _).below ((Below.refl _ _).alloc (by simp) _)
      have kr2 : Bq (w3.heap.size + 1) 62 [.int .i64 (-1), .int .u32 0, .bool false] ((w3.alloc (.cells #[.int .i64 (-1), .int .u32 0, .bool false] 62)).alloc (.cells #[.int .i64 (-1), .int .u32 0, .bool false] 62)) := by
        have := Bq.new (w3.alloc (.cells #[.int .i64 (-1), .int .u32 0, .bool false] 62)) [.int .i64 (-1), .int .u32 0, .bool false] 62
        simpa using this
      have HB4 := Lib.hid (hb3.trans (hX4.mono hb3.size))
      have HR1 := Lib.hid kr1
      have HR2 := Lib.hid kr2
      have hw3 := hb3.size
      clear hX4 kr1 kr2 hb3 hg d0 d1 d2 d3 d4 d5
      go_upto_region 6 with (fail)
      revert HB4 HR1 HR2
      generalize (w3.alloc (.cells #[.int .i64 (-1), .int .u32 0, .bool false] 62)).alloc (.cells #[.int .i64 (-1), .int .u32 0, .bool false] 62) = w4
      generalize w3.heap.size = g at *
      intro HB4 HR1 HR2
      have HJ4 := Lib.hid (HJ2.out.below HB4.out)
      have HK4 := Lib.hid (HK12.out.below HB4.out)
      obtain ⟨d0, d1, d2, d3, d4, d5⟩ := HK4.out.cells6
      obtain ⟨r0, r1, r2, _, _, _⟩ := Bq.s3 HR1.out
      obtain ⟨s0, s1, s2, z0, z1, z2⟩ := Bq.s3 HR2.out
      obtain ⟨sl, ge, c0, c1, c2, c3, c4, hsg⟩ := HJ4.out.2.2.2.1.reads
      rw [HXS.out.2.2.1] at c0 c1 c2 c3 c4
      
      rw [hgo] at c4
      clear hsg
      have HJF := HJ4
      have HBF := HB4
      have he := eq_refs (-1) 0
      have hov := alOver HJF.out.2.2.1
      rw [xq, hzb] at hov
      go_wp2_with fail
      ((with_reducible refine hov.mono ?_); rintro ee w6 ⟨rfl, rfl⟩)
      clear hov
      go_wp2_with fail
      go_ret
      exact ⟨rfl, (HX.out.trans HF2.out).trans (.of_below HBF.out (by have := HS.out; have := HF2.out.low.size; omega)), HB2.out.below HBF.out, x', ⟨HXS.out.1, HXS.out.2.1, HXS.out.2.2.1, fun y hy => (HXS.out.2.2.2 y hy).imp id fun h => Nat.le_trans HS.out h⟩, .inl ⟨o', HJF.out⟩⟩
end
end Go.Proofs.YtlcbinckbkdgdaaGreatDoor
namespace Go.Proofs.YtlcbinckbkdgdaaGreatDoor
open Go.RowKit Go.Maps

section
variable {B p m b c n : Nat} {x : JO} {w w' : World}
theorem pkOver {q r : Nat} {o : PO} (h : PkX q r o w) : Calls Tryz.prog 37 #[.pointer (some ⟨q, 0, none⟩)] w fun e w' => e = .returned (.bool (o.ln == 0)) ∧ w' = w := by
  rcases h with ⟨h, s, g, k⟩ | ⟨pt, bt, cs, hp, kq, kr⟩
  · rw [h]; exact overPark_yes k
  · rw [fls hp.ne.2.2]; exact overPark_no kq
theorem pkGot {q r : Nat} {o : PO} (h : PkX q r o w) : Calls Tryz.prog 38 #[.pointer (some ⟨q, 0, none⟩)] w fun e w' => e = .returned (.bool o.st) ∧ w' = w := by
  rcases h with ⟨h, s, g, k⟩ | ⟨pt, bt, cs, hp, kq, kr⟩
  · exact gotPark_any k
  · exact gotPark_any kq
theorem frGot {q r r1 : Nat} {o : FX} (h : FrRep q r r1 o w) (ok : FrNum o) : Calls Tryz.prog 34 #[.pointer (some ⟨q, 0, none⟩)] w fun e w' => e = .returned (.int .u8 o.got) ∧ w' = w := by
  rcases h with ⟨h, s, g, k⟩ | ⟨pt, bt, cs, hp, kq, kr⟩ | ⟨h, kq, P⟩
  · exact gotFree_any k
  · rw [ok.got (by cases hp <;> omega)]; exact gotFree_any kq
  · rw [ok.got (by omega)]; exact gotFree_any kq
set_option maxRecDepth 100000 in
set_option maxHeartbeats 4000000 in
theorem op_free (hB : 1 < B) (hBm : B ≤ m) (hc : c ≤ 900) (hb : Both p m b c w) (hl : Lay w) (hlm : LayM w) {o : FX} (J : JFr B x o w) :
    Calls Tryz.prog 13 #[.agg #[.pointer none, .pointer (some ⟨x.q, 0, none⟩), .pointer none, .pointer none, .pointer (some ⟨x.K, 0, none⟩), .pointer none], .agg #[.pointer (some ⟨p, 0, none⟩), .pointer (some ⟨b, 0, none⟩)]] w (StepS B p m b c x w) := by
  have hX : Below w.heap.size w ((w.alloc (.cells #[.pointer none, .pointer (some ⟨x.q, 0, none⟩), .pointer none, .pointer none, .pointer (some ⟨x.K, 0, none⟩), .pointer none] 49)).alloc (.cells #[.pointer (some ⟨p, 0, none⟩), .pointer (some ⟨b, 0, none⟩)] 28)) := ((Below.refl _ _).alloc (Nat.le_refl _) _).alloc (by simp) _
  have k1 : Bq w.heap.size 49 [.pointer none, .pointer (some ⟨x.q, 0, none⟩), .pointer none, .pointer none, .pointer (some ⟨x.K, 0, none⟩), .pointer none] ((w.alloc (.cells #[.pointer none, .pointer (some ⟨x.q, 0, none⟩), .pointer none, .pointer none, .pointer (some ⟨x.K, 0, none⟩), .pointer none] 49)).alloc (.cells #[.pointer (some ⟨p, 0, none⟩), .pointer (some ⟨b, 0, none⟩)] 28)) := (Bq.new w [.pointer none, .pointer (some ⟨x.q, 0, none⟩), .pointer none, .pointer none, .pointer (some ⟨x.K, 0, none⟩), .pointer none] _).below ((Below.refl _ _).alloc (by simp) _)
  have k2 : Bq (w.heap.size + 1) 28 [.pointer (some ⟨p, 0, none⟩), .pointer (some ⟨b, 0, none⟩)] ((w.alloc (.cells #[.pointer none, .pointer (some ⟨x.q, 0, none⟩), .pointer none, .pointer none, .pointer (some ⟨x.K, 0, none⟩), .pointer none] 49)).alloc (.cells #[.pointer (some ⟨p, 0, none⟩), .pointer (some ⟨b, 0, none⟩)] 28)) := by
    have := Bq.new (w.alloc (.cells #[.pointer none, .pointer (some ⟨x.q, 0, none⟩), .pointer none, .pointer none, .pointer (some ⟨x.K, 0, none⟩), .pointer none] 49)) [.pointer (some ⟨p, 0, none⟩), .pointer (some ⟨b, 0, none⟩)] 28
    simpa using this
  have hBw : B ≤ w.heap.size := by have := J.2.2.2.2.1; have h1 := this.1; have h2 := this.lt; omega
  have HJ := Lib.hid (J.below hX)
  have HB := Lib.hid (hb.below hX)
  have HX := Lib.hid (show FxL B p b x.fp w _ from .of_below hX hBw)
  have HL := Lib.hid (hl.below hX)
  have HM := Lib.hid (hlm.below hX)
  have HS := Lib.hid hX.size
  have HK1 := Lib.hid k1
  have HK2 := Lib.hid k2
  clear J hb hl hlm hX k1 k2
  go_enter Tryz.func13, Tryz.ntmps13
  go_upto_region 1 with (fail)
  revert HJ HB HX HL HM HS HK1 HK2
  generalize (w.alloc (.cells #[.pointer none, .pointer (some ⟨x.q, 0, none⟩), .pointer none, .pointer none, .pointer (some ⟨x.K, 0, none⟩), .pointer none] 49)).alloc (.cells #[.pointer (some ⟨p, 0, none⟩), .pointer (some ⟨b, 0, none⟩)] 28) = w0
  intro HJ HB HX HL HM HS HK1 HK2
  obtain ⟨d0, d1, d2, d3, d4, d5⟩ := HK1.out.cells6
  obtain ⟨t0, t1⟩ := HK2.out.cells2
  obtain ⟨d0, d1, d2, d3, d4, d5⟩ := HK1.out.cells6
  obtain ⟨t0, t1⟩ := HK2.out.cells2
  obtain ⟨o', hj⟩ := fr_joint hB hBm hc HB.out HL.out HM.out HJ.out
  go_wp2_with fail
  ((with_reducible refine hj.mono ?_); rintro ee w1 ⟨rfl, f1, hstep⟩)
  have HF1 := Lib.hid f1
  have k1 := fxl_box f1 HB.out HJ.out.2.2.2.2 HK1.out (by decide)
  have k2 := fxl_box f1 HB.out HJ.out.2.2.2.2 HK2.out (by decide)
  clear hj f1 d0 d1 d2 d3 d4 d5 t0 t1
  obtain ⟨d0, d1, d2, d3, d4, d5⟩ := k1.cells6
  obtain ⟨t0, t1⟩ := k2.cells2
  clear k1 k2
  go_wp2_with fail
  ((with_reducible refine hstep.mono ?_); rintro ee w2 ⟨rfl, f2, b2, x', xs, J2⟩)
  have k1 := fxl_box f2 HB.out HJ.out.2.2.2.2 HK1.out (by decide)
  clear hstep d0 d1 d2 d3 d4 d5 t0 t1
  obtain ⟨d0, d1, d2, d3, d4, d5⟩ := k1.cells6
  have HF2 := Lib.hid f2
  have HB2 := Lib.hid b2
  have HXS := Lib.hid xs
  have HJ2 := Lib.hid J2
  have HK12 := Lib.hid k1
  have xq := xs.2.1
  clear f2 b2 xs J2 k1 HF1 HK1 HK2
  by_cases hz : o'.o.ln = 0
  · skip
    rw [hz]
    go_upto_region 12 with (fail)
    clear d0 d1 d2 d3 d4 d5
    have HBF := Lib.hid (show Below w2.heap.size w2 w2.drew from (Below.refl _ _).drew)
    have HJF := Lib.hid (HJ2.out.below HBF.out)
    have HKF := Lib.hid (HK12.out.below HBF.out)
    have hs : w2.drew.cell? ⟨w.heap.size, 1, none⟩ = some (.pointer (some ⟨x.q, 0, none⟩)) ∧ w2.drew.cell? ⟨w.heap.size, 4, none⟩ = some (.pointer (some ⟨x.K, 0, none⟩)) ∧ w2.drew.cell? ⟨x.K, 2, none⟩ = some (.int .i64 0) ∧ w2.drew.cell? ⟨x.K, 3, none⟩ = some (.int .u8 o'.got) := by
      obtain ⟨c0, c1⟩ := HJF.out.2.2.2.1.reads
      rw [HXS.out.2.2.1] at c0 c1
      rw [hz] at c0
      exact ⟨HKF.out.cell 1, HKF.out.cell 4, c0, c1⟩
    have HSS := Lib.hid hs
    have hov := frOver HJF.out.2.2.1
    have hgt := frGot HJF.out.2.2.1 HJF.out.2.1
    rw [xq, hz] at hov
    rw [xq] at hgt
    have HOV := Lib.hid hov
    have HGT := Lib.hid hgt
    clear hs hov hgt
    go_region_held3 (fun w9 => w9.cell? ⟨w.heap.size, 1, none⟩ = some (.pointer (some ⟨x.q, 0, none⟩)) ∧ w9.cell? ⟨w.heap.size, 4, none⟩ = some (.pointer (some ⟨x.K, 0, none⟩)) ∧ w9.cell? ⟨x.K, 2, none⟩ = some (.int .i64 0) ∧ w9.cell? ⟨x.K, 3, none⟩ = some (.int .u8 o'.got))
      (first | exact HSS.out | fail)
      (first
        | (go_at_call 21; with_reducible refine HOV.out.mono ?_; rintro e4 w4 ⟨rfl, rfl⟩)
        | (go_at_call 34; with_reducible refine HGT.out.mono ?_; rintro e4 w4 ⟨rfl, rfl⟩)
        | fail)
    all_goals
      go_wp2_with fail
      go_ret
      exact ⟨rfl, (HX.out.trans HF2.out).trans (.of_below HBF.out (by have := HS.out; have := HF2.out.low.size; omega)), HB2.out.below HBF.out, x', ⟨HXS.out.1, HXS.out.2.1, HXS.out.2.2.1, fun y hy => (HXS.out.2.2.2 y hy).imp id fun h => Nat.le_trans HS.out h⟩, .inr (.inl ⟨o', HJF.out⟩)⟩
  · have hzb : (o'.o.ln == 0) = false := by simpa using hz
    rw [hzb]
    go_upto_region 12 with (fail)
    clear d0 d1 d2 d3 d4 d5
    have HBF := Lib.hid (show Below w2.heap.size w2 w2.drew from (Below.refl _ _).drew)
    have HJF := Lib.hid (HJ2.out.below HBF.out)
    have HKF := Lib.hid (HK12.out.below HBF.out)
    have hs : w2.drew.cell? ⟨w.heap.size, 1, none⟩ = some (.pointer (some ⟨x.q, 0, none⟩)) ∧ w2.drew.cell? ⟨w.heap.size, 4, none⟩ = some (.pointer (some ⟨x.K, 0, none⟩)) ∧ w2.drew.cell? ⟨x.K, 2, none⟩ = some (.int .i64 o'.o.ln) ∧ w2.drew.cell? ⟨x.K, 3, none⟩ = some (.int .u8 o'.got) := by
      obtain ⟨c0, c1⟩ := HJF.out.2.2.2.1.reads
      rw [HXS.out.2.2.1] at c0 c1
      skip
      exact ⟨HKF.out.cell 1, HKF.out.cell 4, c0, c1⟩
    have HSS := Lib.hid hs
    have hov := frOver HJF.out.2.2.1
    have hgt := frGot HJF.out.2.2.1 HJF.out.2.1
    rw [xq, hzb] at hov
    rw [xq] at hgt
    have HOV := Lib.hid hov
    have HGT := Lib.hid hgt
    clear hs hov hgt
    go_region_held3 (fun w9 => w9.cell? ⟨w.heap.size, 1, none⟩ = some (.pointer (some ⟨x.q, 0, none⟩)) ∧ w9.cell? ⟨w.heap.size, 4, none⟩ = some (.pointer (some ⟨x.K, 0, none⟩)) ∧ w9.cell? ⟨x.K, 2, none⟩ = some (.int .i64 o'.o.ln) ∧ w9.cell? ⟨x.K, 3, none⟩ = some (.int .u8 o'.got))
      (first | exact HSS.out | fail)
      (first
        | (go_at_call 21; with_reducible refine HOV.out.mono ?_; rintro e4 w4 ⟨rfl, rfl⟩)
        | (go_at_call 34; with_reducible refine HGT.out.mono ?_; rintro e4 w4 ⟨rfl, rfl⟩)
        | fail)
    all_goals
      go_wp2_with fail
      go_ret
      exact ⟨rfl, (HX.out.trans HF2.out).trans (.of_below HBF.out (by have := HS.out; have := HF2.out.low.size; omega)), HB2.out.below HBF.out, x', ⟨HXS.out.1, HXS.out.2.1, HXS.out.2.2.1, fun y hy => (HXS.out.2.2.2 y hy).imp id fun h => Nat.le_trans HS.out h⟩, .inr (.inl ⟨o', HJF.out⟩)⟩
set_option maxRecDepth 100000 in
set_option maxHeartbeats 4000000 in
theorem op_park (hB : 1 < B) (hBm : B ≤ m) (hc : c ≤ 900) (hb : Both p m b c w) (hl : Lay w) (hlm : LayM w) {o : PO} (J : JPk B x o w) :
    Calls Tryz.prog 13 #[.agg #[.pointer none, .pointer none, .pointer (some ⟨x.q, 0, none⟩), .pointer none, .pointer none, .pointer (some ⟨x.K, 0, none⟩)], .agg #[.pointer (some ⟨p, 0, none⟩), .pointer (some ⟨b, 0, none⟩)]] w (StepS B p m b c x w) := by
  have hX : Below w.heap.size w ((w.alloc (.cells #[.pointer none, .pointer none, .pointer (some ⟨x.q, 0, none⟩), .pointer none, .pointer none, .pointer (some ⟨x.K, 0, none⟩)] 49)).alloc (.cells #[.pointer (some ⟨p, 0, none⟩), .pointer (some ⟨b, 0, none⟩)] 28)) := ((Below.refl _ _).alloc (Nat.le_refl _) _).alloc (by simp) _
  have k1 : Bq w.heap.size 49 [.pointer none, .pointer none, .pointer (some ⟨x.q, 0, none⟩), .pointer none, .pointer none, .pointer (some ⟨x.K, 0, none⟩)] ((w.alloc (.cells #[.pointer none, .pointer none, .pointer (some ⟨x.q, 0, none⟩), .pointer none, .pointer none, .pointer (some ⟨x.K, 0, none⟩)] 49)).alloc (.cells #[.pointer (some ⟨p, 0, none⟩), .pointer (some ⟨b, 0, none⟩)] 28)) := (Bq.new w [.pointer none, .pointer none, .pointer (some ⟨x.q, 0, none⟩), .pointer none, .pointer none, .pointer (some ⟨x.K, 0, none⟩)] _).below ((Below.refl _ _).alloc (by simp) _)
  have k2 : Bq (w.heap.size + 1) 28 [.pointer (some ⟨p, 0, none⟩), .pointer (some ⟨b, 0, none⟩)] ((w.alloc (.cells #[.pointer none, .pointer none, .pointer (some ⟨x.q, 0, none⟩), .pointer none, .pointer none, .pointer (some ⟨x.K, 0, none⟩)] 49)).alloc (.cells #[.pointer (some ⟨p, 0, none⟩), .pointer (some ⟨b, 0, none⟩)] 28)) := by
    have := Bq.new (w.alloc (.cells #[.pointer none, .pointer none, .pointer (some ⟨x.q, 0, none⟩), .pointer none, .pointer none, .pointer (some ⟨x.K, 0, none⟩)] 49)) [.pointer (some ⟨p, 0, none⟩), .pointer (some ⟨b, 0, none⟩)] 28
    simpa using this
  have hBw : B ≤ w.heap.size := by have := J.2.2.2.2.1; have h1 := this.1; have h2 := this.lt; omega
  have HJ := Lib.hid (J.below hX)
  have HB := Lib.hid (hb.below hX)
  have HX := Lib.hid (show FxL B p b x.fp w _ from .of_below hX hBw)
  have HL := Lib.hid (hl.below hX)
  have HM := Lib.hid (hlm.below hX)
  have HS := Lib.hid hX.size
  have HK1 := Lib.hid k1
  have HK2 := Lib.hid k2
  clear J hb hl hlm hX k1 k2
  go_enter Tryz.func13, Tryz.ntmps13
  go_upto_region 1 with (fail)
  revert HJ HB HX HL HM HS HK1 HK2
  generalize (w.alloc (.cells #[.pointer none, .pointer none, .pointer (some ⟨x.q, 0, none⟩), .pointer none, .pointer none, .pointer (some ⟨x.K, 0, none⟩)] 49)).alloc (.cells #[.pointer (some ⟨p, 0, none⟩), .pointer (some ⟨b, 0, none⟩)] 28) = w0
  intro HJ HB HX HL HM HS HK1 HK2
  obtain ⟨d0, d1, d2, d3, d4, d5⟩ := HK1.out.cells6
  obtain ⟨t0, t1⟩ := HK2.out.cells2
  obtain ⟨d0, d1, d2, d3, d4, d5⟩ := HK1.out.cells6
  obtain ⟨t0, t1⟩ := HK2.out.cells2
  obtain ⟨o', hj⟩ := pk_joint hB hBm hc HB.out HL.out HM.out HJ.out
  go_wp2_with fail
  ((with_reducible refine hj.mono ?_); rintro ee w1 ⟨rfl, f1, hstep⟩)
  have HF1 := Lib.hid f1
  have k1 := fxl_box f1 HB.out HJ.out.2.2.2.2 HK1.out (by decide)
  have k2 := fxl_box f1 HB.out HJ.out.2.2.2.2 HK2.out (by decide)
  clear hj f1 d0 d1 d2 d3 d4 d5 t0 t1
  obtain ⟨d0, d1, d2, d3, d4, d5⟩ := k1.cells6
  obtain ⟨t0, t1⟩ := k2.cells2
  clear k1 k2
  go_wp2_with fail
  ((with_reducible refine hstep.mono ?_); rintro ee w2 ⟨rfl, f2, b2, x', xs, J2⟩)
  have k1 := fxl_box f2 HB.out HJ.out.2.2.2.2 HK1.out (by decide)
  clear hstep d0 d1 d2 d3 d4 d5 t0 t1
  obtain ⟨d0, d1, d2, d3, d4, d5⟩ := k1.cells6
  have HF2 := Lib.hid f2
  have HB2 := Lib.hid b2
  have HXS := Lib.hid xs
  have HJ2 := Lib.hid J2
  have HK12 := Lib.hid k1
  have xq := xs.2.1
  clear f2 b2 xs J2 k1 HF1 HK1 HK2
  by_cases hz : o'.ln = 0
  · skip
    rw [hz]
    go_upto_region 15 with (fail)
    clear d0 d1 d2 d3 d4 d5
    have HBF := Lib.hid (show Below w2.heap.size w2 w2.drew from (Below.refl _ _).drew)
    have HJF := Lib.hid (HJ2.out.below HBF.out)
    have HKF := Lib.hid (HK12.out.below HBF.out)
    have hs : w2.drew.cell? ⟨w.heap.size, 2, none⟩ = some (.pointer (some ⟨x.q, 0, none⟩)) ∧ w2.drew.cell? ⟨w.heap.size, 5, none⟩ = some (.pointer (some ⟨x.K, 0, none⟩)) ∧ w2.drew.cell? ⟨x.K, 1, none⟩ = some (.int .i64 0) ∧ w2.drew.cell? ⟨x.K, 2, none⟩ = some (.bool o'.st) := by
      obtain ⟨c0, c1⟩ := HJF.out.2.2.2.1.reads
      rw [HXS.out.2.2.1] at c0 c1
      rw [hz] at c0
      exact ⟨HKF.out.cell 2, HKF.out.cell 5, c0, c1⟩
    have HSS := Lib.hid hs
    have hov := pkOver HJF.out.2.2.1
    have hgt := pkGot HJF.out.2.2.1
    rw [xq, hz] at hov
    rw [xq] at hgt
    have HOV := Lib.hid hov
    have HGT := Lib.hid hgt
    clear hs hov hgt
    go_region_held3 (fun w9 => w9.cell? ⟨w.heap.size, 2, none⟩ = some (.pointer (some ⟨x.q, 0, none⟩)) ∧ w9.cell? ⟨w.heap.size, 5, none⟩ = some (.pointer (some ⟨x.K, 0, none⟩)) ∧ w9.cell? ⟨x.K, 1, none⟩ = some (.int .i64 0) ∧ w9.cell? ⟨x.K, 2, none⟩ = some (.bool o'.st))
      (first | exact HSS.out | fail)
      (first
        | (go_at_call 37; with_reducible refine HOV.out.mono ?_; rintro e4 w4 ⟨rfl, rfl⟩)
        | (go_at_call 38; with_reducible refine HGT.out.mono ?_; rintro e4 w4 ⟨rfl, rfl⟩)
        | fail)
    all_goals
      go_wp2_with fail
      go_ret
      exact ⟨rfl, (HX.out.trans HF2.out).trans (.of_below HBF.out (by have := HS.out; have := HF2.out.low.size; omega)), HB2.out.below HBF.out, x', ⟨HXS.out.1, HXS.out.2.1, HXS.out.2.2.1, fun y hy => (HXS.out.2.2.2 y hy).imp id fun h => Nat.le_trans HS.out h⟩, .inr (.inr ⟨o', HJF.out⟩)⟩
  · have hzb : (o'.ln == 0) = false := by simpa using hz
    rw [hzb]
    go_upto_region 15 with (fail)
    clear d0 d1 d2 d3 d4 d5
    have HBF := Lib.hid (show Below w2.heap.size w2 w2.drew from (Below.refl _ _).drew)
    have HJF := Lib.hid (HJ2.out.below HBF.out)
    have HKF := Lib.hid (HK12.out.below HBF.out)
    have hs : w2.drew.cell? ⟨w.heap.size, 2, none⟩ = some (.pointer (some ⟨x.q, 0, none⟩)) ∧ w2.drew.cell? ⟨w.heap.size, 5, none⟩ = some (.pointer (some ⟨x.K, 0, none⟩)) ∧ w2.drew.cell? ⟨x.K, 1, none⟩ = some (.int .i64 o'.ln) ∧ w2.drew.cell? ⟨x.K, 2, none⟩ = some (.bool o'.st) := by
      obtain ⟨c0, c1⟩ := HJF.out.2.2.2.1.reads
      rw [HXS.out.2.2.1] at c0 c1
      skip
      exact ⟨HKF.out.cell 2, HKF.out.cell 5, c0, c1⟩
    have HSS := Lib.hid hs
    have hov := pkOver HJF.out.2.2.1
    have hgt := pkGot HJF.out.2.2.1
    rw [xq, hzb] at hov
    rw [xq] at hgt
    have HOV := Lib.hid hov
    have HGT := Lib.hid hgt
    clear hs hov hgt
    go_region_held3 (fun w9 => w9.cell? ⟨w.heap.size, 2, none⟩ = some (.pointer (some ⟨x.q, 0, none⟩)) ∧ w9.cell? ⟨w.heap.size, 5, none⟩ = some (.pointer (some ⟨x.K, 0, none⟩)) ∧ w9.cell? ⟨x.K, 1, none⟩ = some (.int .i64 o'.ln) ∧ w9.cell? ⟨x.K, 2, none⟩ = some (.bool o'.st))
      (first | exact HSS.out | fail)
      (first
        | (go_at_call 37; with_reducible refine HOV.out.mono ?_; rintro e4 w4 ⟨rfl, rfl⟩)
        | (go_at_call 38; with_reducible refine HGT.out.mono ?_; rintro e4 w4 ⟨rfl, rfl⟩)
        | fail)
    all_goals
      go_wp2_with fail
      go_ret
      exact ⟨rfl, (HX.out.trans HF2.out).trans (.of_below HBF.out (by have := HS.out; have := HF2.out.low.size; omega)), HB2.out.below HBF.out, x', ⟨HXS.out.1, HXS.out.2.1, HXS.out.2.2.1, fun y hy => (HXS.out.2.2.2 y hy).imp id fun h => Nat.le_trans HS.out h⟩, .inr (.inr ⟨o', HJF.out⟩)⟩
end
end Go.Proofs.YtlcbinckbkdgdaaGreatDoor
