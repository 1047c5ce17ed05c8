/-
  Blocks of an operation of layer 9 and of the document's; conditions as each theorem says.
-/
import Derived.Test.YtmjcbjcnmgleaaaGreatDoorXP46
import Derived.Test.YtmjcbjcnmgleaaaGreatDoorXP47
import Derived.Test.YtmjcbjcnmgleaaaGreatDoorXP42
namespace Go.Proofs.YtmjcbjcnmgleaaaGreatDoor
open Go.RowKit Go.Maps
section
variable {B p b q r r1 : Nat} {M : MV} {o : KX} {kv : Value} {w w' : World}
theorem GrRep.same (h : GrRep q r o w) (h1 : w'.heap[q]? = w.heap[q]?) (h2 : w'.heap[r]? = w.heap[r]?) : GrRep q r o w' := by
  rcases h with ⟨h, pt, sg, sl, ws, k⟩ | ⟨h, h3, pt, ws, hw, k⟩ | ⟨h, h3, pt, sl, ws, k, a1, a2, a3, a4⟩
  · exact .inl ⟨h, pt, sg, sl, ws, k.same h1⟩
  · exact .inr (.inl ⟨h, h3, pt, ws, hw, k.same h1⟩)
  · exact .inr (.inr ⟨h, h3, pt, sl, ws, k.same h1, a1, a2, a3, fun e => ⟨(a4 e).1, (a4 e).2.same h2⟩⟩)
theorem ShP.same {nx : Int} (h : ShP B q r r1 nx o kv w) (h1 : w'.heap[q]? = w.heap[q]?) (h2 : w'.heap[r]? = w.heap[r]?) (h3 : w'.heap[r1]? = w.heap[r1]?) (h4 : o.k.ln ≤ 8 → ∀ g, kv.ownBlock = some g → w'.heap[g]? = w.heap[g]?) : ShP B q r r1 nx o kv w' := by
  refine ⟨fun hl => (h.1 hl).same (h4 hl), ?_⟩
  rcases h.2 with ⟨a1, pt, ws, a2, k⟩ | ⟨a1, ws, a2, k, k2⟩ | ⟨a1, ws, a2, k, k2, a3⟩ | ⟨a1, ws, a2, k, k2⟩ | ⟨a1, pt, sl, ws, k, b1, b2, b3, b4⟩
  · exact .inl ⟨a1, pt, ws, a2, k.same h1⟩
  · exact .inr (.inl ⟨a1, ws, a2, k.same h1, k2.same h2⟩)
  · exact .inr (.inr (.inl ⟨a1, ws, a2, k.same h1, k2.same9 h2 h3, a3⟩))
  · exact .inr (.inr (.inr (.inl ⟨a1, ws, a2, k.same h1, k2.same h2⟩)))
  · exact .inr (.inr (.inr (.inr ⟨a1, pt, sl, ws, k.same h1, b1, b2, b3, fun e => ⟨(b4 e).1, (b4 e).2.same h2⟩⟩)))
theorem shrink_turn9 (hq : 1 < q) (hr : 1 < r) (F : VX p b M w) (hs : M.s.st < 1000000) (ok : KNum o) (hl : 11 ≤ o.k.ln) (P : ShRep B q r r1 o kv w) :
    Calls Tryz.prog 35 #[.pointer (some ⟨q, 0, none⟩), .pointer (some ⟨p, 0, none⟩)] w fun e w' => e = .returned (.bool ((kX o M).1.k.ln == 0)) ∧ ((kX o M).1.k.ln = 0 ∨ 11 ≤ (kX o M).1.k.ln) ∧ ∃ r', ShRep B q r' r' (kX o M).1 kv w' ∧ VX p b (kX o M).2 w' ∧ Onl p b [q, r] w w' ∧ (r' = r ∨ w.heap.size ≤ r') := by
  have hR : o.k.sh = true ∧ TR q r 63 (nxL o.k.ln) o.k 9 [.int .i64 o.k.looks, kv] w := by
    rcases P with ⟨h, _⟩ | ⟨hsh, _, _, h⟩
    · omega
    · rcases h with ⟨h, _⟩ | ⟨h, _⟩ | ⟨h, _⟩ | ⟨h, _⟩ | ⟨_, h⟩
      · omega
      · omega
      · omega
      · omega
      · exact ⟨hsh, h⟩
  obtain ⟨hsh, R⟩ := hR
  have e : kX o M = turnX o M := by unfold kX; rw [if_pos hl]
  rw [e]
  have hl2 : 11 ≤ o.k.ln ∧ o.k.ln ≤ 15 := ⟨hl, by have := ok.ln; omega⟩
  obtain ⟨t1, t2, t3, t4⟩ := turnX_kinds o M hl2
  have T := turn_stepX hq hr (by decide) (by decide) F hs ok hl R
  obtain ⟨pt, sl, ws, k, r0⟩ := R
  have key : Calls Tryz.prog 35 #[.pointer (some ⟨q, 0, none⟩), .pointer (some ⟨p, 0, none⟩)] w fun e w' => e = .returned (.bool (nxL (turnX o M).1.k.ln == 0)) ∧ ∃ w1, (∃ r', TR q r' 63 (nxL o.k.ln) (turnX o M).1.k 9 [.int .i64 o.k.looks, kv] w1 ∧ VX p b (turnX o M).2 w1 ∧ Onl p b [q, r] w w1 ∧ (r' = r ∨ w.heap.size ≤ r')) ∧ w' = w1.setCell ⟨q, 0, none⟩ (.int .i64 (nxL (turnX o M).1.k.ln)) := by
    have hb : ∀ X, (∃ r', TR q r' 63 (nxL o.k.ln) (turnX o M).1.k 9 [.int .i64 o.k.looks, kv] X ∧ VX p b (turnX o M).2 X ∧ Onl p b [q, r] w X ∧ (r' = r ∨ w.heap.size ≤ r')) → ∃ nx pt' sg' sl' ws' en' tl', Bq q 63 (TC nx pt' sg' sl' ws' en' tl') X := fun X ⟨_, h, _⟩ => h.bq
    obtain h | h | h | h | h : o.k.ln = 11 ∨ o.k.ln = 12 ∨ o.k.ln = 13 ∨ o.k.ln = 14 ∨ o.k.ln = 15 := by omega
    · exact gShrink_turn7 (by rw [show nxL o.k.ln = 7 by rw [h]; rfl] at k; exact k) T hb
    · exact gShrink_turn8 (by rw [show nxL o.k.ln = 8 by rw [h]; rfl] at k; exact k) T hb
    · exact gShrink_turn9 (by rw [show nxL o.k.ln = 9 by rw [h]; rfl] at k; exact k) T hb
    · exact gShrink_turn10 (by rw [show nxL o.k.ln = 10 by rw [h]; rfl] at k; exact k) T hb
    · exact gShrink_turn11 (by rw [show nxL o.k.ln = 11 by rw [h]; rfl] at k; exact k) T hb
  refine key.mono ?_
  rintro e w' ⟨rfl, X, ⟨r', h1, h2, h3, h4⟩, rfl⟩
  rcases t2 with ⟨t2, t5⟩ | t2
  · have hn0 : nxL (turnX o M).1.k.ln = 0 := by rw [t2]; rfl
    rw [hn0]
    obtain ⟨pt', sl', ws', k', _⟩ := h1
    have hne := h2.ne (by decide) k'
    have k9 : Bq q 63 (TC 0 pt' (turnX o M).1.k.seg sl' ws' (turnX o M).1.err [.int .i64 o.k.looks, kv]) (X.setCell ⟨q, 0, none⟩ (.int .i64 0)) := by
      rw [t5, hsh, if_pos rfl]
      exact k'.set 0 _ rfl
    exact ⟨by rw [t2], .inl t2, r, .inl ⟨t2, pt', _, sl', ws', _, k9⟩, h2.setQ hne.1 hne.2 hq 0 _, h3.trans (.setCell _ (by simp) 0 _), .inl rfl⟩
  · have hz : nxL (turnX o M).1.k.ln ≠ 0 := nxL_ne (.inr t2)
    have hz2 : (turnX o M).1.k.ln ≠ 0 := by omega
    obtain ⟨_, _, _, _, _, _, _, kb⟩ := h1.bq
    have hne := h2.ne (by decide) kb
    have P1 : ShP B q r' r' (nxL o.k.ln) (turnX o M).1 kv X := ⟨fun h => by omega, .inr (.inr (.inr (.inr ⟨t2.1, by rw [t4]; exact h1⟩)))⟩
    exact ⟨by rw [beq_eq_false_iff_ne.2 hz, beq_eq_false_iff_ne.2 hz2], .inr t2.1, r', .inr ⟨t1.trans hsh, hz2, P1.set0 _⟩, h2.setQ hne.1 hne.2 hq 0 _, h3.trans (.setCell _ (by simp) 0 _), h4⟩
end
section
variable {B p m b n c q r r1 K k1 x y kd : Nat} {E P R : List Nat} {D : DataW Unit} {s : Acc8} {L L' : List (Ad × Int)} {M M' : MV} {o : KX} {kv : Value} {w w' w1 w2 : World}
theorem OwnX.lt (h : OwnX B x w) : x < w.heap.size := by obtain ⟨_, t, cs, k, _⟩ := h; exact k.lt
theorem OwnX.same (h : OwnX B x w) (hs : w'.heap[x]? = w.heap[x]?) : OwnX B x w' := by obtain ⟨g, t, cs, k, h1⟩ := h; exact ⟨g, t, cs, k.same hs, h1⟩
theorem bq_type {t u : TypeId} {cs ds : List Value} (k : Bq x t cs w) (j : Bq x u ds w) : t = u := by
  have := Eq.trans (Eq.symm k) j
  simp only [Option.some.injEq, Obj.cells.injEq] at this
  exact this.2.1
theorem OwnX.ne (h : OwnX B x w) {u : TypeId} {ds : List Value} (k : Bq y u ds w) (hu : okT u = false) : x ≠ y := by
  rintro rfl
  obtain ⟨_, t, cs, k1, h1⟩ := h
  rw [bq_type k1 k, hu] at h1
  cases h1
theorem Pr.blocks (P : Pr p m b n D s L M.s w) : (∃ cs, Bq p 121 cs w) ∧ (∃ cs, Bq b 103 cs w) ∧ ∃ es k, w.heap[m]? = some (.map es k) := by
  obtain ⟨v, hr⟩ := P.ref
  exact ⟨⟨_, by unfold Bq; exact P.prog.blk⟩, ⟨_, hr.blk⟩, P.prog.map_at⟩
theorem OwnX.fxl (h : OwnX B x w) (P : Pr p m b n D s L M.s w) (f : FxL B p b E w w') (hx : x ∉ E) : w'.heap[x]? = w.heap[x]? := by
  obtain ⟨⟨cp, kp⟩, ⟨cb, kb⟩, _⟩ := P.blocks
  have h1 := h.ne kp (by decide)
  have h2 := h.ne kb (by decide)
  obtain ⟨_, t, cs, k, ht⟩ := h
  exact (f.far x _ _ _ k (by rintro rfl; revert ht; decide) h1 h2 hx).trans (Eq.symm k)
theorem OwnX.onl (h : OwnX B x w) (F : VX p m M w) (o : Onl p m E w w') (hx : x ∉ E) : w'.heap[x]? = w.heap[x]? := by
  have hlt := h.lt
  obtain ⟨_, t, cs, k, ht⟩ := h
  obtain ⟨h1, h2⟩ := F.ne (by rintro rfl; revert ht; decide) k
  exact o.block x hlt h1 h2 hx
theorem onl_fxl (o : Onl p m E w w') (F : VX p m M w) (hp : B ≤ p) (hm : B ≤ m) (hE : ∀ x ∈ E, B ≤ x) (hB : B ≤ w.heap.size) : FxL B p b E w w' := by
  refine ⟨o.below hp hm hE hB, fun x cs t fr hx _ h1 _ h3 => (o.block x (Array.getElem?_eq_some_iff.1 hx).1 h1 ?_ h3).trans hx⟩
  rintro rfl
  obtain ⟨_, es, c, hm⟩ := F.objs
  rw [hx] at hm
  cases hm
theorem Both.say (h : Both p m b c w) (hc : c ≤ 4900) : ∃ n D L M, Say p m b n D L c M w ∧ (n : Int) ≤ M.s.st ∧ M.s.st ≤ c := by
  obtain ⟨n, D, s, L, hP, hr, hL, hn, h0, h1⟩ := h
  exact ⟨n, D, L, ⟨vals L, s⟩, ⟨hP, hr, fun _ => rfl, hL, h0, by show s.st < 1000000; omega⟩, hn, h1⟩
theorem Say.vx {r' : Acc8} (S : Say p m b n D L c M w) (hn : (n : Int) ≤ M.s.st) (P1 : Pr p m b n D M.s L' r' w1) (hl : Lay w1) (hm : LayM w1) (h1 : 1 < m) : VX p m M w1 :=
  ⟨⟨n, D, hn, ⟨S.rel.map, S.rel.has⟩, P1.prog, fun x => (S.rel.val x).trans (S.val x)⟩, hl, hm, by have := P1.mp; omega, h1⟩
theorem Both.of_vx (P1 : Pr p m b n D s L' M'.s w1) (A : AftP L' (c + 1) M') (F : VX p m M' w2) (o : Onl p m E w1 w2) (hE : ∀ x ∈ E, OwnX B x w1) (hst : M'.s.st ≤ ((c + 1 : Nat) : Int)) : Both p m b (c + 1) w2 := by
  obtain ⟨⟨cp, kp⟩, _, es, k, hm⟩ := P1.blocks
  have kc : ∀ z (cs : Array Value) t, w1.heap[z]? = some (Obj.cells cs t (0, 0)) → okT t = false → t ≠ 121 → w2.heap[z]? = some (Obj.cells cs t (0, 0)) := fun z cs t hz h1 h2 => by
    have kz : Bq z t cs.toList w1 := by unfold Bq; simpa using hz
    refine (o.block z (Array.getElem?_eq_some_iff.1 hz).1 (kz.ne kp h2) ?_ (fun hx => (hE z hx).ne kz h1 rfl)).trans hz
    rintro rfl
    rw [hz] at hm
    cases hm
  have h0 := F.st0
  obtain ⟨n', D', g1, g2, g3, g4⟩ := F.mem
  refine ⟨n', D', M'.s, L', ⟨g3, ?_, P1.mp, P1.pb⟩, ⟨g2.map, A.2.2, fun x => (g4 x).trans (A.1 x).symm, g2.has⟩, A.2.1, g1, h0, hst⟩
  obtain ⟨v, hr⟩ := P1.ref
  refine ⟨v, kc _ _ _ hr.blk (by decide) (by decide), ⟨hr.own.1, ?_⟩, hr.pos⟩
  rcases hr.own.2 with hn | ⟨g, cap, cur, hv, hB, hh, rest⟩
  · exact .inl hn
  · exact .inr ⟨g, cap, cur, hv, hB, kc _ _ _ hh (by decide) (by decide), rest⟩
theorem PushD.same {o : OS} (h : PushD x o w) (h1 : w'.heap[x]? = w.heap[x]?) : PushD x o w' := by obtain ⟨nn, R, h2⟩ := h; exact ⟨nn, R.same h1, h2⟩
theorem PopD.same {o : OS} (h : PopD x o w) (h1 : w'.heap[x]? = w.heap[x]?) : PopD x o w' := by obtain ⟨sl, got, nn, R, h2⟩ := h; exact ⟨sl, got, nn, R.same h1, h2⟩
theorem PkD.same {o : PO} (h : PkD B K k1 o w) (h1 : w'.heap[K]? = w.heap[K]?) (h2 : w'.heap[k1]? = w.heap[k1]?) : PkD B K k1 o w' := by
  obtain ⟨a, d, pu, k, h3⟩ := h
  exact ⟨a, d, pu, k.same h1, fun hh => ⟨(h3 hh).1, (h3 hh).2.same h2⟩⟩
theorem KxD.same (h : KxD B K R o w) (hs : ∀ y ∈ R, w'.heap[y]? = w.heap[y]?) : KxD B K R o w' := by
  obtain ⟨hBK, sl, bh, pp, pa, pu, e, k1, kv, hR, k, h11, h5, h6, h7, hkr⟩ := h
  have sK := hs K (by rw [hR]; simp)
  have se := hs e (by rw [hR]; simp)
  have s1 := hs k1 (by rw [hR]; simp)
  exact ⟨hBK, sl, bh, pp, pa, pu, e, k1, kv, hR, k.same sK, h11, fun h => ⟨(h5 h).1, (h5 h).2.1, (h5 h).2.2.same se⟩, fun h => ⟨(h6 h).1, (h6 h).2.1, (h6 h).2.2.same se s1⟩, fun h => ⟨(h7 h).1, (h7 h).2.1, (h7 h).2.2.same se⟩,
    fun h => (hkr h).same fun g hg => hs g (by rw [hR, if_pos h]; simp [hg])⟩
theorem KxD.reads (h : KxD B K R o w) : w.cell? ⟨K, 1, none⟩ = some (.int .i64 o.k.ln) ∧ w.cell? ⟨K, 2, none⟩ = some (.int .i64 o.err) := by
  obtain ⟨hBK, sl, bh, pp, pa, pu, e, k1, kv, hR, k, _⟩ := h
  exact ⟨k.cell 1, k.cell 2⟩
def PRep (B kd q : Nat) (P : List Nat) (o : KX) (w : World) : Prop :=
  (kd = 0 ∧ ∃ r, P = [q, r] ∧ GrRep q r o w) ∨
  (kd = 1 ∧ ∃ r r1 kv, P = q :: r :: r1 :: (if 1 ≤ o.k.ln ∧ o.k.ln ≤ 8 then kv.ownBlock.toList else []) ∧ (11 ≤ o.k.ln → r1 = r) ∧ ShRep B q r r1 o kv w)
theorem PRep.same (h : PRep B kd q P o w) (hn : 0 ≤ o.k.ln) (hs : ∀ y ∈ P, w'.heap[y]? = w.heap[y]?) : PRep B kd q P o w' := by
  rcases h with ⟨hk, r, hP, R⟩ | ⟨hk, r, r1, kv, hP, h11, R⟩
  · exact .inl ⟨hk, r, hP, R.same (hs _ (by rw [hP]; simp)) (hs _ (by rw [hP]; simp))⟩
  · refine .inr ⟨hk, r, r1, kv, hP, h11, ?_⟩
    have sq := hs q (by rw [hP]; simp)
    rcases R with ⟨h, pt, sg, sl, ws, lk, k⟩ | ⟨h, h0, Q⟩
    · exact .inl ⟨h, pt, sg, sl, ws, lk, k.same sq⟩
    · exact .inr ⟨h, h0, Q.same sq (hs _ (by rw [hP]; simp)) (hs _ (by rw [hP]; simp)) fun h8 g hg => hs g (by rw [hP, if_pos ⟨by omega, h8⟩]; simp [hg])⟩
theorem GrRep.own (h : GrRep q r o w) (hq : B ≤ q) (hr : B ≤ r) : ∃ r2, (r2 = q ∨ r2 = r) ∧ GrRep q r2 o w ∧ OwnX B q w ∧ OwnX B r2 w := by
  rcases h with ⟨h, pt, sg, sl, ws, k⟩ | ⟨h, h3, pt, ws, hw, k⟩ | ⟨h, h3, pt, sl, ws, k, a1, a2, a3, a4⟩
  · have oq : OwnX B q w := ⟨hq, _, _, k, by decide⟩
    exact ⟨q, .inl rfl, .inl ⟨h, pt, sg, sl, ws, k⟩, oq, oq⟩
  · have oq : OwnX B q w := ⟨hq, _, _, k, by decide⟩
    exact ⟨q, .inl rfl, .inr (.inl ⟨h, h3, pt, ws, hw, k⟩), oq, oq⟩
  · have oq : OwnX B q w := ⟨hq, _, _, k, by decide⟩
    by_cases e : o.k.ln = 15
    · exact ⟨r, .inr rfl, .inr (.inr ⟨h, h3, pt, sl, ws, k, a1, a2, a3, a4⟩), oq, hr, _, _, (a4 e).2, by decide⟩
    · exact ⟨q, .inl rfl, .inr (.inr ⟨h, h3, pt, sl, ws, k, a1, a2, a3, fun e2 => absurd e2 e⟩), oq, oq⟩
theorem PkPart.okT {o : PO} {pt bt : TypeId} {cs : List Value} (h : PkPart o pt bt cs) : okT bt = true := by cases h <;> decide
theorem PkX.own {o : PO} (h : PkX q r o w) (h0 : o.ln ≠ 0) (hq : B ≤ q) (hr : B ≤ r) : OwnX B q w ∧ OwnX B r w := by
  rcases h with ⟨h, _⟩ | ⟨pt, bt, cs, hp, kq, kr⟩
  · exact absurd h h0
  · exact ⟨⟨hq, _, _, kq, by decide⟩, hr, _, _, kr, hp.okT⟩
theorem ShRep.own (h : ShRep B q r r1 o kv w) (hq : B ≤ q) (hr : B ≤ r) (hr1 : B ≤ r1) : ∃ r2 r3, (r2 = q ∨ r2 = r ∨ r2 = r1) ∧ (r3 = q ∨ r3 = r ∨ r3 = r1) ∧ (11 ≤ o.k.ln → r3 = r2) ∧ ShRep B q r2 r3 o kv w ∧ OwnX B q w ∧ OwnX B r2 w ∧ OwnX B r3 w ∧ (o.k.ln ≠ 0 → o.k.ln ≤ 8 → KeptAt B kv o.k.kept w) := by
  rcases h with ⟨h, pt, sg, sl, ws, lk, k⟩ | ⟨h, h0, hk, P⟩
  · have oq : OwnX B q w := ⟨hq, _, _, k, by decide⟩
    exact ⟨q, q, .inl rfl, .inl rfl, fun _ => rfl, .inl ⟨h, pt, sg, sl, ws, lk, k⟩, oq, oq, oq, fun h0 => absurd h h0⟩
  · have hkk : o.k.ln ≠ 0 → o.k.ln ≤ 8 → KeptAt B kv o.k.kept w := fun _ h => hk h
    rcases P with ⟨a1, pt, ws, a2, k⟩ | ⟨a1, ws, a2, k, k2⟩ | ⟨a1, ws, a2, k, k2, a3⟩ | ⟨a1, ws, a2, k, k2⟩ | ⟨a1, pt, sl, ws, k, b1, b2, b3, b4⟩
    · have oq : OwnX B q w := ⟨hq, _, _, k, by decide⟩
      exact ⟨q, q, .inl rfl, .inl rfl, fun _ => rfl, .inr ⟨h, h0, hk, .inl ⟨a1, pt, ws, a2, k⟩⟩, oq, oq, oq, hkk⟩
    · have oq : OwnX B q w := ⟨hq, _, _, k, by decide⟩
      exact ⟨r, q, .inr (.inl rfl), .inl rfl, fun e => by omega, .inr ⟨h, h0, hk, .inr (.inl ⟨a1, ws, a2, k, k2⟩)⟩, oq, ⟨hr, _, _, k2, by decide⟩, oq, hkk⟩
    · have oq : OwnX B q w := ⟨hq, _, _, k, by decide⟩
      obtain ⟨o2, o3⟩ := k2.own a3 hr hr1
      exact ⟨r, r1, .inr (.inl rfl), .inr (.inr rfl), fun e => by omega, .inr ⟨h, h0, hk, .inr (.inr (.inl ⟨a1, ws, a2, k, k2, a3⟩))⟩, oq, o2, o3, hkk⟩
    · have oq : OwnX B q w := ⟨hq, _, _, k, by decide⟩
      exact ⟨r, q, .inr (.inl rfl), .inl rfl, fun e => by omega, .inr ⟨h, h0, hk, .inr (.inr (.inr (.inl ⟨a1, ws, a2, k, k2⟩)))⟩, oq, ⟨hr, _, _, k2, by decide⟩, oq, hkk⟩
    · have oq : OwnX B q w := ⟨hq, _, _, k, by decide⟩
      by_cases e : o.k.ln = 15
      · have or : OwnX B r w := ⟨hr, _, _, (b4 e).2, by decide⟩
        exact ⟨r, r, .inr (.inl rfl), .inr (.inl rfl), fun _ => rfl, .inr ⟨h, h0, hk, .inr (.inr (.inr (.inr ⟨a1, pt, sl, ws, k, b1, b2, b3, b4⟩)))⟩, oq, or, or, hkk⟩
      · exact ⟨q, q, .inl rfl, .inl rfl, fun _ => rfl, .inr ⟨h, h0, hk, .inr (.inr (.inr (.inr ⟨a1, pt, sl, ws, k, b1, b2, b3, fun e2 => absurd e2 e⟩)))⟩, oq, oq, oq, hkk⟩
def fnP (kd : Nat) : FuncId := if kd = 0 then 38 else 35
def PDone (B p m kd q : Nat) (P : List Nat) (R : KX × MV) (w : World) (ee : Ending) (w' : World) : Prop :=
  ee = .returned (.bool (R.1.k.ln == 0)) ∧ ∃ P', PRep B kd q P' R.1 w' ∧ VX p m R.2 w' ∧ Onl p m P w w' ∧ ∀ y ∈ P', (y ∈ P ∨ w.heap.size ≤ y) ∧ OwnX B y w'
theorem sh_done {r' r1' : Nat} {R : KX × MV} (hq : q ∈ P) (hP : ∀ y ∈ P, B ≤ y) (hBw : B ≤ w.heap.size) (h : ShRep B q r' r1' R.1 kv w') (F : VX p m R.2 w') (O : Onl p m P w w') (e1 : r' ∈ P ∨ w.heap.size ≤ r') (e2 : r1' ∈ P ∨ w.heap.size ≤ r1') (_hn : 0 ≤ R.1.k.ln)
    (e3 : 1 ≤ R.1.k.ln → R.1.k.ln ≤ 8 → ∀ g, kv.ownBlock = some g → g ∈ P ∨ w.heap.size ≤ g) : PDone B p m 1 q P R w (.returned (.bool (R.1.k.ln == 0))) w' := by
  have hb : ∀ {y : Nat}, y ∈ P ∨ w.heap.size ≤ y → B ≤ y := fun h => h.elim (hP _) (Nat.le_trans hBw)
  obtain ⟨r2, r3, f1, f2, f3, R2, o1, o2, o3, hk⟩ := h.own (hP q hq) (hb e1) (hb e2)
  refine ⟨rfl, _, .inr ⟨rfl, r2, r3, kv, rfl, f3, R2⟩, F, O, fun y hy => ?_⟩
  simp only [List.mem_cons] at hy
  rcases hy with rfl | rfl | rfl | hy
  · exact ⟨.inl hq, o1⟩
  · refine ⟨?_, o2⟩
    rcases f1 with h | h | h
    · rw [h]; exact .inl hq
    · rw [h]; exact e1
    · rw [h]; exact e2
  · refine ⟨?_, o3⟩
    rcases f2 with h | h | h
    · rw [h]; exact .inl hq
    · rw [h]; exact e1
    · rw [h]; exact e2
  · by_cases hl : 1 ≤ R.1.k.ln ∧ R.1.k.ln ≤ 8
    · rw [if_pos hl, Option.mem_toList] at hy
      exact ⟨e3 hl.1 hl.2 y hy, (hk (by omega) hl.2).ownX hy⟩
    · rw [if_neg hl] at hy
      cases hy
theorem prg_step (hB : 1 < B) (hBw : B ≤ w.heap.size) (F : VX p m M w) (hs : M.s.st < 1000000) (ok : KNum o) (Q : PRep B kd q P o w) (hP : ∀ y ∈ P, B ≤ y) :
    Calls Tryz.prog (fnP kd) #[.pointer (some ⟨q, 0, none⟩), .pointer (some ⟨p, 0, none⟩)] w (PDone B p m kd q P (kX o M) w) := by
  have hn : 0 ≤ (kX o M).1.k.ln := by have := (ok.step (M := M) F.u64).ln; omega
  rcases Q with ⟨rfl, r, rfl, R⟩ | ⟨rfl, r, r1, kv, hPe, h11, R⟩
  · have hq := hP q (by simp)
    have hr := hP r (by simp)
    refine (grow_stepX (by omega) (by omega) F hs ok R R.sh).mono ?_
    rintro ee w' ⟨rfl, r', R', F', O, e⟩
    obtain ⟨r2, f1, R2, o1, o2⟩ := R'.own hq (show B ≤ r' by omega)
    refine ⟨rfl, [q, r2], .inl ⟨rfl, r2, rfl, R2⟩, F', O, fun y hy => ?_⟩
    simp only [List.mem_cons, List.not_mem_nil, or_false] at hy
    rcases hy with rfl | rfl
    · exact ⟨.inl (by simp), o1⟩
    · refine ⟨?_, o2⟩
      rcases f1 with h | h
      · rw [h]; exact .inl (by simp)
      · rw [h]; exact e.imp (fun h => by rw [h]; simp) id
  · have hq : q ∈ P := by rw [hPe]; simp
    have hr : r ∈ P := by rw [hPe]; simp
    have hr1 : r1 ∈ P := by rw [hPe]; simp
    have bq := hP q hq
    have br := hP r hr
    have br1 := hP r1 hr1
    show Calls Tryz.prog 35 _ _ _
    by_cases h0 : o.k.ln = 0
    · have e : kX o M = (o, M) := by
        unfold kX
        rw [if_neg (by omega)]
        split
        · simp [growX, h0]
        · simp [shrinkX, h0]
      rw [e]
      rcases R with ⟨hl, pt, sg, sl, ws, lk, k⟩ | ⟨_, h1, _⟩
      · refine (stepShrink_over _ k).mono ?_
        rintro ee w' ⟨rfl, rfl⟩
        have := sh_done (R := (o, M)) hq hP hBw (.inl ⟨hl, pt, sg, sl, ws, lk, k⟩) F (.refl _) (.inl hr) (.inl hr1) (by show 0 ≤ o.k.ln; omega) (fun h => by have : (1 : Int) ≤ o.k.ln := h; omega)
        rw [show (o, M).1.k.ln = 0 from h0] at this
        unfold PDone at this ⊢
        rw [show ((o, M).1.k.ln == 0) = true from by rw [show (o, M).1.k.ln = 0 from h0]; rfl]
        exact ⟨rfl, this.2⟩
      · exact absurd h0 h1
    · have hln := ok.ln
      by_cases h8 : o.k.ln ≤ 8
      · have hPe' : P = q :: r :: r1 :: kv.ownBlock.toList := by rw [hPe, if_pos ⟨by omega, h8⟩]
        refine (shrink_stepX (by omega) (by omega) (by omega) hB hBw F hs ok R.sh R).mono ?_
        rintro ee w' ⟨rfl, r', r1', kv', R', F', O, e1, e2, e3⟩
        exact sh_done hq hP hBw R' F' (by rw [hPe']; exact O) (e1.imp (fun h => by rw [h]; exact hr) id) (e2.imp (fun h => by rw [h]; exact hr1) id) hn fun _ _ g hg => by
          rcases e3 with e3 | ⟨g', e3, e4⟩
          · exact .inl (by rw [hPe']; simp [← e3, hg])
          · rw [e3] at hg
            injection hg with hg
            exact .inr (by omega)
      · have hl : 11 ≤ o.k.ln := by omega
        obtain rfl := h11 hl
        refine (shrink_turn9 (by omega) (by omega) F hs ok hl R).mono ?_
        rintro ee w' ⟨rfl, hl', r', R', F', O, e1⟩
        have hr' : r' ∈ P ∨ w.heap.size ≤ r' := e1.imp (fun h => by rw [h]; exact hr) id
        exact sh_done hq hP hBw R' F' (O.more (by rw [hPe]; intro y hy; simp at hy ⊢; exact hy.elim .inl fun h => .inr (.inl h))) hr' hr' hn fun h1 h2 => by omega
structure JO where
  kd : Nat
  q : Nat
  K : Nat
  P : List Nat
  R : List Nat
def JO.fp (x : JO) : List Nat := x.P ++ x.R
def JOk (B : Nat) (x : JO) (o : KX) (w : World) : Prop := KNum o ∧ PRep B x.kd x.q x.P o w ∧ KxD B x.K x.R o w ∧ (∀ y ∈ x.fp, OwnX B y w) ∧ ∀ y ∈ x.P, y ∉ x.R
def JAt (B : Nat) (x : JO) (w : World) : Prop := ∃ o, JOk B x o w
def JO.sub (x x' : JO) (n : Nat) : Prop := x'.kd = x.kd ∧ x'.q = x.q ∧ x'.K = x.K ∧ ∀ y ∈ x'.fp, y ∈ x.fp ∨ n ≤ y
theorem JOk.same {x : JO} (h : JOk B x o w) (hs : ∀ y ∈ x.fp, w'.heap[y]? = w.heap[y]?) : JOk B x o w' := by
  obtain ⟨h1, h2, h3, h4, h5⟩ := h
  exact ⟨h1, h2.same (by have := h1.ln; omega) fun y hy => hs y (List.mem_append_left _ hy), h3.same fun y hy => hs y (List.mem_append_right _ hy), fun y hy => (h4 y hy).same (hs y hy), h5⟩
theorem JAt.own {x : JO} (h : JAt B x w) : ∀ y ∈ x.fp, OwnX B y w := by obtain ⟨o, h⟩ := h; exact h.2.2.2.1
theorem JAt.same {x : JO} (h : JAt B x w) (hs : ∀ y ∈ x.fp, w'.heap[y]? = w.heap[y]?) : JAt B x w' := by obtain ⟨o, h⟩ := h; exact ⟨o, h.same hs⟩
def JDone (B p m b c : Nat) (x : JO) (o' : KX) (w : World) (ee : Ending) (w2 : World) : Prop := ee = .returned (.bool (o'.k.ln == 0)) ∧ FxL B p b x.fp w w2 ∧ Both p m b (c + 1) w2 ∧ ∃ x', x.sub x' w.heap.size ∧ JOk B x' o' w2
set_option maxHeartbeats 4000000 in
theorem joint {x : JO} (hB : 1 < B) (hBm : B ≤ m) (hc : c ≤ 4900) (hb : Both p m b c w) (hl : Lay w) (hlm : LayM w) (J : JOk B x o w) :
    ∃ o', Calls Tryz.prog 34 #[.pointer (some ⟨x.K, 0, none⟩), .pointer (some ⟨b, 0, none⟩)] w fun ee w1 => ee = .returned (.tuple #[]) ∧ FxL B p b x.fp w w1 ∧ w1.cell? ⟨x.K, 1, none⟩ = some (.int .i64 o'.k.ln) ∧ w1.cell? ⟨x.K, 2, none⟩ = some (.int .i64 o'.err) ∧
      ∀ X, Below w1.heap.size w1 X → Calls Tryz.prog (fnP x.kd) #[.pointer (some ⟨x.q, 0, none⟩), .pointer (some ⟨p, 0, none⟩)] X (JDone B p m b c x o' w) := by
  obtain ⟨n, D, L, M, S, hn, hs⟩ := hb.say hc
  obtain ⟨ok, Q, d, own, dis⟩ := J
  have ownP : ∀ y ∈ x.P, OwnX B y w := fun y hy => own y (List.mem_append_left _ hy)
  have ownR : ∀ y ∈ x.R, OwnX B y w := fun y hy => own y (List.mem_append_right _ hy)
  have subR : ∀ y ∈ x.R, y ∈ x.fp := fun y hy => List.mem_append_right _ hy
  have subP : ∀ y ∈ x.P, y ∈ x.fp := fun y hy => List.mem_append_left _ hy
  have hBw : B ≤ w.heap.size := Nat.le_trans hBm S.pr.m_le
  refine ⟨(kX o M).1, (kx_doc hBm hc S ok d ownR).mono ?_⟩
  rintro ee w0 ⟨rfl, L', R', A', d0, P0, f0, hR0⟩
  refine ⟨rfl, f0.more subR, d0.reads.1, d0.reads.2, fun w1 hX => ?_⟩
  have f1 := f0.trans (.of_below hX (Nat.le_trans hBw f0.low.size))
  have P1 := P0.below hX
  have sX : ∀ y ∈ R', w1.heap[y]? = w0.heap[y]? := fun y hy => hX.block y (hR0 y hy).2.lt
  have d1 := d0.same sX
  have hR' : ∀ y ∈ R', (y ∈ x.R ∨ w.heap.size ≤ y) ∧ OwnX B y w1 := fun y hy => ⟨(hR0 y hy).1, (hR0 y hy).2.same (sX y hy)⟩
  have hsz := f1.low.size
  have sP : ∀ y ∈ x.P, w1.heap[y]? = w.heap[y]? := fun y hy => (ownP y hy).fxl S.pr f1 (dis y hy)
  have F := S.vx hn P1 (f1.lay hB hl) (f1.laym hB hlm) (by omega)
  refine (prg_step hB (by omega) F S.st1 ok (Q.same (by have := ok.ln; omega) sP) fun y hy => (ownP y hy).1).mono ?_
  rintro ee w2 ⟨rfl, P', Q', F2, on, hP'⟩
  have dR : ∀ y ∈ R', y ∉ x.P := fun y hy h => by
    rcases (hR' y hy).1 with h1 | h1
    · exact dis y h h1
    · have := (ownP y h).lt; omega
  have sR : ∀ y ∈ R', w2.heap[y]? = w1.heap[y]? := fun y hy => (hR' y hy).2.onl F on (dR y hy)
  have f2 := (onl_fxl on F (B := B) (b := b) (by have := P1.mp; omega) hBm (fun y hy => (ownP y hy).1) (by omega)).more (E' := x.fp) subP
  have hst := kX_st o M
  refine ⟨rfl, (f1.more subR).trans f2, Both.of_vx P1 A' F2 on (fun y hy => (ownP y hy).same (sP y hy)) (by push_cast; omega), ⟨x.kd, x.q, x.K, P', R'⟩, ⟨rfl, rfl, rfl, fun y hy => ?_⟩, ok.step F.u64, Q', d1.same sR, fun y hy => ?_, fun y hy h => ?_⟩
  · rcases List.mem_append.1 hy with h | h
    · exact (hP' y h).1.imp (subP y) fun h => by omega
    · exact (hR' y h).1.imp (subR y) id
  · rcases List.mem_append.1 hy with h | h
    · exact (hP' y h).2
    · exact ((hR' y h).2).same (sR y h)
  · rcases (hP' y hy).1 with h1 | h1
    · exact dR y h h1
    · have := (hR' y h).2.lt; omega
end
end Go.Proofs.YtmjcbjcnmgleaaaGreatDoor
