/-
  Package grows; conditions as each theorem says.
-/
import Derived.Test.YtmjcbjcnmgleaaaGreatDoorXP37
import Derived.Test.YtmjcbjcnmgleaaaGreatDoorXP40
namespace Go.Proofs.YtmjcbjcnmgleaaaGreatDoor
open Go.RowKit Go.Maps
def GrRep (q r : Nat) (o : KX) (w : World) : Prop :=
  (o.k.ln = 0 ∧ ∃ pt sg sl ws, Bq q 60 (TC 0 pt sg sl ws o.err []) w) ∨
  (o.k.sh = false ∧ (o.k.ln = 1 ∨ o.k.ln = 2) ∧ ∃ pt ws, U64 ws ∧ Bq q 60 (TC o.k.ln pt o.k.seg (8 * o.k.seg) ws 0 []) w) ∨
  (o.k.sh = false ∧ 11 ≤ o.k.ln ∧ TR q r 60 (nxL o.k.ln) o.k 0 [] w)
def GrStepped (p b q r : Nat) (R : KX × MV) (w : World) (e : Ending) (w' : World) : Prop :=
  e = .returned (.bool (R.1.k.ln == 0)) ∧ ∃ r', GrRep q r' R.1 w' ∧ VX p b R.2 w' ∧ Onl p b [q, r] w w' ∧ (r' = r ∨ w.heap.size ≤ r')
section
variable {p b q r : Nat} {T : TypeId} {nx n sg sl ws en : Int} {pt : Value} {tl : List Value} {M : MV} {o : KX} {w w' X Y : World}
theorem TR.set0 {k : KO} (h : TR q r T nx k en tl X) (hqr : T ≠ 198) (m : Int) : TR q r T m k en tl (X.setCell ⟨q, 0, none⟩ (.int .i64 m)) := by
  obtain ⟨pt, sl, ws, k1, k2, k3, k4, k5⟩ := h
  refine ⟨pt, sl, ws, k1.set 0 _ rfl, k2, k3, k4, fun h => ⟨(k5 h).1, (k5 h).2.setO (Ne.symm (k1.ne (k5 h).2 hqr)) 0 _⟩⟩
theorem TR.bq {k : KO} (h : TR q r T nx k en tl X) : ∃ nx pt' sg' sl' ws' en' tl', Bq q T (TC nx pt' sg' sl' ws' en' tl') X := by
  obtain ⟨pt, sl, ws, k1, _⟩ := h
  exact ⟨_, _, _, _, _, _, _, k1⟩
theorem TR.over {k : KO} (h : TR q r T 0 k en tl X) : ∃ pt sg sl ws, Bq q T (TC 0 pt sg sl ws en tl) X := by
  obtain ⟨pt, sl, ws, k1, _⟩ := h
  exact ⟨_, _, _, _, k1⟩
theorem turnX_kinds (o : KX) (M : MV) (hl : 11 ≤ o.k.ln ∧ o.k.ln ≤ 15) : (turnX o M).1.k.sh = o.k.sh ∧ ((turnX o M).1.k.ln = 0 ∧ (turnX o M).1.err = (if o.k.sh = true then 9 else 0) ∨ 11 ≤ (turnX o M).1.k.ln ∧ (turnX o M).1.k.ln ≤ 15) ∧ (turnX o M).1.k.kept = o.k.kept ∧ (turnX o M).1.k.looks = o.k.looks := by
  obtain ⟨⟨sh, ln, seg, looks, slot, w0, psh, pk, kept⟩, err⟩ := o
  simp only at hl
  have key : ∀ (k : KO), (k.nextE err).k.sh = k.sh ∧ ((k.nextE err).k.ln = 0 ∧ (k.nextE err).err = (if k.sh = true then 9 else 0) ∨ 11 ≤ (k.nextE err).k.ln ∧ (k.nextE err).k.ln ≤ 15) ∧ (k.nextE err).k.kept = k.kept ∧ (k.nextE err).k.looks = k.looks := fun k => by
    unfold KO.nextE KO.next
    split
    · exact ⟨rfl, .inl ⟨rfl, rfl⟩, rfl, rfl⟩
    · exact ⟨rfl, .inr ⟨by simp, by simp⟩, rfl, rfl⟩
  have on : ∀ (k : KO), 11 ≤ k.ln ∧ k.ln ≤ 15 → k.sh = sh → k.kept = kept → k.looks = looks → k.sh = sh ∧ (k.ln = 0 ∧ err = (if sh = true then 9 else 0) ∨ 11 ≤ k.ln ∧ k.ln ≤ 15) ∧ k.kept = kept ∧ k.looks = looks := fun k h h1 h2 h3 => ⟨h1, .inr h, h2, h3⟩
  obtain rfl | rfl | rfl | rfl | rfl : ln = 11 ∨ ln = 12 ∨ ln = 13 ∨ ln = 14 ∨ ln = 15 := by omega
  · by_cases hc : stW (M.V (adH slot)) = 3
    · rw [show (turnX ⟨⟨sh, 11, seg, looks, slot, w0, psh, pk, kept⟩, err⟩ M).1 = ⟨⟨sh, 12, seg, looks, slot, M.V (adH slot), psh, pk, kept⟩, err⟩ by simp [turnX, hc]]
      exact on _ (by simp) rfl rfl rfl
    · rw [show (turnX ⟨⟨sh, 11, seg, looks, slot, w0, psh, pk, kept⟩, err⟩ M).1 = KO.nextE ⟨sh, 11, seg, looks, slot, M.V (adH slot), psh, pk, kept⟩ err by simp [turnX, hc]]
      exact key _
  · by_cases hc : casV M.V (adH slot) w0 = true
    · rw [show (turnX ⟨⟨sh, 12, seg, looks, slot, w0, psh, pk, kept⟩, err⟩ M).1 = ⟨⟨sh, 13, seg, looks, slot, w0, psh, pk, kept⟩, err⟩ by simp [turnX, hc]]
      exact on _ (by simp) rfl rfl rfl
    · rw [show (turnX ⟨⟨sh, 12, seg, looks, slot, w0, psh, pk, kept⟩, err⟩ M).1 = KO.nextE ⟨sh, 12, seg, looks, slot, w0, psh, pk, kept⟩ err by simp [turnX, hc]]
      exact key _
  · rw [show (turnX ⟨⟨sh, 13, seg, looks, slot, w0, psh, pk, kept⟩, err⟩ M).1 = ⟨⟨sh, 14, seg, looks, slot, M.V (adP seg), psh, pk, kept⟩, err⟩ by simp [turnX]]
    exact on _ (by simp) rfl rfl rfl
  · by_cases hc : casV M.V (adP seg) w0 = true
    · rw [show (turnX ⟨⟨sh, 14, seg, looks, slot, w0, psh, pk, kept⟩, err⟩ M).1 = ⟨⟨sh, 15, seg, looks, slot, w0, ⟨1, 0, slot⟩, pk, kept⟩, err⟩ by simp [turnX, hc]]
      exact on _ (by simp) rfl rfl rfl
    · rw [show (turnX ⟨⟨sh, 14, seg, looks, slot, w0, psh, pk, kept⟩, err⟩ M).1 = ⟨⟨sh, 13, seg, looks, slot, w0, psh, pk, kept⟩, err⟩ by simp [turnX, hc]]
      exact on _ (by simp) rfl rfl rfl
  · by_cases hc : (pushX psh M).1.nx = 0
    · rw [show (turnX ⟨⟨sh, 15, seg, looks, slot, w0, psh, pk, kept⟩, err⟩ M).1 = KO.nextE ⟨sh, 15, seg, looks, slot, w0, (pushX psh M).1, pk, kept⟩ err by simp [turnX, hc]]
      exact key _
    · rw [show (turnX ⟨⟨sh, 15, seg, looks, slot, w0, psh, pk, kept⟩, err⟩ M).1 = ⟨⟨sh, 15, seg, looks, slot, w0, (pushX psh M).1, pk, kept⟩, err⟩ by simp [turnX, hc]]
      exact on _ (by simp) rfl rfl rfl
theorem nxL_zero {ln : Int} (h : 11 ≤ ln ∧ ln ≤ 15 ∨ ln = 0) : (nxL ln == 0) = (ln == 0) := by
  rcases h with h | rfl
  · have : nxL ln = ln - 4 := if_pos h.1
    rw [this, beq_eq_false_iff_ne.2 (by omega), beq_eq_false_iff_ne.2 (by omega)]
  · rfl
theorem grow_stepX (hq : 1 < q) (hr : 1 < r) (F : VX p b M w) (hs : M.s.st < 1000000) (ok : KNum o) (P : GrRep q r o w) (h0 : o.k.sh = false ∨ o.k.ln = 0) :
    Calls Tryz.prog 38 #[.pointer (some ⟨q, 0, none⟩), .pointer (some ⟨p, 0, none⟩)] w (GrStepped p b q r (kX o M) w) := by
  have kx : ∀ {e : KX × MV}, o.k.sh = false → ¬ 11 ≤ o.k.ln → growX o M = e → kX o M = e := fun hs h he => by unfold kX; rw [if_neg h, if_pos hs, he]
  rcases P with ⟨hl, pt, sg, sl, ws, k⟩ | ⟨hsh, hl, pt, ws, hw, k⟩ | ⟨hsh, hl, R⟩
  · have e : kX o M = (o, M) := by
      unfold kX
      rw [if_neg (by omega)]
      split
      · simp [growX, hl]
      · simp [shrinkX, hl]
    rw [e]
    refine (stepGrow_over _ k).mono ?_
    rintro e w' ⟨rfl, rfl⟩
    exact ⟨by rw [hl]; rfl, r, .inl ⟨hl, pt, sg, sl, ws, k⟩, F, .refl _, .inl rfl⟩
  · have fin : ∀ {n : Int} {cs : List Value} {R : KX} {M' : MV} {X : World}, Ln p b q 60 cs M' w X → (R.k.ln == 0) = (n == 0) → (∀ Y, Bq q 60 (cs.set 0 (.int .i64 n)) Y → GrRep q r R Y) → GrStepped p b q r (R, M') w (.returned (.bool (n == 0))) (X.setCell ⟨q, 0, none⟩ (.int .i64 n)) := fun {n cs R M' X} L e1 e2 => by
      have L2 := L.set (by decide) hq 0 (.int .i64 n) rfl
      exact ⟨by rw [e1], r, e2 _ L2.k, L2.f, L2.o.two, .inl rfl⟩
    obtain ⟨⟨sh, ln, seg, looks, slot, w0, psh, pk, kept⟩, err⟩ := o
    simp only at hsh hl k kx
    subst hsh
    have hsg := ok.seg
    simp only at hsg
    rcases hl with rfl | rfl
    · by_cases c0 : M.V (adG seg) = 0
      · rw [kx rfl (by decide) (show growX _ M = (⟨⟨false, 2, seg, looks, slot, w0, psh, pk, kept⟩, err⟩, ldM M (adG seg)) by simp [growX, c0])]
        refine (gGrow_ask k (tAsk_from hq (by decide) k F hs hsg c0) (fun X h => ⟨_, _, _, _, _, _, _, h.k⟩)).mono ?_
        rintro e w' ⟨rfl, X, L, rfl⟩
        exact fin L rfl fun Y h => .inr (.inl ⟨rfl, .inr rfl, pt, ws, hw, h⟩)
      · by_cases c1 : M.V (adG seg) = 1
        · rw [kx rfl (by decide) (show growX _ M = (⟨⟨false, 0, seg, looks, slot, w0, psh, pk, kept⟩, 8⟩, ldM M (adG seg)) by simp [growX, c1])]
          refine (gGrow_ask k (tAsk_to hq (by decide) k F hs hsg c0 c1) (fun X h => ⟨_, _, _, _, _, _, _, h.k⟩)).mono ?_
          rintro e w' ⟨rfl, X, L, rfl⟩
          exact fin L rfl fun Y h => .inl ⟨rfl, _, _, _, _, h⟩
        · rw [kx rfl (by decide) (show growX _ M = (⟨⟨false, 0, seg, looks, slot, w0, psh, pk, kept⟩, 7⟩, ldM M (adG seg)) by simp [growX, c0, c1])]
          refine (gGrow_ask k (tAsk_no hq (by decide) k F hs hsg c0 c1) (fun X h => ⟨_, _, _, _, _, _, _, h.k⟩)).mono ?_
          rintro e w' ⟨rfl, X, L, rfl⟩
          exact fin L rfl fun Y h => .inl ⟨rfl, _, _, _, _, h⟩
    · by_cases c0 : casV M.V (adG seg) 0 = true
      · rw [kx rfl (by decide) (show growX _ M = (⟨⟨false, 11, seg, looks, 8 * seg, w0, psh, pk, kept⟩, err⟩, csM M (adG seg) 0 1) by simp [growX, c0, KO.turn])]
        refine (gGrow_begin k (tChange_yes hq (by decide) k F hs hsg ⟨by decide, by decide⟩ c0) (fun X h => ⟨_, _, _, _, _, _, _, h.k⟩)).mono ?_
        rintro e w' ⟨rfl, X, L, rfl⟩
        exact fin L rfl fun Y h => .inr (.inr ⟨rfl, by simp, pt, 8 * seg, ws, h, hw, fun _ => rfl, fun h => by simp at h, fun h => by simp at h⟩)
      · rw [kx rfl (by decide) (show growX _ M = (⟨⟨false, 0, seg, looks, slot, w0, psh, pk, kept⟩, 7⟩, csM M (adG seg) 0 1) by simp [growX, c0])]
        refine (gGrow_begin k (tChange_no hq (by decide) k F hs hsg ⟨by decide, by decide⟩ (by simpa using c0)) (fun X h => ⟨_, _, _, _, _, _, _, h.k⟩)).mono ?_
        rintro e w' ⟨rfl, X, L, rfl⟩
        exact fin L rfl fun Y h => .inl ⟨rfl, _, _, _, _, h⟩
  · have e : kX o M = turnX o M := by unfold kX; rw [if_pos hl]
    rw [e]
    have hl2 : 11 ≤ o.k.ln ∧ o.k.ln ≤ 15 := ⟨hl, by have := ok.ln; omega⟩
    obtain ⟨t1, t2, _, _⟩ := turnX_kinds o M hl2
    have hz := nxL_zero (t2.elim (fun h => .inr h.1) fun h => .inl h)
    have T := turn_stepX hq hr (by decide) (by decide) F hs ok hl R
    obtain ⟨pt, sl, ws, k, r0⟩ := R
    have key : Calls Tryz.prog 38 #[.pointer (some ⟨q, 0, none⟩), .pointer (some ⟨p, 0, none⟩)] w fun e w' => e = .returned (.bool (nxL (turnX o M).1.k.ln == 0)) ∧ ∃ w1, (∃ r', TR q r' 60 (nxL o.k.ln) (turnX o M).1.k 0 [] w1 ∧ VX p b (turnX o M).2 w1 ∧ Onl p b [q, r] w w1 ∧ (r' = r ∨ w.heap.size ≤ r')) ∧ w' = w1.setCell ⟨q, 0, none⟩ (.int .i64 (nxL (turnX o M).1.k.ln)) := by
      have hb : ∀ X, (∃ r', TR q r' 60 (nxL o.k.ln) (turnX o M).1.k 0 [] X ∧ VX p b (turnX o M).2 X ∧ Onl p b [q, r] w X ∧ (r' = r ∨ w.heap.size ≤ r')) → ∃ nx pt' sg' sl' ws' en' tl', Bq q 60 (TC nx pt' sg' sl' ws' en' tl') X := fun X ⟨_, h, _⟩ => h.bq
      obtain h | h | h | h | h : o.k.ln = 11 ∨ o.k.ln = 12 ∨ o.k.ln = 13 ∨ o.k.ln = 14 ∨ o.k.ln = 15 := by omega
      · exact gGrow_turn7 (by rw [show nxL o.k.ln = 7 by rw [h]; rfl] at k; exact k) T hb
      · exact gGrow_turn8 (by rw [show nxL o.k.ln = 8 by rw [h]; rfl] at k; exact k) T hb
      · exact gGrow_turn9 (by rw [show nxL o.k.ln = 9 by rw [h]; rfl] at k; exact k) T hb
      · exact gGrow_turn10 (by rw [show nxL o.k.ln = 10 by rw [h]; rfl] at k; exact k) T hb
      · exact gGrow_turn11 (by rw [show nxL o.k.ln = 11 by rw [h]; rfl] at k; exact k) T hb
    refine key.mono ?_
    rintro e w' ⟨rfl, X, ⟨r', h1, h2, h3, h4⟩, rfl⟩
    have hb := h1.bq
    obtain ⟨_, _, _, _, _, _, _, kb⟩ := hb
    have hne := h2.ne (by decide) kb
    refine ⟨by rw [hz], r', ?_, h2.setQ hne.1 hne.2 hq 0 _, h3.trans (.setCell _ (by simp) 0 _), h4⟩
    have h5 := h1.set0 (by decide) (nxL (turnX o M).1.k.ln)
    rcases t2 with ⟨t2, t3⟩ | t2
    · refine .inl ⟨t2, ?_⟩
      rw [t3]
      rw [t2] at h5 ⊢
      rcases h0 with h0 | h0
      · rw [h0]; exact h5.over
      · omega
    · exact .inr (.inr ⟨t1.trans (by assumption), t2.1, h5⟩)
end
end Go.Proofs.YtmjcbjcnmgleaaaGreatDoor
namespace Go.Proofs.YtmjcbjcnmgleaaaGreatDoor
open Go.RowKit Go.Maps
def ShP (B q r r1 : Nat) (nx : Int) (o : KX) (kv : Value) (w : World) : Prop :=
  (o.k.ln ≤ 8 → KeptAt B kv o.k.kept w) ∧
  (((o.k.ln = 1 ∨ o.k.ln = 2 ∨ o.k.ln = 3 ∨ o.k.ln = 4 ∨ o.k.ln = 8) ∧ ∃ pt ws, U64 ws ∧ Bq q 63 (SC nx pt o.k.seg (8 * o.k.seg) ws 0 o.k.looks kv) w) ∨
   (o.k.ln = 5 ∧ ∃ ws, U64 ws ∧ Bq q 63 (SC nx (.iface 164 (.pointer (some ⟨r, 0, none⟩))) o.k.seg (8 * o.k.seg) ws 0 o.k.looks kv) w ∧ Bq r 210 [.int .i64 o.k.psh.nx, .int .u64 o.k.psh.h, .int .i64 o.k.psh.to] w) ∨
   (o.k.ln = 6 ∧ ∃ ws, U64 ws ∧ Bq q 63 (SC nx (.iface 214 (.pointer (some ⟨r, 0, none⟩))) o.k.seg (8 * o.k.seg) ws 0 o.k.looks kv) w ∧ PkX r r1 o.k.pk w ∧ o.k.pk.ln ≠ 0) ∨
   (o.k.ln = 7 ∧ ∃ ws, U64 ws ∧ Bq q 63 (SC nx (.iface 152 (.pointer (some ⟨r, 0, none⟩))) o.k.seg (8 * o.k.seg) ws 0 o.k.looks kv) w ∧ Bq r 198 [.int .i64 o.k.psh.nx, .int .u64 o.k.psh.h, .int .i64 o.k.psh.to] w) ∨
   (11 ≤ o.k.ln ∧ TR q r 63 nx o.k 9 [.int .i64 o.k.looks, kv] w))
def ShRep (B q r r1 : Nat) (o : KX) (kv : Value) (w : World) : Prop :=
  (o.k.ln = 0 ∧ ∃ pt sg sl ws lk, Bq q 63 (TC 0 pt sg sl ws o.err [.int .i64 lk, kv]) w) ∨ (o.k.sh = true ∧ o.k.ln ≠ 0 ∧ ShP B q r r1 (nxL o.k.ln) o kv w)
def ShStepped (B p b q r r1 : Nat) (kv : Value) (R : KX × MV) (w : World) (e : Ending) (w' : World) : Prop :=
  e = .returned (.bool (R.1.k.ln == 0)) ∧ ∃ r' r1' kv', ShRep B q r' r1' R.1 kv' w' ∧ VX p b R.2 w' ∧ Onl p b (q :: r :: r1 :: kv.ownBlock.toList) w w' ∧ (r' = r ∨ w.heap.size ≤ r') ∧ (r1' = r1 ∨ w.heap.size ≤ r1') ∧ (kv'.ownBlock = kv.ownBlock ∨ ∃ g, kv'.ownBlock = some g ∧ w.heap.size ≤ g)
section
variable {B p b q r r1 r' r1' : Nat} {E : List Nat} {T : TypeId} {nx n sg sl ws en : Int} {pt kv kv' : Value} {tl : List Value} {cs : List Value} {M M' : MV} {o : KX} {R : KX × MV} {w w' X Y : World}
theorem PkX.same9 {o : PO} (h : PkX q r o w) (h1 : w'.heap[q]? = w.heap[q]?) (h2 : w'.heap[r]? = w.heap[r]?) : PkX q r o w' := by
  rcases h with ⟨h, s, g, k⟩ | ⟨pt, bt, cs, hp, kq, kr⟩
  · exact .inl ⟨h, s, g, k.same h1⟩
  · exact .inr ⟨pt, bt, cs, hp, kq.same h1, kr.same h2⟩
theorem PkPart.ne9 {o : PO} {pt bt : TypeId} {cs : List Value} (h : PkPart o pt bt cs) : bt ≠ 63 := by
  cases h <;> decide
theorem PkX.ne9 {o : PO} (h : PkX r r1 o w) (h0 : o.ln ≠ 0) (k : Bq q 63 cs w) : r ≠ q ∧ r1 ≠ q := by
  rcases h with ⟨h, _⟩ | ⟨pt, bt, cs, hp, kq, kr⟩
  · exact absurd h h0
  · exact ⟨kq.ne k (by decide), kr.ne k hp.ne9⟩
theorem ShP.bq (h : ShP B q r r1 nx o kv w) : ∃ pt sg sl ws en lk, Bq q 63 (SC nx pt sg sl ws en lk kv) w := by
  rcases h.2 with ⟨_, pt, ws, _, k⟩ | ⟨_, ws, _, k, _⟩ | ⟨_, ws, _, k, _⟩ | ⟨_, ws, _, k, _⟩ | ⟨_, pt, sl, ws, k, _⟩ <;> exact ⟨_, _, _, _, _, _, k⟩
theorem ShP.set0 (h : ShP B q r r1 nx o kv X) (m : Int) : ShP B q r r1 m o kv (X.setCell ⟨q, 0, none⟩ (.int .i64 m)) := by
  obtain ⟨_, _, _, _, _, _, kb⟩ := h.bq
  refine ⟨fun hl => (h.1 hl).set kb (by decide) 0 _, ?_⟩
  rcases h.2 with ⟨h1, pt, ws, h2, k⟩ | ⟨h1, ws, h2, k, k2⟩ | ⟨h1, ws, h2, k, k2, h3⟩ | ⟨h1, ws, h2, k, k2⟩ | ⟨h1, k⟩
  · exact .inl ⟨h1, pt, ws, h2, k.set 0 _ rfl⟩
  · exact .inr (.inl ⟨h1, ws, h2, k.set 0 _ rfl, k2.setO (k2.ne k (by decide)) 0 _⟩)
  · have hn := k2.ne9 h3 k
    exact .inr (.inr (.inl ⟨h1, ws, h2, k.set 0 _ rfl, k2.same9 (Below.heap_setCell X _ _ _ hn.1) (Below.heap_setCell X _ _ _ hn.2), h3⟩))
  · exact .inr (.inr (.inr (.inl ⟨h1, ws, h2, k.set 0 _ rfl, k2.setO (k2.ne k (by decide)) 0 _⟩)))
  · exact .inr (.inr (.inr (.inr ⟨h1, k.set0 (by decide) m⟩)))
theorem nxL_ne {ln : Int} (h : (1 ≤ ln ∧ ln ≤ 8) ∨ (11 ≤ ln ∧ ln ≤ 15)) : nxL ln ≠ 0 := by
  unfold nxL
  split
  · omega
  · split
    · omega
    · split <;> omega
theorem shFin (hq : 1 < q) (hs : R.1.k.sh = true) (hl : (1 ≤ R.1.k.ln ∧ R.1.k.ln ≤ 8) ∨ (11 ≤ R.1.k.ln ∧ R.1.k.ln ≤ 15)) (P : ShP B q r' r1' nx R.1 kv' X) (F : VX p b R.2 X) (O : Onl p b (q :: r :: r1 :: kv.ownBlock.toList) w X)
    (g1 : r' = r ∨ w.heap.size ≤ r') (g2 : r1' = r1 ∨ w.heap.size ≤ r1') (g3 : kv'.ownBlock = kv.ownBlock ∨ ∃ g, kv'.ownBlock = some g ∧ w.heap.size ≤ g) (hn : n = nxL R.1.k.ln) :
    ShStepped B p b q r r1 kv R w (.returned (.bool (n == 0))) (X.setCell ⟨q, 0, none⟩ (.int .i64 n)) := by
  subst hn
  obtain ⟨_, _, _, _, _, _, kb⟩ := P.bq
  have hne := F.ne (by decide) kb
  have hz := nxL_ne hl
  have hz2 : R.1.k.ln ≠ 0 := by omega
  exact ⟨by rw [beq_eq_false_iff_ne.2 hz, beq_eq_false_iff_ne.2 hz2], r', r1', kv', .inr ⟨hs, hz2, P.set0 _⟩, F.setQ hne.1 hne.2 hq 0 _, O.trans (.setCell _ (by simp) 0 _), g1, g2, g3⟩
theorem shOff (hq : 1 < q) (hl : R.1.k.ln = 0) {lk : Int} (k : Bq q 63 (TC nx pt sg sl ws R.1.err [.int .i64 lk, kv]) X) (F : VX p b R.2 X) (O : Onl p b (q :: r :: r1 :: kv.ownBlock.toList) w X) :
    ShStepped B p b q r r1 kv R w (.returned (.bool ((0 : Int) == 0))) (X.setCell ⟨q, 0, none⟩ (.int .i64 0)) := by
  have hne := F.ne (by decide) k
  exact ⟨by rw [hl], r, r1, kv, .inl ⟨hl, pt, sg, sl, ws, lk, k.set 0 _ rfl⟩, F.setQ hne.1 hne.2 hq 0 _, O.trans (.setCell _ (by simp) 0 _), .inl rfl, .inl rfl, .inl rfl⟩
theorem Onl.q1 (h : Onl p b [q] X Y) : Onl p b (q :: E) X Y := h.more (by simp)
theorem sc_bq (h : Bq q T (SC nx pt sg sl ws en n kv) X) : ∃ nx pt' sg' sl' ws' en' tl', Bq q T (TC nx pt' sg' sl' ws' en' tl') X := ⟨_, _, _, _, _, _, [.int .i64 n, kv], h⟩
theorem shrink_mid (hq : 1 < q) (_hB : B ≤ w.heap.size) (F : VX p b M w) (hs : M.s.st < 1000000) (ok : KNum o) (hsh : o.k.sh = true) (hl : o.k.ln = 1 ∨ o.k.ln = 2 ∨ o.k.ln = 3 ∨ o.k.ln = 4 ∨ o.k.ln = 8) (hk : KeptAt B kv o.k.kept w) (hw : U64 ws)
    (k : Bq q 63 (SC (nxL o.k.ln) pt o.k.seg (8 * o.k.seg) ws 0 o.k.looks kv) w) :
    Calls Tryz.prog 35 #[.pointer (some ⟨q, 0, none⟩), .pointer (some ⟨p, 0, none⟩)] w (ShStepped B p b q r r1 kv (kX o M) w) := by
  obtain ⟨⟨sh, ln, seg, looks, slot, w0, psh, pk, kept⟩, err⟩ := o
  simp only at hsh hl hk k
  subst hsh
  have hsg := ok.seg
  have hlk := ok.looks
  have hkn := ok.kno
  simp only at hsg hlk hkn
  have kx : ∀ {e : KX × MV}, ¬ 11 ≤ ln → shrinkX ⟨⟨true, ln, seg, looks, slot, w0, psh, pk, kept⟩, err⟩ M = e → kX ⟨⟨true, ln, seg, looks, slot, w0, psh, pk, kept⟩, err⟩ M = e := fun h he => by unfold kX; rw [if_neg h, if_neg (by simp), he]
  have ne9 := F.ne (by decide) k
  have keep : ∀ {cs : List Value} {M' : MV} {X : World}, Ln p b q 63 cs M' w X → KeptAt B kv kept X := fun L => hk.same fun g hg => by
    obtain ⟨_, cur, hc⟩ := hk.lt hg
    refine L.o.block g (Array.getElem?_eq_some_iff.1 hc).1 (fun e => ?_) (fun e => ?_) (by simpa using hk.ne k (by decide) hg)
    · subst e
      obtain ⟨⟨c2, h2⟩, _⟩ := F.objs
      have := hc.symm.trans h2
      simp at this
    · subst e
      obtain ⟨_, e2, c2, h2⟩ := F.objs
      have := hc.symm.trans h2
      simp at this
  rcases hl with rfl | rfl | rfl | rfl | rfl
  · by_cases c1 : M.V (adG seg) = 1
    · rw [kx (by decide) (show shrinkX _ M = (⟨⟨true, 2, seg, looks, slot, w0, psh, pk, kept⟩, err⟩, ldM M (adG seg)) by simp [shrinkX, c1])]
      refine (gShrink_ask k (tAsk_from hq (by decide) k F hs hsg c1) (fun X h => ⟨_, _, _, _, _, _, _, h.k⟩)).mono ?_
      rintro e w' ⟨rfl, X, L, rfl⟩
      exact shFin hq rfl (by simp) ⟨fun _ => keep L, .inl ⟨by simp, pt, ws, hw, L.k⟩⟩ L.f L.o.q1 (.inl rfl) (.inl rfl) (.inl rfl) rfl
    · by_cases c0 : M.V (adG seg) = 0
      · rw [kx (by decide) (show shrinkX _ M = (⟨⟨true, 0, seg, looks, slot, w0, psh, pk, kept⟩, 6⟩, ldM M (adG seg)) by simp [shrinkX, c0])]
        refine (gShrink_ask k (tAsk_to hq (by decide) k F hs hsg c1 c0) (fun X h => ⟨_, _, _, _, _, _, _, h.k⟩)).mono ?_
        rintro e w' ⟨rfl, X, L, rfl⟩
        exact shOff hq rfl L.k L.f L.o.q1
      · rw [kx (by decide) (show shrinkX _ M = (⟨⟨true, 0, seg, looks, slot, w0, psh, pk, kept⟩, 7⟩, ldM M (adG seg)) by simp [shrinkX, c0, c1])]
        refine (gShrink_ask k (tAsk_no hq (by decide) k F hs hsg c1 c0) (fun X h => ⟨_, _, _, _, _, _, _, h.k⟩)).mono ?_
        rintro e w' ⟨rfl, X, L, rfl⟩
        exact shOff hq rfl L.k L.f L.o.q1
  · by_cases c1 : casV M.V (adG seg) 1 = true
    · rw [kx (by decide) (show shrinkX _ M = (⟨⟨true, 3, seg, looks, slot, w0, psh, pk, kept⟩, err⟩, csM M (adG seg) 1 2) by simp [shrinkX, c1])]
      refine (gShrink_begin k (tChange_yes hq (by decide) k F hs hsg ⟨by decide, by decide⟩ c1) (fun X h => ⟨_, _, _, _, _, _, _, h.k⟩)).mono ?_
      rintro e w' ⟨rfl, X, L, rfl⟩
      exact shFin hq rfl (by simp) ⟨fun _ => keep L, .inl ⟨by simp, pt, ws, hw, L.k⟩⟩ L.f L.o.q1 (.inl rfl) (.inl rfl) (.inl rfl) rfl
    · rw [kx (by decide) (show shrinkX _ M = (⟨⟨true, 0, seg, looks, slot, w0, psh, pk, kept⟩, 7⟩, csM M (adG seg) 1 2) by simp [shrinkX, c1])]
      refine (gShrink_begin k (tChange_no hq (by decide) k F hs hsg ⟨by decide, by decide⟩ (by simpa using c1)) (fun X h => ⟨_, _, _, _, _, _, _, h.k⟩)).mono ?_
      rintro e w' ⟨rfl, X, L, rfl⟩
      exact shOff hq rfl L.k L.f L.o.q1
  · by_cases c8 : M.V (adP seg) = 8
    · rw [kx (by decide) (show shrinkX _ M = (⟨⟨true, 4, seg, looks, slot, w0, psh, pk, kept⟩, err⟩, ldM M (adP seg)) by simp [shrinkX, c8])]
      refine (gShrink_look k (look_all hq (by decide) k F hs hsg c8) (fun X h => sc_bq h.k)).mono ?_
      rintro e w' ⟨rfl, X, L, rfl⟩
      exact shFin hq rfl (by simp) ⟨fun _ => keep L, .inl ⟨by simp, pt, ws, hw, L.k⟩⟩ L.f L.o.q1 (.inl rfl) (.inl rfl) (.inl rfl) rfl
    · by_cases cl : looks ≤ 0
      · rw [kx (by decide) (show shrinkX _ M = (⟨⟨true, 8, seg, looks, slot, w0, psh, pk, kept⟩, err⟩, ldM M (adP seg)) by simp [shrinkX, c8, cl])]
        refine (gShrink_look k (look_none hq (by decide) k F hs hsg c8 cl) (fun X h => sc_bq h.k)).mono ?_
        rintro e w' ⟨rfl, X, L, rfl⟩
        exact shFin hq rfl (by simp) ⟨fun _ => keep L, .inl ⟨by simp, pt, ws, hw, L.k⟩⟩ L.f L.o.q1 (.inl rfl) (.inl rfl) (.inl rfl) rfl
      · rw [kx (by decide) (show shrinkX _ M = (⟨⟨true, 5, seg, looks - 1, slot, w0, ⟨1, 0, 0⟩, pk, kept⟩, err⟩, ldM M (adP seg)) by simp [shrinkX, c8, cl])]
        refine (gShrink_look k (look_go hq (by decide) k F hs hsg c8 (by omega) hlk.2) (fun X ⟨_, _, _, h⟩ => sc_bq h.k)).mono ?_
        rintro e w' ⟨rfl, X, ⟨r', g1, kr, L⟩, rfl⟩
        exact shFin hq rfl (by simp) ⟨fun _ => keep L, .inr (.inl ⟨by simp, ws, hw, L.k, kr⟩)⟩ L.f L.o.q1 (.inr g1) (.inl rfl) (.inl rfl) rfl
  · by_cases c1 : casV M.V (adG seg) 2 = true
    · rw [kx (by decide) (show shrinkX _ M = (⟨⟨true, 0, seg, looks, slot, w0, psh, pk, kept⟩, 0⟩, csM M (adG seg) 2 0) by simp [shrinkX, c1])]
      refine (gShrink_unmap k (tChange_yes hq (by decide) k F hs hsg ⟨by decide, by decide⟩ c1) (fun X h => ⟨_, _, _, _, _, _, _, h.k⟩)).mono ?_
      rintro e w' ⟨rfl, X, L, rfl⟩
      exact shOff hq rfl L.k L.f L.o.q1
    · rw [kx (by decide) (show shrinkX _ M = (⟨⟨true, 0, seg, looks, slot, w0, psh, pk, kept⟩, 7⟩, csM M (adG seg) 2 0) by simp [shrinkX, c1])]
      refine (gShrink_unmap k (tChange_no hq (by decide) k F hs hsg ⟨by decide, by decide⟩ (by simpa using c1)) (fun X h => ⟨_, _, _, _, _, _, _, h.k⟩)).mono ?_
      rintro e w' ⟨rfl, X, L, rfl⟩
      exact shOff hq rfl L.k L.f L.o.q1
  · have k5 : Bq q 63 (SC 6 pt seg (8 * seg) ws 9 looks kv) (w.setCell ⟨q, 5, none⟩ (.int .i64 9)) := k.set 5 _ rfl
    have F5 := F.setQ ne9.1 ne9.2 hq 5 (.int .i64 9)
    have O5 : Onl p b [q] w (w.setCell ⟨q, 5, none⟩ (.int .i64 9)) := .setCell _ (by simp) 5 _
    by_cases c1 : casV M.V (adG seg) 2 = true
    · rw [kx (by decide) (show shrinkX _ M = (⟨⟨true, 11, seg, looks, 8 * seg, w0, psh, pk, kept⟩, err⟩, csM M (adG seg) 2 1) by simp [shrinkX, c1, KO.turn])]
      refine (gShrink_remap k (tChange_yes hq (by decide) k5 F5 hs hsg ⟨by decide, by decide⟩ c1) (fun X h => ⟨_, _, _, _, _, _, _, h.k⟩)).mono ?_
      rintro e w' ⟨rfl, X, L, rfl⟩
      have L' : Ln p b q 63 _ _ w X := ⟨L.k, L.f, O5.trans L.o⟩
      exact shFin hq rfl (by simp) ⟨fun _ => keep L', .inr (.inr (.inr (.inr ⟨by simp, pt, 8 * seg, ws, L.k, hw, fun _ => rfl, fun h => by simp at h, fun h => by simp at h⟩)))⟩ L.f L'.o.q1 (.inl rfl) (.inl rfl) (.inl rfl) rfl
    · rw [kx (by decide) (show shrinkX _ M = (⟨⟨true, 0, seg, looks, slot, w0, psh, pk, kept⟩, 7⟩, csM M (adG seg) 2 1) by simp [shrinkX, c1])]
      refine (gShrink_remap k (tChange_no hq (by decide) k5 F5 hs hsg ⟨by decide, by decide⟩ (by simpa using c1)) (fun X h => ⟨_, _, _, _, _, _, _, h.k⟩)).mono ?_
      rintro e w' ⟨rfl, X, L, rfl⟩
      exact shOff hq rfl L.k L.f (O5.trans L.o).q1
end
end Go.Proofs.YtmjcbjcnmgleaaaGreatDoor
