/-
  One step of an Alloc and of a Free, in plain words, where anybody may turn a parked slot back; no condition.
  One step of a Free, in plain words, where anybody may turn a parked slot back; no condition.
  Threads and a keeper of segments, in plain words: what holds of the memory between steps, and that a thread's step keeps it; no condition.
-/
import Derived.Test.YtmjcbjcnmgleaaaGreatDoorGG1
import Derived.Test.YtmjcbjcnmgleaaaGreatDoorAG4
namespace Go.Proofs.YtmjcbjcnmgleaaaGreatDoor
open Go.RowKit Go.Maps

/-- What is owned by what is under way; its Park; what it tells. -/
def ownL : AO → List Int
  | .no => []
  | .al o => if o.ln = 1 then [] else if o.ln = 3 then ownQ o.pk else [o.sl]
  | .fr o => if o.ln = 3 ∨ o.ln = 4 then [] else if o.ln = 6 then ownQ o.pk else [o.sl]
def parkL : AO → List PO
  | .no => []
  | .al o => if o.ln = 3 then lsQ o.pk else []
  | .fr o => if o.ln = 6 then lsQ o.pk else []
def tellL : AO → Int → Int
  | .no => fun _ => 0
  | .al o => fun g => if o.ln = 3 then tlQ o.pk g else 0
  | .fr o => fun g => if o.ln = 3 ∨ o.ln = 4 then (if segF o.sl = g then -1 else 0) else if o.ln = 6 then tlQ o.pk g else 0
def AlG (M : MA) (S : List Int) (T mo : Int) (o : AlO) : Prop :=
  o.got = false ∧ ((o.ln = 1 ∧ OpOk 24 M.ms S T (.pop o.pop)) ∨ ((0 ≤ o.sl ∧ o.sl < 24) ∧ (((o.ln = 2 ∨ o.ln = 4 ∨ o.ln = 5 ∨ o.ln = 6) ∧ stW (M.hdr o.sl) = 0) ∨ (o.ln = 3 ∧ o.pk.sl = o.sl ∧ o.pk.ln ≠ 0 ∧ PkG M S T mo o.pk) ∨ (o.ln = 7 ∧ stW (M.hdr o.sl) = 0 ∧ o.w = M.hdr o.sl))))
def FrG (M : MA) (S : List Int) (T mo : Int) (o : FrO) : Prop :=
  o.mo = mo ∧ (0 ≤ o.sl ∧ o.sl < 24) ∧ ((o.ln = 1 ∧ stW (M.hdr o.sl) = 1) ∨ (o.ln = 2 ∧ stW (M.hdr o.sl) = 1 ∧ o.w = M.hdr o.sl) ∨ o.ln = 3 ∨ o.ln = 4 ∨ (o.ln = 5 ∧ stW (M.hdr o.sl) = 0) ∨ (o.ln = 6 ∧ o.pk.sl = o.sl ∧ o.pk.ln ≠ 0 ∧ PkG M S T mo o.pk) ∨ (o.ln = 7 ∧ stW (M.hdr o.sl) = 0 ∧ o.psh.to = o.sl ∧ OpOk 24 M.ms S T (.push o.psh)))
def OkG (M : MA) (S : List Int) (T mo : Int) : AO → Prop
  | .no => True
  | .al o => AlG M S T mo o
  | .fr o => FrG M S T mo o
section
variable {S S' : List Int} {T T' : Int} {M : MA} {mo : Int} {own own' : List Int} {pk pk' : List PO} {tl tl' : Int → Int}
/-- A step that turns nothing. -/
theorem Ef.still (stk : Stk M.ms S T) (hsn : ∀ z ∈ S, stW (M.hdr z) = 0) (ht : ∀ g, tl' g = tl g) (h9 : ∀ q ∈ pk', q.ln ≠ 9) : Ef mo M S T own [] tl M S T own pk' tl' :=
  Ef.plain stk rfl rfl rfl hsn (fun g => by rw [ht]; omega) (fun _ h => h) (fun q hq h => absurd h (h9 q hq)) (fun z _ _ q hq => by simp at hq)
/-- A step that turns the list alone. -/
theorem Ef.list {ms' : MS} (stk : Stk ms' S' T') (h0 : T ≤ T') (h1 : T' ≤ T + 1) (mv : ∃ x, (x ∈ own ∨ x < 0) ∧ Mv 24 x M.ms S T ms' S' T') (hc : ∀ z, S'.count z + own'.count z = S.count z + own.count z) (hsn : ∀ z ∈ S', stW (M.hdr z) = 0) (ht : ∀ g, tl' g = tl g) : Ef mo M S T own [] tl { M with ms := ms' } S' T' own' [] tl' := by
  have ez : ∀ z, rz { M with ms := ms' } z = rz M z := fun z => rz_eq rfl
  have en : ∀ g, nR { M with ms := ms' } g = nR M g := fun g => nR_same fun y _ => rfl
  refine ⟨stk, h0, h1, mv, fun z => by rw [ez]; have := hc z; omega, fun z hz => absurd rfl hz, fun z hz => .inr (hsn z hz), rfl, fun g => ?_, fun _ h => h, fun z a b => by rw [ez] at b; omega, fun q hq => by simp at hq, fun z _ _ => .inr ⟨rfl, fun q hq => by simp at hq⟩⟩
  rw [en, ht]
  show (M.spk g - M.spk g - _ - _) % _ = 0
  omega
/-- A store into the header of a slot of one's own. -/
theorem Ef.setH {x s g v : Int} (stk : Stk M.ms S T) (hx : x ∈ own) (hS : x ∉ S) (z0 : rz M x = 0) (hv : v = headerW s g) (s0 : 0 ≤ s) (s1 : s ≤ 4) (s3 : s ≠ 3) (g0 : 0 ≤ g) (g1 : g ≤ mo) (hmo : mo < 4294967296) (hc : ∀ z, own'.count z + (if z = x ∧ s = 4 then 1 else 0) = own.count z) (ht : ∀ y, tl' y = tl y - (if segF x = y ∧ s = 4 then 1 else 0)) :
    Ef mo M S T own [] tl (M.setH x v) S T own' [] tl' := by
  have y3 : stW ((M.setH x v).hdr x) = s := stW_hdr' ((setH_at _ _).trans hv) s0 s1 g0 (by omega)
  have z1 : rz (M.setH x v) x = if s = 4 then 1 else 0 := by rw [rz_of y3]; by_cases h : s = 4 <;> simp [h, s3]
  refine ⟨stk, Int.le_refl _, by omega, ⟨-1, .inr (by decide), Mv.refl _⟩, fun z => ?_, fun z hz => ?_, fun z hz => .inl ⟨hz, setH_ne fun e => hS (e ▸ hz)⟩, rfl, fun y => ?_, fun _ h => h, fun z a b => ?_, fun q hq => by simp at hq, fun z _ a => .inr ⟨setH_ne fun e => ?_, fun q hq => by simp at hq⟩⟩
  · have := hc z
    by_cases hz : z = x
    · subst hz
      rw [z1, z0]
      by_cases h : s = 4
      · simp [h] at this ⊢; omega
      · simp [h] at this ⊢; omega
    · rw [rz_eq (setH_ne hz)]
      simp [hz] at this
      omega
  · by_cases h : z = x
    · subst h; exact ⟨.inl hx, s, g, (setH_at _ _).trans hv, s0, s1, g0, g1⟩
    · exact absurd (setH_ne h) hz
  · have h1 := nR_upd (M := M) (M' := M.setH x v) (x := x) (fun y hy => setH_ne hy) y
    have h2 := ht y
    rw [z0, z1] at h1
    show (M.spk y - M.spk y - _ - _) % _ = 0
    by_cases h : segF x = y
    · by_cases h4 : s = 4
      · simp [h, h4] at h1 h2; omega
      · simp [h, h4] at h1 h2; omega
    · simp [h] at h1 h2; omega
  · by_cases h : z = x
    · subst h; omega
    · rw [rz_eq (setH_ne h)] at b; omega
  · subst e; omega
theorem hdr_of (hfrm : Frm M mo) (hmo : mo < 4294967296) {z s : Int} (hz : 0 ≤ z ∧ z < 24) (h : stW (M.hdr z) = s) : ∃ g, M.hdr z = headerW s g ∧ 0 ≤ g ∧ g ≤ mo ∧ gW (M.hdr z) = g := by
  obtain ⟨s', g, e, s0, s1, g0, g1⟩ := hfrm z hz
  have : s = s' := by rw [← h, stW_hdr' e s0 s1 g0 (by omega)]
  subst this
  exact ⟨g, e, g0, g1, gW_hdr' e s0 s1 g0 (by omega)⟩
theorem pkG_new {z : Int} (hz : 0 ≤ z ∧ z < 24) (h : stW (M.hdr z) = 0) : PkG M S T mo (newPark z) := ⟨hz, .inl rfl, rfl, .inl ⟨rfl, h⟩⟩
theorem al_eff (stk : Stk M.ms S T) (hT : T + 1 < 1000000) {o : AlO} (ok : AlG M S T mo o) (hmo : mo < 4294967296) (hsn : ∀ z ∈ S, stW (M.hdr z) = 0) (hfrm : Frm M mo) (hnS : ∀ z ∈ ownL (.al o), z ∉ S) (hS24 : ∀ z ∈ S, 0 ≤ z ∧ z < 24) (hspk : ∀ g, 0 ≤ g → g < 3 → 0 ≤ M.spk g ∧ M.spk g < 18446744073709551616) :
    ∃ S' T', Ef mo M S T (ownL (.al o)) (parkL (.al o)) (tellL (.al o)) (alF o M).2 S' T' ((gainAl o M).map (·.1) ++ ownL (stepAl o M)) (parkL (stepAl o M)) (tellL (stepAl o M)) ∧ OkG (alF o M).2 S' T' mo (stepAl o M) ∧ ∀ p ∈ gainAl o M, (alF o M).2.hdr p.1 = headerW 1 p.2 ∧ 0 ≤ p.2 ∧ p.2 ≤ mo := by
  obtain ⟨ln, pop, sl, w, pk, got⟩ := o
  obtain ⟨hgo, hl⟩ := ok
  simp only at hgo hl
  subst hgo
  rcases hl with ⟨rfl, ho⟩ | ⟨hin, ⟨hl, hh⟩ | ⟨rfl, hps, hpl, hpk⟩ | ⟨rfl, hh, rfl⟩⟩
  · -- 1
    obtain ⟨S', T', h1, h2, h3, h4, h5, h6⟩ := popA_step (n := 24) stk hT ho (-1)
    rcases h6 with ⟨k1, k2, k3, k4⟩ | ⟨k1, k2, k3, k4⟩ | ⟨k1, k2, k3, k4⟩
    · have e : alF ⟨1, pop, sl, w, pk, false⟩ M = (⟨1, (popF pop M.ms).1, sl, w, pk, false⟩, { M with ms := (popF pop M.ms).2 }) := by simp [alF, k1]
      have es : stepAl ⟨1, pop, sl, w, pk, false⟩ M = .al ⟨1, (popF pop M.ms).1, sl, w, pk, false⟩ := by simp [stepAl, e]
      have eg : gainAl ⟨1, pop, sl, w, pk, false⟩ M = [] := by simp [gainAl, e]
      rw [es, eg, e]
      refine ⟨S', T', ?_, ⟨rfl, .inl ⟨rfl, k3⟩⟩, by simp⟩
      have := Ef.list (mo := mo) (M := M) (own := []) (own' := []) (tl := fun _ => 0) (tl' := fun _ => 0) h1 h2 h3 ⟨-1, .inr (by decide), h4⟩ (fun z => by rw [k2]) (fun z hz => hsn z (k2 ▸ hz)) (fun _ => rfl)
      simpa [ownL, parkL, tellL] using this
    · have e : alF ⟨1, pop, sl, w, pk, false⟩ M = (⟨0, (popF pop M.ms).1, sl, w, pk, false⟩, { M with ms := (popF pop M.ms).2 }) := by simp [alF, k1, k2]
      have es : stepAl ⟨1, pop, sl, w, pk, false⟩ M = .no := by simp [stepAl, e]
      have eg : gainAl ⟨1, pop, sl, w, pk, false⟩ M = [] := by simp [gainAl, e]
      rw [es, eg, e]
      refine ⟨S', T', ?_, trivial, by simp⟩
      have := Ef.list (mo := mo) (M := M) (own := []) (own' := []) (tl := fun _ => 0) (tl' := fun _ => 0) h1 h2 h3 ⟨-1, .inr (by decide), h4⟩ (fun z => by rw [k3]) (fun z hz => hsn z (k3 ▸ hz)) (fun _ => rfl)
      simpa [ownL, parkL, tellL] using this
    · have hw : ¬ wSlot (popF pop M.ms).1.h < 0 := by omega
      have e : alF ⟨1, pop, sl, w, pk, false⟩ M = (⟨2, (popF pop M.ms).1, wSlot (popF pop M.ms).1.h, w, pk, false⟩, { M with ms := (popF pop M.ms).2 }) := by simp [alF, k1, hw]
      have es : stepAl ⟨1, pop, sl, w, pk, false⟩ M = .al ⟨2, (popF pop M.ms).1, wSlot (popF pop M.ms).1.h, w, pk, false⟩ := by simp [stepAl, e]
      have eg : gainAl ⟨1, pop, sl, w, pk, false⟩ M = [] := by simp [gainAl, e]
      rw [es, eg, e]
      generalize wSlot (popF pop M.ms).1.h = y at *
      have hy : y ∈ S := by rw [k3]; simp
      refine ⟨S', T', ?_, ⟨rfl, .inr ⟨hS24 y hy, .inl ⟨.inl rfl, hsn y hy⟩⟩⟩, by simp⟩
      have := Ef.list (mo := mo) (M := M) (own := []) (own' := [y]) (tl := fun _ => 0) (tl' := fun _ => 0) h1 h2 h3 ⟨-1, .inr (by decide), h4⟩ (fun z => by rw [k3]; simp only [List.count_cons, List.count_nil]; omega) (fun z hz => hsn z (by rw [k3]; simp [hz])) (fun _ => rfl)
      simpa [ownL, parkL, tellL] using this
  · have still : ∀ (l' : Int) (w' : Int) (pk' : PO), alF ⟨ln, pop, sl, w, pk, false⟩ M = (⟨l', pop, sl, w', pk', false⟩, M) → l' ≠ 0 → l' ≠ 1 → (l' = 3 → pk' = newPark sl) → AlG M S T mo ⟨l', pop, sl, w', pk', false⟩ →
        ∃ S' T', Ef mo M S T (ownL (.al ⟨ln, pop, sl, w, pk, false⟩)) (parkL (.al ⟨ln, pop, sl, w, pk, false⟩)) (tellL (.al ⟨ln, pop, sl, w, pk, false⟩)) (alF ⟨ln, pop, sl, w, pk, false⟩ M).2 S' T' ((gainAl ⟨ln, pop, sl, w, pk, false⟩ M).map (·.1) ++ ownL (stepAl ⟨ln, pop, sl, w, pk, false⟩ M)) (parkL (stepAl ⟨ln, pop, sl, w, pk, false⟩ M)) (tellL (stepAl ⟨ln, pop, sl, w, pk, false⟩ M)) ∧ OkG (alF ⟨ln, pop, sl, w, pk, false⟩ M).2 S' T' mo (stepAl ⟨ln, pop, sl, w, pk, false⟩ M) ∧ ∀ p ∈ gainAl ⟨ln, pop, sl, w, pk, false⟩ M, (alF ⟨ln, pop, sl, w, pk, false⟩ M).2.hdr p.1 = headerW 1 p.2 ∧ 0 ≤ p.2 ∧ p.2 ≤ mo := by
      intro l' w' pk' e h0 h1 h3 hok
      have es : stepAl ⟨ln, pop, sl, w, pk, false⟩ M = .al ⟨l', pop, sl, w', pk', false⟩ := by simp [stepAl, e, h0]
      have eg : gainAl ⟨ln, pop, sl, w, pk, false⟩ M = [] := by simp [gainAl, e]
      have o1 : ownL (.al ⟨ln, pop, sl, w, pk, false⟩) = [sl] := by
        show (if ln = 1 then ([] : List Int) else if ln = 3 then ownQ pk else [sl]) = [sl]
        rw [if_neg (by omega), if_neg (by omega)]
      have o2 : ownL (.al ⟨l', pop, sl, w', pk', false⟩) = [sl] := by
        show (if l' = 1 then ([] : List Int) else if l' = 3 then ownQ pk' else [sl]) = [sl]
        rw [if_neg h1]
        by_cases h : l' = 3
        · rw [if_pos h, h3 h]; simp [ownQ, newPark]
        · rw [if_neg h]
      have p1 : parkL (.al ⟨ln, pop, sl, w, pk, false⟩) = [] := by
        show (if ln = 3 then lsQ pk else []) = []
        rw [if_neg (by omega)]
      have t1 : ∀ g, tellL (.al ⟨l', pop, sl, w', pk', false⟩) g = tellL (.al ⟨ln, pop, sl, w, pk, false⟩) g := fun g => by
        show (if l' = 3 then tlQ pk' g else 0) = if ln = 3 then tlQ pk g else 0
        rw [if_neg (show ¬ ln = 3 by omega)]
        by_cases h : l' = 3
        · rw [if_pos h, h3 h]; exact tlQ_off (by simp [newPark]) g
        · rw [if_neg h]
      rw [es, eg, e, o1, p1]
      refine ⟨S, T, ?_, hok, by simp⟩
      rw [List.map_nil, List.nil_append, o2]
      refine Ef.still stk hsn t1 fun q hq => ?_
      replace hq : q ∈ (if l' = 3 then lsQ pk' else []) := hq
      by_cases h : l' = 3
      · rw [if_pos h, h3 h] at hq
        simp [lsQ, newPark] at hq
        subst hq
        simp
      · rw [if_neg h] at hq; simp at hq
    rcases hl with rfl | rfl | rfl | rfl
    · by_cases hc : M.sst (segF sl) = 2
      · exact still 3 w (newPark sl) (by simp [alF, hc]) (by decide) (by decide) (fun _ => rfl) ⟨rfl, .inr ⟨hin, .inr (.inl ⟨rfl, rfl, by simp [newPark], pkG_new hin hh⟩)⟩⟩
      · exact still 4 w pk (by simp [alF, hc]) (by decide) (by decide) (fun h => absurd h (by decide)) ⟨rfl, .inr ⟨hin, .inl ⟨.inr (.inl rfl), hh⟩⟩⟩
    · exact still 5 w pk (by simp [alF]) (by decide) (by decide) (fun h => absurd h (by decide)) ⟨rfl, .inr ⟨hin, .inl ⟨.inr (.inr (.inl rfl)), hh⟩⟩⟩
    · exact still 6 w pk (by simp [alF]) (by decide) (by decide) (fun h => absurd h (by decide)) ⟨rfl, .inr ⟨hin, .inl ⟨.inr (.inr (.inr rfl)), hh⟩⟩⟩
    · exact still 7 (M.hdr sl) pk (by simp [alF]) (by decide) (by decide) (fun h => absurd h (by decide)) ⟨rfl, .inr ⟨hin, .inr (.inr ⟨rfl, hh, rfl⟩)⟩⟩
  · -- 3
    have hsg : segF pk.sl = segF sl := by rw [hps]
    have o1 : ownL (.al ⟨3, pop, sl, w, pk, false⟩) = ownQ pk := by simp [ownL]
    obtain ⟨S', T', E, e2, hk⟩ := park_eff stk hT hpk hmo hsn hfrm (fun z hz => hnS z (by rw [o1]; exact hz)) (hspk _ (by unfold segF; omega) (by unfold segF; omega))
    have p1 : parkL (.al ⟨3, pop, sl, w, pk, false⟩) = lsQ pk := by simp [parkL]
    have t1 : tellL (.al ⟨3, pop, sl, w, pk, false⟩) = tlQ pk := by funext g; simp [tellL]
    by_cases hz : (parkF pk M).1.ln = 0
    · have e : alF ⟨3, pop, sl, w, pk, false⟩ M = (⟨1, ⟨1, 0, 0⟩, sl, w, (parkF pk M).1, false⟩, (parkF pk M).2) := by simp [alF, hz]
      have es : stepAl ⟨3, pop, sl, w, pk, false⟩ M = .al ⟨1, ⟨1, 0, 0⟩, sl, w, (parkF pk M).1, false⟩ := by simp [stepAl, e]
      have eg : gainAl ⟨3, pop, sl, w, pk, false⟩ M = [] := by simp [gainAl, e]
      rw [es, eg, e, o1, p1, t1]
      refine ⟨S', T', ?_, ⟨rfl, .inl ⟨rfl, u64_0, .inl rfl⟩⟩, by simp⟩
      have a1 : ownQ (parkF pk M).1 = [] := by simp [ownQ, hz]
      have a2 : lsQ (parkF pk M).1 = [] := by simp [lsQ, hz]
      have a3 : tlQ (parkF pk M).1 = fun _ => 0 := by funext g; exact tlQ_off (by simp [hz]) g
      rw [a1, a2, a3] at E
      have b3 : tellL (.al ⟨1, ⟨1, 0, 0⟩, sl, w, (parkF pk M).1, false⟩) = fun _ => 0 := by funext g; simp [tellL]
      rw [b3]
      simpa [ownL, parkL] using E
    · have e : alF ⟨3, pop, sl, w, pk, false⟩ M = (⟨3, pop, sl, w, (parkF pk M).1, false⟩, (parkF pk M).2) := by simp [alF, hz]
      have es : stepAl ⟨3, pop, sl, w, pk, false⟩ M = .al ⟨3, pop, sl, w, (parkF pk M).1, false⟩ := by simp [stepAl, e]
      have eg : gainAl ⟨3, pop, sl, w, pk, false⟩ M = [] := by simp [gainAl, e]
      rw [es, eg, e, o1, p1, t1]
      refine ⟨S', T', ?_, ⟨rfl, .inr ⟨hin, .inr (.inl ⟨rfl, by rw [e2]; exact hps, hz, hk hz⟩)⟩⟩, by simp⟩
      have b3 : tellL (.al ⟨3, pop, sl, w, (parkF pk M).1, false⟩) = tlQ (parkF pk M).1 := by funext g; simp [tellL]
      rw [b3]
      simpa [ownL, parkL] using E
  · -- 7
    obtain ⟨g, eh, g0, g1, eg'⟩ := hdr_of hfrm hmo hin hh
    have e : alF ⟨7, pop, sl, M.hdr sl, pk, false⟩ M = (⟨0, pop, sl, M.hdr sl, pk, true⟩, M.setH sl (headerW 1 (gW (M.hdr sl)))) := by simp [alF]
    have es : stepAl ⟨7, pop, sl, M.hdr sl, pk, false⟩ M = .no := by simp [stepAl, e]
    have eg : gainAl ⟨7, pop, sl, M.hdr sl, pk, false⟩ M = [(sl, gW (M.hdr sl))] := by simp [gainAl, e]
    have o1 : ownL (.al ⟨7, pop, sl, M.hdr sl, pk, false⟩) = [sl] := by simp [ownL]
    rw [es, eg, e, o1]
    refine ⟨S, T, ?_, trivial, fun p hp => ?_⟩
    · have := Ef.setH (mo := mo) (own := [sl]) (own' := [sl]) (tl := fun _ => 0) (tl' := fun _ => 0) (x := sl) (s := 1) (g := gW (M.hdr sl)) (v := headerW 1 (gW (M.hdr sl))) stk (by simp) (hnS sl (by rw [o1]; simp)) (by rw [rz_of hh]; simp) rfl (by decide) (by decide) (by decide) (by omega) (by omega) hmo (fun z => by simp) (fun y => by simp)
      simpa [ownL, parkL, tellL] using this
    · rw [List.mem_singleton] at hp
      subst hp
      exact ⟨setH_at _ _, by show 0 ≤ gW (M.hdr sl); omega, by show gW (M.hdr sl) ≤ mo; omega⟩
end
end Go.Proofs.YtmjcbjcnmgleaaaGreatDoor
namespace Go.Proofs.YtmjcbjcnmgleaaaGreatDoor
open Go.RowKit Go.Maps

section
variable {S S' : List Int} {T T' : Int} {M : MA} {mo : Int}
theorem fr_own {l : Int} {sl mo' w nn : Int} {pk : PO} {psh : OS} : ownL (.fr ⟨l, sl, mo', w, nn, pk, psh⟩) = if l = 3 ∨ l = 4 then [] else if l = 6 then ownQ pk else [sl] := rfl
theorem fr_park {l : Int} {sl mo' w nn : Int} {pk : PO} {psh : OS} : parkL (.fr ⟨l, sl, mo', w, nn, pk, psh⟩) = if l = 6 then lsQ pk else [] := rfl
theorem fr_tell {l : Int} {sl mo' w nn : Int} {pk : PO} {psh : OS} (g : Int) : tellL (.fr ⟨l, sl, mo', w, nn, pk, psh⟩) g = if l = 3 ∨ l = 4 then (if segF sl = g then -1 else 0) else if l = 6 then tlQ pk g else 0 := rfl
theorem fr_eff (stk : Stk M.ms S T) (hT : T + 1 < 1000000) {o : FrO} (ok : FrG M S T mo o) (hmo : mo < 4294967296) (hsn : ∀ z ∈ S, stW (M.hdr z) = 0) (hfrm : Frm M mo) (hnS : ∀ z ∈ ownL (.fr o), z ∉ S) (hspk : ∀ g, 0 ≤ g → g < 3 → 0 ≤ M.spk g ∧ M.spk g < 18446744073709551616) :
    ∃ S' T', Ef mo M S T (ownL (.fr o)) (parkL (.fr o)) (tellL (.fr o)) (frF o M).2 S' T' (ownL (stepFr o M)) (parkL (stepFr o M)) (tellL (stepFr o M)) ∧ OkG (frF o M).2 S' T' mo (stepFr o M) := by
  obtain ⟨ln, sl, mo', w, nn, pk, psh⟩ := o
  obtain ⟨rfl, hin, hl⟩ := ok
  simp only at hin hl hmo hfrm
  rcases hl with ⟨rfl, hh⟩ | ⟨rfl, hh, rfl⟩ | rfl | rfl | ⟨rfl, hh⟩ | ⟨rfl, hps, hpl, hpk⟩ | ⟨rfl, hh, hto, ho⟩
  · have es : stepFr ⟨1, sl, mo', w, nn, pk, psh⟩ M = .fr ⟨2, sl, mo', M.hdr sl, nn, pk, psh⟩ := by simp [stepFr, frF]
    rw [es]
    refine ⟨S, T, ?_, rfl, hin, .inr (.inl ⟨rfl, hh, rfl⟩)⟩
    simp only [fr_own, fr_park]
    exact Ef.still stk hsn (fun g => by simp [fr_tell]) (fun q hq => by simp at hq)
  · obtain ⟨g, eh, g0, g1, eg⟩ := hdr_of hfrm hmo hin hh
    have o1 : ownL (.fr ⟨2, sl, mo', M.hdr sl, nn, pk, psh⟩) = [sl] := by simp [fr_own]
    have z0 : rz M sl = 0 := by rw [rz_of hh]; simp
    have hS := hnS sl (by rw [o1]; simp)
    by_cases hc : mo' ≤ gW (M.hdr sl)
    · have e : frF ⟨2, sl, mo', M.hdr sl, nn, pk, psh⟩ M = (⟨3, sl, mo', M.hdr sl, nn, pk, psh⟩, M.setH sl (headerW 4 (gW (M.hdr sl)))) := by simp [frF, hc]
      have es : stepFr ⟨2, sl, mo', M.hdr sl, nn, pk, psh⟩ M = .fr ⟨3, sl, mo', M.hdr sl, nn, pk, psh⟩ := by simp [stepFr, e]
      rw [es, e]
      refine ⟨S, T, ?_, rfl, hin, .inr (.inr (.inl rfl))⟩
      simp only [fr_own, fr_park]
      refine Ef.setH (x := sl) (s := 4) (g := gW (M.hdr sl)) stk (by simp) hS z0 rfl (by decide) (by decide) (by decide) (by omega) (by omega) hmo (fun z => ?_) (fun y => ?_)
      · by_cases h : z = sl
        · subst h; simp
        · simp [h, Ne.symm h]
      · by_cases h : segF sl = y <;> simp [fr_tell, h]
    · have e : frF ⟨2, sl, mo', M.hdr sl, nn, pk, psh⟩ M = (⟨5, sl, mo', M.hdr sl, nn, pk, psh⟩, M.setH sl (headerW 0 (gW (M.hdr sl) + 1))) := by simp [frF, hc]
      have es : stepFr ⟨2, sl, mo', M.hdr sl, nn, pk, psh⟩ M = .fr ⟨5, sl, mo', M.hdr sl, nn, pk, psh⟩ := by simp [stepFr, e]
      rw [es, e]
      refine ⟨S, T, ?_, rfl, hin, .inr (.inr (.inr (.inr (.inl ⟨rfl, stW_hdr' (setH_at _ _) (by decide) (by decide) (by omega) (by omega)⟩))))⟩
      simp only [fr_own, fr_park]
      exact Ef.setH (x := sl) (s := 0) (g := gW (M.hdr sl) + 1) stk (by simp) hS z0 rfl (by decide) (by decide) (by decide) (by omega) (by omega) hmo (fun z => by simp) (fun y => by simp [fr_tell])
  · have es : stepFr ⟨3, sl, mo', w, nn, pk, psh⟩ M = .fr ⟨4, sl, mo', w, M.spk (segF sl), pk, psh⟩ := by simp [stepFr, frF]
    have e : (frF ⟨3, sl, mo', w, nn, pk, psh⟩ M).2 = M := by simp [frF]
    rw [es, e]
    refine ⟨S, T, ?_, rfl, hin, .inr (.inr (.inr (.inl rfl)))⟩
    simp only [fr_own, fr_park]
    exact Ef.still stk hsn (fun g => by simp [fr_tell]) (fun q hq => by simp at hq)
  · by_cases hc : M.spk (segF sl) = nn
    · have e : frF ⟨4, sl, mo', w, nn, pk, psh⟩ M = (⟨0, sl, mo', w, nn, pk, psh⟩, M.setP (segF sl) (up64 nn)) := by simp [frF, hc]
      have es : stepFr ⟨4, sl, mo', w, nn, pk, psh⟩ M = .no := by simp [stepFr, e]
      rw [es, e]
      refine ⟨S, T, ?_, trivial⟩
      simp only [fr_own, fr_park]
      refine Ef.plain stk rfl rfl rfl hsn (fun g => ?_) (fun g h => ?_) (fun q hq => by simp [parkL] at hq) (fun z _ _ q hq => by simp at hq)
      · by_cases h : segF sl = g
        · subst h
          have := up_mod (n := nn)
          simp only [tellL, MA.setP, if_true, hc]
          simp
          omega
        · simp only [tellL, MA.setP, if_neg (Ne.symm h), if_neg h]
          simp
      · by_cases hg : g = segF sl
        · subst hg; simp only [MA.setP, if_true, up64]; omega
        · simp only [MA.setP, if_neg hg]; exact h
    · have e : frF ⟨4, sl, mo', w, nn, pk, psh⟩ M = (⟨3, sl, mo', w, nn, pk, psh⟩, M) := by simp [frF, hc]
      have es : stepFr ⟨4, sl, mo', w, nn, pk, psh⟩ M = .fr ⟨3, sl, mo', w, nn, pk, psh⟩ := by simp [stepFr, e]
      rw [es, e]
      refine ⟨S, T, ?_, rfl, hin, .inr (.inr (.inl rfl))⟩
      simp only [fr_own, fr_park]
      exact Ef.still stk hsn (fun g => by simp [fr_tell]) (fun q hq => by simp at hq)
  · by_cases hc : M.sst (segF sl) = 2
    · have e : frF ⟨5, sl, mo', w, nn, pk, psh⟩ M = (⟨6, sl, mo', w, nn, newPark sl, psh⟩, M) := by simp [frF, hc]
      have es : stepFr ⟨5, sl, mo', w, nn, pk, psh⟩ M = .fr ⟨6, sl, mo', w, nn, newPark sl, psh⟩ := by simp [stepFr, e]
      rw [es, e]
      refine ⟨S, T, ?_, rfl, hin, .inr (.inr (.inr (.inr (.inr (.inl ⟨rfl, rfl, by simp [newPark], pkG_new hin hh⟩)))))⟩
      have a1 : ownQ (newPark sl) = [sl] := by simp [ownQ, newPark]
      have a2 : lsQ (newPark sl) = [newPark sl] := by simp [lsQ, newPark]
      simp only [fr_own, fr_park]
      simp only [a1, a2]
      exact Ef.still stk hsn (fun g => by simp [fr_tell]; exact tlQ_off (by simp [newPark]) g) (fun q hq => by simp at hq; subst hq; simp [newPark])
    · have e : frF ⟨5, sl, mo', w, nn, pk, psh⟩ M = (⟨7, sl, mo', w, nn, pk, ⟨1, 0, sl⟩⟩, M) := by simp [frF, hc]
      have es : stepFr ⟨5, sl, mo', w, nn, pk, psh⟩ M = .fr ⟨7, sl, mo', w, nn, pk, ⟨1, 0, sl⟩⟩ := by simp [stepFr, e]
      rw [es, e]
      refine ⟨S, T, ?_, rfl, hin, .inr (.inr (.inr (.inr (.inr (.inr ⟨rfl, hh, rfl, u64_0, hin, .inl rfl⟩)))))⟩
      simp only [fr_own, fr_park]
      exact Ef.still stk hsn (fun g => by simp [fr_tell]) (fun q hq => by simp at hq)
  · have o1 : ownL (.fr ⟨6, sl, mo', w, nn, pk, psh⟩) = ownQ pk := by simp [fr_own]
    have p1 : parkL (.fr ⟨6, sl, mo', w, nn, pk, psh⟩) = lsQ pk := by simp [fr_park]
    have t1 : tellL (.fr ⟨6, sl, mo', w, nn, pk, psh⟩) = tlQ pk := by funext g; simp [fr_tell]
    obtain ⟨S', T', E, e2, hk⟩ := park_eff stk hT hpk hmo hsn hfrm (fun z hz => hnS z (by rw [o1]; exact hz)) (by rw [hps]; exact hspk _ (by unfold segF; omega) (by unfold segF; omega))
    by_cases hz : (parkF pk M).1.ln = 0
    · have e : frF ⟨6, sl, mo', w, nn, pk, psh⟩ M = (⟨0, sl, mo', w, nn, (parkF pk M).1, psh⟩, (parkF pk M).2) := by simp [frF, hz]
      have es : stepFr ⟨6, sl, mo', w, nn, pk, psh⟩ M = .no := by simp [stepFr, e]
      rw [es, e, o1, p1, t1]
      refine ⟨S', T', ?_, trivial⟩
      have a1 : ownQ (parkF pk M).1 = [] := by simp [ownQ, hz]
      have a2 : lsQ (parkF pk M).1 = [] := by simp [lsQ, hz]
      have a3 : tlQ (parkF pk M).1 = fun _ => 0 := by funext g; exact tlQ_off (by simp [hz]) g
      rw [a1, a2, a3] at E
      exact E
    · have e : frF ⟨6, sl, mo', w, nn, pk, psh⟩ M = (⟨6, sl, mo', w, nn, (parkF pk M).1, psh⟩, (parkF pk M).2) := by simp [frF, hz]
      have es : stepFr ⟨6, sl, mo', w, nn, pk, psh⟩ M = .fr ⟨6, sl, mo', w, nn, (parkF pk M).1, psh⟩ := by simp [stepFr, e]
      rw [es, e, o1, p1, t1]
      refine ⟨S', T', ?_, rfl, hin, .inr (.inr (.inr (.inr (.inr (.inl ⟨rfl, by rw [e2]; exact hps, hz, hk hz⟩)))))⟩
      have b1 : ownL (.fr ⟨6, sl, mo', w, nn, (parkF pk M).1, psh⟩) = ownQ (parkF pk M).1 := by simp [fr_own]
      have b2 : parkL (.fr ⟨6, sl, mo', w, nn, (parkF pk M).1, psh⟩) = lsQ (parkF pk M).1 := by simp [fr_park]
      have b3 : tellL (.fr ⟨6, sl, mo', w, nn, (parkF pk M).1, psh⟩) = tlQ (parkF pk M).1 := by funext g; simp [fr_tell]
      rw [b1, b2, b3]
      exact E
  · have o1 : ownL (.fr ⟨7, sl, mo', w, nn, pk, psh⟩) = [sl] := by simp [fr_own]
    have hS : sl ∉ S := hnS sl (by rw [o1]; simp)
    obtain ⟨S', T', h1, h2, h3, h4, h5, h6⟩ := pushA_step stk (n := 24) (by decide) hT (o := psh) (by rw [hto]; exact hS) ho
    rw [hto] at h5 h4 h6
    rcases h6 with ⟨k1, k2, k3, k4⟩ | ⟨k1, k2, k3⟩
    · have e : frF ⟨7, sl, mo', w, nn, pk, psh⟩ M = (⟨7, sl, mo', w, nn, pk, (pushF psh M.ms).1⟩, { M with ms := (pushF psh M.ms).2 }) := by simp [frF, k1]
      have es : stepFr ⟨7, sl, mo', w, nn, pk, psh⟩ M = .fr ⟨7, sl, mo', w, nn, pk, (pushF psh M.ms).1⟩ := by simp [stepFr, e]
      rw [es, e]
      refine ⟨S', T', ?_, rfl, hin, .inr (.inr (.inr (.inr (.inr (.inr ⟨rfl, hh, h4, k3⟩)))))⟩
      simp only [fr_own, fr_park]
      exact Ef.list h1 h2 h3 ⟨sl, .inl (by simp), h5⟩ (fun z => by rw [k2]) (fun z hz => hsn z (k2 ▸ hz)) (fun g => by simp [fr_tell])
    · have e : frF ⟨7, sl, mo', w, nn, pk, psh⟩ M = (⟨0, sl, mo', w, nn, pk, (pushF psh M.ms).1⟩, { M with ms := (pushF psh M.ms).2 }) := by simp [frF, k1]
      have es : stepFr ⟨7, sl, mo', w, nn, pk, psh⟩ M = .no := by simp [stepFr, e]
      rw [es, e]
      refine ⟨S', T', ?_, trivial⟩
      simp only [fr_own, fr_park]
      refine Ef.list h1 h2 h3 ⟨sl, .inl (by simp), h5⟩ (fun z => ?_) (fun z hz => ?_) (fun g => by simp [tellL])
      · rw [k2]; simp [ownL, List.count_cons]
      · rw [k2] at hz
        rcases List.mem_cons.1 hz with rfl | hz
        · exact hh
        · exact hsn z hz
end
end Go.Proofs.YtmjcbjcnmgleaaaGreatDoor
namespace Go.Proofs.YtmjcbjcnmgleaaaGreatDoor
open Go.RowKit Go.Maps

/-- A Grow or a Shrink: its line (0: over; 11 to 15: the turning of slots, A to E). -/
structure KO where
  sh : Bool
  ln : Int
  seg : Int
  looks : Int
  slot : Int
  w : Int
  psh : OS
  pk : PO
  kept : List Int
/-- The keeper's turning will come to that slot. -/
def Tn (K : KO) (M : MA) (z : Int) : Prop := 11 ≤ K.ln ∧ K.seg = segF z ∧ (K.slot < z ∨ (K.slot = z ∧ (K.ln = 11 ∨ (K.ln = 12 ∧ K.w = M.hdr z))))
/-- What holds of the memory; cO: how often a slot is owned; P: the Parks under way; tl: what they tell. -/
structure Glob (N mo : Int) (cO : Int → Nat) (P : PO → Prop) (tl : Int → Int) (K : KO) (M : MA) (S : List Int) (T : Int) : Prop where
  nn : 0 ≤ N ∧ N ≤ 24
  stk : Stk M.ms S T
  cnt : ∀ z, S.count z + cO z + rz M z = if 0 ≤ z ∧ z < N then 1 else 0
  frm : Frm M mo
  sn : ∀ z ∈ S, stW (M.hdr z) = 0
  rng : ∀ g, 0 ≤ g → g < 3 → 0 ≤ M.spk g ∧ M.spk g < 18446744073709551616
  sum : ∀ g, 0 ≤ g → g < 3 → (M.spk g - (nR M g : Int) - tl g) % 18446744073709551616 = 0
  st : ∀ g, 0 ≤ g → g < 3 → M.sst g = 0 ∨ M.sst g = 1 ∨ M.sst g = 2
  dr : ∀ g, 0 ≤ g → g < 3 → (M.sst g = 2 ↔ (K.sh = true ∧ K.seg = g ∧ 3 ≤ K.ln ∧ K.ln ≤ 8))
  up : 11 ≤ K.ln → M.sst K.seg = 1
  none : ∀ g, 0 ≤ g → 8 * g < N → (M.sst g = 0 ∨ (K.sh = true ∧ K.ln = 4 ∧ K.seg = g)) → (∀ z, segF z = g → rz M z = 1) ∧ ∀ q, P q → q.ln = 9 → segF q.sl ≠ g
  resp : ∀ z, 0 ≤ z → z < 24 → M.sst (segF z) = 1 → stW (M.hdr z) = 3 → (∃ q, P q ∧ Rs q M z) ∨ Tn K M z
section
variable {S S' : List Int} {T T' : Int} {M M' : MA} {N mo : Int} {own own' : List Int} {pk pk' : List PO} {tv tv' tl tl' tR : Int → Int} {cO cO' cR : Int → Nat} {P P' PR : PO → Prop} {K : KO}
theorem Glob.sN (G : Glob N mo cO P tl K M S T) {z : Int} (hz : z ∈ S) : 0 ≤ z ∧ z < N := by
  have := G.cnt z
  have h1 := List.count_pos_iff.2 hz
  by_cases h : 0 ≤ z ∧ z < N
  · exact h
  · rw [if_neg h] at this; omega
theorem Glob.s24 (G : Glob N mo cO P tl K M S T) {z : Int} (hz : z ∈ S) : 0 ≤ z ∧ z < 24 := by
  have := G.sN hz
  have := G.nn
  omega
theorem Glob.ownN (G : Glob N mo cO P tl K M S T) {z : Int} (hz : 0 < cO z) : (0 ≤ z ∧ z < N) ∧ z ∉ S ∧ rz M z = 0 := by
  have := G.cnt z
  by_cases h : 0 ≤ z ∧ z < N
  · rw [if_pos h] at this
    exact ⟨h, fun hs => by have := List.count_pos_iff.2 hs; omega, by omega⟩
  · rw [if_neg h] at this; omega
theorem Glob.own24 (G : Glob N mo cO P tl K M S T) {z : Int} (hz : 0 < cO z) : (0 ≤ z ∧ z < 24) ∧ z ∉ S ∧ rz M z = 0 := by
  obtain ⟨h1, h2⟩ := G.ownN hz
  have := G.nn
  exact ⟨by omega, h2⟩
/-- What others own stays as it is. -/
theorem Ef.rest (E : Ef mo M S T own pk tv M' S' T' own' pk' tv') (G : Glob N mo cO P tl K M S T) (hc : ∀ z, cO z = own.count z + cR z) {z : Int} (hz : 0 < cR z) : M'.hdr z = M.hdr z ∧ z ∉ own := by
  have h1 := G.cnt z
  have h2 := hc z
  obtain ⟨h24, hS, hr⟩ := G.ownN (z := z) (by omega)
  rw [if_pos h24] at h1
  have ho : z ∉ own := fun h => by have := List.count_pos_iff.2 h; omega
  refine ⟨Classical.byContradiction fun hn => ?_, ho⟩
  rcases (E.hdr z hn).1 with h | h
  · exact ho h
  · omega
theorem Glob.thread (G : Glob N mo cO P tl K M S T) (E : Ef mo M S T own pk tv M' S' T' own' pk' tv') (hc : ∀ z, cO z = own.count z + cR z) (hc' : ∀ z, cO' z = own'.count z + cR z) (hP : ∀ q, P q ↔ q ∈ pk ∨ PR q) (hP' : ∀ q, P' q ↔ q ∈ pk' ∨ PR q) (ht : ∀ g, tl g = tv g + tR g) (ht' : ∀ g, tl' g = tv' g + tR g) :
    Glob N mo cO' P' tl' K M' S' T' := by
  refine ⟨G.nn, E.stk, fun z => ?_, fun z hz => ?_, fun z hz => ?_, fun g h0 h1 => E.rng g (G.rng g h0 h1), fun g h0 h1 => ?_, fun g h0 h1 => by rw [E.sst]; exact G.st g h0 h1, fun g h0 h1 => by rw [E.sst]; exact G.dr g h0 h1, fun h => by rw [E.sst]; exact G.up h, fun g h0 h1 h => ?_, fun z h0 h1 h2 h3 => ?_⟩
  · have h1 := G.cnt z
    have h2 := E.cnt z
    have h3 := hc z
    have h4 := hc' z
    omega
  · by_cases h : M'.hdr z = M.hdr z
    · rw [h]; exact G.frm z hz
    · exact (E.hdr z h).2
  · rcases E.sn z hz with ⟨h1, h2⟩ | h
    · rw [h2]; exact G.sn z h1
    · exact h
  · have h2 := G.sum g h0 h1
    have h3 := E.sum g
    have h4 := ht g
    have h5 := ht' g
    omega
  · rw [E.sst] at h
    obtain ⟨n1, n2⟩ := G.none g h0 h1 h
    refine ⟨fun z hz => ?_, fun q hq h9 e => ?_⟩
    · have h2 := n1 z hz
      have h3 := rz_le M' z
      by_cases h4 : rz M' z = 0
      · obtain ⟨q, hq, q9, qs⟩ := E.out z h2 h4
        exact absurd (by rw [qs]; exact hz) (n2 q ((hP q).2 (.inl hq)) q9)
      · omega
    · rcases (hP' q).1 hq with hq | hq
      · have h2 := E.nine q hq h9
        rw [e] at h2
        rcases h with h | ⟨k1, k2, k3⟩
        · omega
        · have := (G.dr g h0 (by have := G.nn; omega)).2 ⟨k1, k3, by omega, by omega⟩
          omega
      · exact n2 q ((hP q).2 (.inr hq)) h9 e
  · rw [E.sst] at h2
    rcases E.resp z h2 h3 with ⟨q, hq, hR⟩ | ⟨he, hno⟩
    · exact .inl ⟨q, (hP' q).2 (.inl hq), hR⟩
    · rw [he] at h3
      rcases G.resp z h0 h1 h2 h3 with ⟨q, hq, hR⟩ | ht
      · rcases (hP q).1 hq with hq | hq
        · exact absurd hR (hno q hq)
        · exact .inl ⟨q, (hP' q).2 (.inr hq), hR.1, hR.2.1, hR.2.2.1, by rw [he]; exact hR.2.2.2⟩
      · obtain ⟨t1, t2, t3⟩ := ht
        exact .inr ⟨t1, t2, by rw [he]; exact t3⟩
theorem PkG.keep {o : PO} (h : PkG M S T mo o) (hh : ∀ z ∈ ownQ o, M'.hdr z = M.hdr z) (mv : ∃ x, (∀ z ∈ ownQ o, z ≠ x) ∧ Mv 24 x M.ms S T M'.ms S' T') : PkG M' S' T' mo o := by
  obtain ⟨h1, h2, h3, h4⟩ := h
  refine ⟨h1, h2, h3, ?_⟩
  rcases h4 with ⟨a, b⟩ | ⟨g, h4⟩
  · exact .inl ⟨a, by rw [hh o.sl (by simp [ownQ, a])]; exact b⟩
  · refine .inr ⟨g, ?_⟩
    rcases h4 with ⟨a, b⟩ | h | h | h | ⟨a, b, c⟩
    · exact .inl ⟨a, by rw [hh o.sl (by simp [ownQ, a])]; exact b⟩
    · exact .inr (.inl h)
    · exact .inr (.inr (.inl h))
    · exact .inr (.inr (.inr (.inl h)))
    · obtain ⟨x, hx, hm⟩ := mv
      exact .inr (.inr (.inr (.inr ⟨a, by rw [hh o.sl (by simp [ownQ, a])]; exact b, hm _ (fun y hy => by simp [pend] at hy; rw [hy, h3]; exact hx o.sl (by simp [ownQ, a])) c⟩)))
theorem OkG.keep {op : AO} (h : OkG M S T mo op) (hh : ∀ z ∈ ownL op, M'.hdr z = M.hdr z) (mv : ∃ x, (∀ z ∈ ownL op, z ≠ x) ∧ Mv 24 x M.ms S T M'.ms S' T') : OkG M' S' T' mo op := by
  cases op with
  | no => trivial
  | al o =>
    obtain ⟨h1, h2⟩ := h
    refine ⟨h1, ?_⟩
    rcases h2 with ⟨a, b⟩ | ⟨hin, ⟨a, b⟩ | ⟨a, b, c, d⟩ | ⟨a, b, c⟩⟩
    · obtain ⟨x, _, hm⟩ := mv
      exact .inl ⟨a, hm _ (fun y hy => by simp [pend] at hy) b⟩
    · have := hh o.sl (by simp only [ownL]; rw [if_neg (by omega), if_neg (by omega)]; simp)
      exact .inr ⟨hin, .inl ⟨a, by rw [this]; exact b⟩⟩
    · have e : ownL (.al o) = ownQ o.pk := by simp only [ownL]; rw [if_neg (by omega), if_pos a]
      rw [e] at hh mv
      exact .inr ⟨hin, .inr (.inl ⟨a, b, c, d.keep hh mv⟩)⟩
    · have := hh o.sl (by simp only [ownL]; rw [if_neg (by omega), if_neg (by omega)]; simp)
      exact .inr ⟨hin, .inr (.inr ⟨a, by rw [this]; exact b, c.trans this.symm⟩)⟩
  | fr o =>
    obtain ⟨h1, hin, h2⟩ := h
    refine ⟨h1, hin, ?_⟩
    have e1 : ¬ (o.ln = 3 ∨ o.ln = 4) → o.ln ≠ 6 → M'.hdr o.sl = M.hdr o.sl ∧ o.sl ∈ ownL (.fr o) := fun a b => by
      have : o.sl ∈ ownL (.fr o) := by simp only [ownL]; rw [if_neg a, if_neg b]; simp
      exact ⟨hh _ this, this⟩
    rcases h2 with ⟨a, b⟩ | ⟨a, b, c⟩ | a | a | ⟨a, b⟩ | ⟨a, b, c, d⟩ | ⟨a, b, c, d⟩
    · exact .inl ⟨a, by rw [(e1 (by omega) (by omega)).1]; exact b⟩
    · exact .inr (.inl ⟨a, by rw [(e1 (by omega) (by omega)).1]; exact b, c.trans (e1 (by omega) (by omega)).1.symm⟩)
    · exact .inr (.inr (.inl a))
    · exact .inr (.inr (.inr (.inl a)))
    · exact .inr (.inr (.inr (.inr (.inl ⟨a, by rw [(e1 (by omega) (by omega)).1]; exact b⟩))))
    · have e : ownL (.fr o) = ownQ o.pk := by simp only [ownL]; rw [if_neg (by omega), if_pos a]
      rw [e] at hh mv
      exact .inr (.inr (.inr (.inr (.inr (.inl ⟨a, b, c, d.keep hh mv⟩)))))
    · obtain ⟨k1, k2⟩ := e1 (by omega) (by omega)
      obtain ⟨x, hx, hm⟩ := mv
      exact .inr (.inr (.inr (.inr (.inr (.inr ⟨a, by rw [k1]; exact b, c, hm _ (fun y hy => by simp [pend] at hy; rw [hy, c]; exact hx o.sl k2) d⟩)))))
end
end Go.Proofs.YtmjcbjcnmgleaaaGreatDoor
