/-
  One step of an Alloc and of a Free in plain words; no condition.
  Threads that alloc and free, in plain words: what holds between their steps, and that each step keeps it; no condition.
  Threads that alloc and free, in plain words: how they begin, whole steps, what the law asks in the end; no condition.
-/
import Derived.Test.YtmjcbjcnmgleaaaGreatDoorH5
namespace Go.Proofs.YtmjcbjcnmgleaaaGreatDoor
open Go.RowKit Go.Maps

section
variable {n : Nat} {S : List Int} {T : Int} {M : MA} {mo : Int} {lst : Int → Int}
def AlOk (n : Nat) (M : MA) (S : List Int) (T mo : Int) (lst : Int → Int) (o : AlO) : Prop :=
  o.got = false ∧ ((o.ln = 1 ∧ OpOk n M.ms S T (.pop o.pop)) ∨ ((0 ≤ o.sl ∧ o.sl < n) ∧
    (((o.ln = 2 ∨ o.ln = 4 ∨ o.ln = 5 ∨ o.ln = 6) ∧ Hg M mo lst 0 o.sl) ∨ (o.ln = 3 ∧ o.pk.sl = o.sl ∧ PkOk n M S T mo lst o.pk) ∨ (o.ln = 7 ∧ M.hdr o.sl = headerW 0 (gW o.w) ∧ lst o.sl ≤ gW o.w ∧ 0 ≤ gW o.w ∧ gW o.w ≤ mo))))
def FrOk (n : Nat) (M : MA) (S : List Int) (T mo : Int) (lst : Int → Int) (o : FrO) : Prop :=
  (0 ≤ o.sl ∧ o.sl < n) ∧ o.mo = mo ∧
    ((o.ln = 1 ∧ ∃ g, M.hdr o.sl = headerW 1 g ∧ lst o.sl ≤ g + 1 ∧ 0 ≤ g ∧ g ≤ mo) ∨ (o.ln = 2 ∧ ∃ g, gW o.w = g ∧ lst o.sl ≤ g + 1 ∧ 0 ≤ g ∧ g ≤ mo) ∨ ((o.ln = 3 ∨ o.ln = 4) ∧ ∃ g, M.hdr o.sl = headerW 4 g ∧ 0 ≤ g ∧ g ≤ mo)
      ∨ (o.ln = 5 ∧ Hg M mo lst 0 o.sl) ∨ (o.ln = 6 ∧ o.pk.sl = o.sl ∧ PkOk n M S T mo lst o.pk) ∨ (o.ln = 7 ∧ Hg M mo lst 0 o.sl ∧ o.psh.to = o.sl ∧ OpOk n M.ms S T (.push o.psh)))
def AOk (n : Nat) (M : MA) (S : List Int) (T mo : Int) (lst : Int → Int) : AO → Prop
  | .no => True
  | .al o => AlOk n M S T mo lst o
  | .fr o => FrOk n M S T mo lst o
/-- How many steps are left at most, if nobody else steps. -/
def remA (M : MA) (l : Nat) : AO → Nat
  | .no => 0
  | .al o => if o.ln = 1 then 40 * l + remF M.ms (.pop o.pop) else if o.ln = 2 then 40 * l + 30 else if o.ln = 3 then 40 * (l + wpP M o.pk) + 6 + remP M o.pk else if o.ln = 4 then 4 else if o.ln = 5 then 3 else if o.ln = 6 then 2 else 1
  | .fr o => if o.ln = 1 then 33 else if o.ln = 2 then 32 else if o.ln = 3 then 2 else if o.ln = 4 then (if M.spk (segF o.sl) = o.n then 1 else 3) else if o.ln = 5 then 31 else if o.ln = 6 then 6 + remP M o.pk else remF M.ms (.push o.psh)
/-- What a step makes: of the memory, of what is under way, what it has got, what is put aside. -/
structure G1 (n : Nat) (mo : Int) (lst : Int → Int) (M : MA) (S : List Int) (T : Int) (op : AO) (x : Int) (M' : MA) (S' : List Int) (T' : Int) (op' : AO) (gain : List (Int × Int)) (Rn : List Int) : Prop where
  lv : Lv n x M S T M' S' T'
  xin : x ∈ S ∨ x ∈ pendA op ∨ x < 0
  cnt : ∀ z, S'.count z + Rn.count z + (gain.map (·.1)).count z + (pendA op').count z = S.count z + (pendA op).count z
  rn : ∀ z ∈ Rn, Hg M' mo lst 3 z ∨ ∃ g, M'.hdr z = headerW 4 g ∧ 0 ≤ g ∧ g ≤ mo
  sn : ∀ z ∈ S', Hg M' mo lst 0 z
  gn : ∀ p ∈ gain, M'.hdr p.1 = headerW 1 p.2 ∧ lst p.1 ≤ p.2 ∧ 0 ≤ p.2 ∧ p.2 ≤ mo
  g1 : gain.length ≤ 1
  ok : AOk n M' S' T' mo lst op'
  tell : ∀ g, M'.spk g + tellN op g = M.spk g + tellN op' g + ((Rn.map segF).count g : Nat)
  rem : op' = .no ∨ remA M' S'.length op' + 1 ≤ remA M S.length op
theorem Hg.move {M' : MA} {st z : Int} (h : Hg M mo lst st z) (e : M'.hdr z = M.hdr z) : Hg M' mo lst st z := by
  obtain ⟨g, h⟩ := h
  exact ⟨g, e.trans h.1, h.2⟩
theorem pend_al (o : AlO) (h : o.ln ≠ 1) : pendA (.al o) = [o.sl] := by simp [pendA, h]
def stepAl (o : AlO) (M : MA) : AO := if (alF o M).1.ln = 0 then .no else .al (alF o M).1
def gainAl (o : AlO) (M : MA) : List (Int × Int) := if (alF o M).1.ln = 0 ∧ (alF o M).1.got = true then [((alF o M).1.sl, gW (alF o M).1.w)] else []
def stepFr (o : FrO) (M : MA) : AO := if (frF o M).1.ln = 0 then .no else .fr (frF o M).1

theorem al_step (stk : Stk M.ms S T) (hn : n ≤ 60) (hT : T + 1 < 1000000) (hS : ∀ z ∈ S, (0 ≤ z ∧ z < n) ∧ Hg M mo lst 0 z) {o : AlO} (hnS : ∀ z ∈ pendA (.al o), z ∉ S) (ok : AlOk n M S T mo lst o) (hmo : mo < 4294967296) (hsp : ∀ g, (tellN (.al o) g : Int) ≤ M.spk g) (hsp2 : ∀ g, M.spk g < 1000) :
    ∃ x S' T' Rn, G1 n mo lst M S T (.al o) x (alF o M).2 S' T' (stepAl o M) (gainAl o M) Rn := by
  obtain ⟨ln, pop, sl, w, pk, got⟩ := o
  obtain ⟨hg, ok⟩ := ok
  simp only at hg ok
  subst hg
  have hS' : ∀ z ∈ S, Hg M mo lst 0 z := fun z hz => (hS z hz).2
  have pure_ : ∀ (l' : Int) (pk' : PO) (w' : Int), ln ≠ 1 → ln ≠ 3 → l' ≠ 0 → l' ≠ 1 → (l' = 3 → tlP pk' = 0) → (0 ≤ sl ∧ sl < n) → alF ⟨ln, pop, sl, w, pk, false⟩ M = (⟨l', pop, sl, w', pk', false⟩, M) → AlOk n M S T mo lst ⟨l', pop, sl, w', pk', false⟩ → remA M S.length (.al ⟨l', pop, sl, w', pk', false⟩) + 1 ≤ remA M S.length (.al ⟨ln, pop, sl, w, pk, false⟩) → ∃ x S' T' Rn, G1 n mo lst M S T (.al ⟨ln, pop, sl, w, pk, false⟩) x (alF ⟨ln, pop, sl, w, pk, false⟩ M).2 S' T' (stepAl ⟨ln, pop, sl, w, pk, false⟩ M) (gainAl ⟨ln, pop, sl, w, pk, false⟩ M) Rn := by
    intro l' pk' w' h1 h3 h0' h1' h3' _ e hok hr
    have es : stepAl ⟨ln, pop, sl, w, pk, false⟩ M = .al ⟨l', pop, sl, w', pk', false⟩ := by simp [stepAl, e, h0']
    have eg : gainAl ⟨ln, pop, sl, w, pk, false⟩ M = [] := by simp [gainAl, e]
    rw [es, eg, e]
    refine ⟨sl, S, T, [], Lv.refl stk _, .inr (.inl (by simp [pendA, h1])), fun z => by simp [pendA, h1, h1'], by simp, hS', by simp, by simp, hok, fun g => ?_, .inr hr⟩
    by_cases h : l' = 3
    · simp [tellN, h3, h3' h]
    · simp [tellN, h3, h]
  rcases ok with ⟨rfl, ho⟩ | ⟨hin, ⟨hl, hh⟩ | ⟨rfl, hpk, ho⟩ | ⟨rfl, hh, g0, g1, g2⟩⟩
  · -- its Pop
    obtain ⟨S', T', h1, h2, h3, h4, h5, h6⟩ := popA_step (n := n) stk hT ho (-1)
    rcases h6 with ⟨k1, k2, k3, k4⟩ | ⟨k1, k2, k3, k4⟩ | ⟨k1, k2, k3, k4⟩
    · have e : alF ⟨1, pop, sl, w, pk, false⟩ M = (⟨1, (popF pop M.ms).1, sl, w, pk, false⟩, { M with ms := (popF pop M.ms).2 }) := by simp [alF, k1]
      have es : stepAl ⟨1, pop, sl, w, pk, false⟩ M = .al ⟨1, (popF pop M.ms).1, sl, w, pk, false⟩ := by simp [stepAl, e]
      have eg : gainAl ⟨1, pop, sl, w, pk, false⟩ M = [] := by simp [gainAl, e]
      rw [es, eg, e]
      subst k2
      exact ⟨-1, S', T', [], ⟨h1, h2, h3, h4, fun _ _ => rfl, rfl, fun _ _ => rfl⟩, .inr (.inr (by decide)), fun z => by simp [pendA], by simp, hS', by simp, by simp, ⟨rfl, .inl ⟨rfl, k3⟩⟩, fun g => by simp [tellN], .inr (by simp only [remA]; simp; omega)⟩
    · have e : alF ⟨1, pop, sl, w, pk, false⟩ M = (⟨0, (popF pop M.ms).1, sl, w, pk, false⟩, { M with ms := (popF pop M.ms).2 }) := by simp [alF, k1, k2]
      have es : stepAl ⟨1, pop, sl, w, pk, false⟩ M = .no := by simp [stepAl, e]
      have eg : gainAl ⟨1, pop, sl, w, pk, false⟩ M = [] := by simp [gainAl, e]
      rw [es, eg, e]
      subst k3
      exact ⟨-1, S', T', [], ⟨h1, h2, h3, h4, fun _ _ => rfl, rfl, fun _ _ => rfl⟩, .inr (.inr (by decide)), fun z => by simp [pendA], by simp, hS', by simp, by simp, trivial, fun g => by simp [tellN], .inl rfl⟩
    · have hz : ¬ wSlot (popF pop M.ms).1.h < 0 := by omega
      have e : alF ⟨1, pop, sl, w, pk, false⟩ M = (⟨2, (popF pop M.ms).1, wSlot (popF pop M.ms).1.h, w, pk, false⟩, { M with ms := (popF pop M.ms).2 }) := by simp [alF, k1, hz]
      have es : stepAl ⟨1, pop, sl, w, pk, false⟩ M = .al ⟨2, (popF pop M.ms).1, wSlot (popF pop M.ms).1.h, w, pk, false⟩ := by simp [stepAl, e]
      have eg : gainAl ⟨1, pop, sl, w, pk, false⟩ M = [] := by simp [gainAl, e]
      rw [es, eg, e]
      generalize wSlot (popF pop M.ms).1.h = z0 at *
      subst k3
      refine ⟨-1, S', T', [], ⟨h1, h2, h3, h4, fun _ _ => rfl, rfl, fun _ _ => rfl⟩, .inr (.inr (by decide)), fun z => by simp only [pendA]; simp [List.count_cons]; try omega, by simp, fun z hz => hS' z (List.mem_cons_of_mem _ hz), by simp, by simp, ⟨rfl, .inr ⟨(hS z0 (by simp)).1, .inl ⟨.inl rfl, hS' z0 (by simp)⟩⟩⟩, fun g => by simp [tellN], .inr ?_⟩
      simp only [remA]
      simp
      omega
  · -- lines 2, 4, 5 and 6
    rcases hl with rfl | rfl | rfl | rfl
    · by_cases hc : M.sst (segF sl) = 2
      · refine pure_ 3 (newPark sl) w (by decide) (by decide) (by decide) (by decide) (fun _ => by simp [tlP, newPark]) hin (by simp [alF, hc]) ⟨rfl, .inr ⟨hin, .inr (.inl ⟨rfl, rfl, hin, .inl rfl, rfl, .inl ⟨rfl, hh⟩⟩)⟩⟩ ?_
        simp [remA, remP, wpP, newPark, hc]
      · refine pure_ 4 pk w (by decide) (by decide) (by decide) (by decide) (fun h => by cases h) hin (by simp [alF, hc]) ⟨rfl, .inr ⟨hin, .inl ⟨.inr (.inl rfl), hh⟩⟩⟩ ?_
        simp [remA]
    · exact pure_ 5 pk w (by decide) (by decide) (by decide) (by decide) (fun h => by cases h) hin (by simp [alF]) ⟨rfl, .inr ⟨hin, .inl ⟨.inr (.inr (.inl rfl)), hh⟩⟩⟩ (by simp [remA])
    · exact pure_ 6 pk w (by decide) (by decide) (by decide) (by decide) (fun h => by cases h) hin (by simp [alF]) ⟨rfl, .inr ⟨hin, .inl ⟨.inr (.inr (.inr rfl)), hh⟩⟩⟩ (by simp [remA])
    · refine pure_ 7 pk (M.hdr sl) (by decide) (by decide) (by decide) (by decide) (fun h => by cases h) hin (by simp [alF]) ⟨rfl, .inr ⟨hin, .inr (.inr ⟨rfl, ?_⟩)⟩⟩ (by simp [remA])
      obtain ⟨g, e, g0, g1, g2⟩ := hh
      simp only
      rw [e, gW_header _ _ (by decide) (by decide) g1 (by omega)]
      exact ⟨rfl, g0, g1, g2⟩
  · -- its Park
    have hnp : pk.sl ∉ S := by rw [hpk]; exact hnS sl (by simp [pendA])
    have ht : (tlP pk : Int) ≤ M.spk (segF pk.sl) := by rw [hpk]; simpa [tellN] using hsp (segF sl)
    obtain ⟨S', T', lv, h2, h3⟩ := park_step stk hn hT hnp ho hmo ht (hsp2 _)
    rw [hpk] at lv h2 h3
    have eg : gainAl ⟨3, pop, sl, w, pk, false⟩ M = [] := by simp only [gainAl, alF]; simp; split <;> simp
    have em : (alF ⟨3, pop, sl, w, pk, false⟩ M).2 = (parkF pk M).2 := by simp [alF]
    rw [eg, em]
    rcases h3 with ⟨k1, k2, k3, k4, k5, k6⟩ | ⟨k1, k2, k3, k4, k5⟩ | ⟨k1, k2, k3, k4, k5, k6⟩
    · have es : stepAl ⟨3, pop, sl, w, pk, false⟩ M = .al ⟨3, pop, sl, w, (parkF pk M).1, false⟩ := by simp [stepAl, alF, k1]
      rw [es]
      subst k2
      refine ⟨sl, S', T', [], lv, .inr (.inl (by simp [pendA])), fun z => by simp [pendA], by simp, fun z hz => (hS' z hz).move (lv.hdr z (fun e => hnp (by rw [hpk, ← e]; exact hz))), by simp, by simp, ⟨rfl, .inr ⟨hin, .inr (.inl ⟨rfl, h2, k3⟩)⟩⟩, fun g => ?_, .inr ?_⟩
      · by_cases hg : segF sl = g
        · subst hg; simpa [tellN] using k4
        · simpa [tellN, hg] using lv.spk g (fun e => hg e.symm)
      · simp only [remA, k6]
        simp
        omega
    · have es : stepAl ⟨3, pop, sl, w, pk, false⟩ M = .al ⟨1, ⟨1, 0, 0⟩, sl, w, (parkF pk M).1, false⟩ := by simp [stepAl, alF, k1]
      rw [es]
      subst k2
      refine ⟨sl, S', T', [sl], lv, .inr (.inl (by simp [pendA])), fun z => by simp [pendA], fun z hz => by rw [List.mem_singleton.1 hz]; exact .inl k3, fun z hz => (hS' z hz).move (lv.hdr z (fun e => hnp (by rw [hpk, ← e]; exact hz))), by simp, by simp, ⟨rfl, .inl ⟨rfl, u64_0, .inl rfl⟩⟩, fun g => ?_, .inr ?_⟩
      · by_cases hg : segF sl = g
        · subst hg; simpa [tellN] using k4
        · simpa [tellN, hg] using lv.spk g (fun e => hg e.symm)
      · simp [remA, remF]
        omega
    · have es : stepAl ⟨3, pop, sl, w, pk, false⟩ M = .al ⟨1, ⟨1, 0, 0⟩, sl, w, (parkF pk M).1, false⟩ := by simp [stepAl, alF, k1]
      rw [es]
      subst k2
      refine ⟨sl, _, T', [], lv, .inr (.inl (by simp [pendA])), fun z => by simp [pendA, List.count_cons], by simp, fun z hz => ?_, by simp, by simp, ⟨rfl, .inl ⟨rfl, u64_0, .inl rfl⟩⟩, fun g => ?_, .inr ?_⟩
      · rcases List.mem_cons.1 hz with rfl | hz
        · exact k3
        · exact (hS' z hz).move (lv.hdr z (fun e => hnp (by rw [hpk, ← e]; exact hz)))
      · by_cases hg : segF sl = g
        · subst hg; simpa [tellN] using k4
        · simpa [tellN, hg] using lv.spk g (fun e => hg e.symm)
      · simp [remA, remF, k5]
        omega
  · -- it has one
    have e : alF ⟨7, pop, sl, w, pk, false⟩ M = (⟨0, pop, sl, w, pk, true⟩, M.setH sl (headerW 1 (gW w))) := by simp [alF]
    have es : stepAl ⟨7, pop, sl, w, pk, false⟩ M = .no := by simp [stepAl, e]
    have eg : gainAl ⟨7, pop, sl, w, pk, false⟩ M = [(sl, gW w)] := by simp [gainAl, e]
    have hns : sl ∉ S := hnS sl (by simp [pendA])
    rw [es, eg, e]
    refine ⟨sl, S, T, [], Lv.setH stk _ _, .inr (.inl (by simp [pendA])), fun z => by simp [pendA], by simp, fun z hz => (hS' z hz).move ((Lv.setH (n := n) stk sl _).hdr z fun h => hns (by rw [← h]; exact hz)), fun p hp => ?_, by simp, trivial, fun g => by simp [tellN, MA.setH], .inl rfl⟩
    rw [List.mem_singleton.1 hp]
    exact ⟨by simp [MA.setH], g0, g1, g2⟩
theorem fr_step (stk : Stk M.ms S T) (hn : n ≤ 60) (hT : T + 1 < 1000000) (hS : ∀ z ∈ S, (0 ≤ z ∧ z < n) ∧ Hg M mo lst 0 z) {o : FrO} (hnS : ∀ z ∈ pendA (.fr o), z ∉ S) (ok : FrOk n M S T mo lst o) (hmo : mo < 4294967296) (hsp : ∀ g, (tellN (.fr o) g : Int) ≤ M.spk g) (hsp2 : ∀ g, M.spk g < 1000) :
    ∃ x S' T' Rn, G1 n mo lst M S T (.fr o) x (frF o M).2 S' T' (stepFr o M) [] Rn := by
  obtain ⟨ln, sl, mo', w, nn, pk, psh⟩ := o
  obtain ⟨hin, hmo', ok⟩ := ok
  simp only at hin hmo' ok
  subst hmo'
  have hS' : ∀ z ∈ S, Hg M mo' lst 0 z := fun z hz => (hS z hz).2
  have hns : sl ∉ S := hnS sl (by simp [pendA])
  have hmv : ∀ M' : MA, (∀ z, z ≠ sl → M'.hdr z = M.hdr z) → ∀ z ∈ S, Hg M' mo' lst 0 z := fun M' h z hz => (hS' z hz).move (h z fun e => hns (by rw [← e]; exact hz))
  -- a step that only goes on: the header of its own slot perhaps
  have on_ : ∀ (l' : Int) (w' n' : Int) (pk' : PO) (psh' : OS) (M' : MA), ln ≠ 6 → l' ≠ 0 → (l' = 6 → tlP pk' = 0) → frF ⟨ln, sl, mo', w, nn, pk, psh⟩ M = (⟨l', sl, mo', w', n', pk', psh'⟩, M') → Lv n sl M S T M' S T → M'.spk = M.spk → FrOk n M' S T mo' lst ⟨l', sl, mo', w', n', pk', psh'⟩ → remA M' S.length (.fr ⟨l', sl, mo', w', n', pk', psh'⟩) + 1 ≤ remA M S.length (.fr ⟨ln, sl, mo', w, nn, pk, psh⟩) → ∃ x S' T' Rn, G1 n mo' lst M S T (.fr ⟨ln, sl, mo', w, nn, pk, psh⟩) x (frF ⟨ln, sl, mo', w, nn, pk, psh⟩ M).2 S' T' (stepFr ⟨ln, sl, mo', w, nn, pk, psh⟩ M) [] Rn := by
    intro l' w' n' pk' psh' M' h6 h0' h6' e lv hs hok hr
    have es : stepFr ⟨ln, sl, mo', w, nn, pk, psh⟩ M = .fr ⟨l', sl, mo', w', n', pk', psh'⟩ := by simp [stepFr, e, h0']
    rw [es, e]
    refine ⟨sl, S, T, [], lv, .inr (.inl (by simp [pendA])), fun z => by simp [pendA], by simp, hmv _ lv.hdr, by simp, by simp, hok, fun g => ?_, .inr hr⟩
    simp only [hs]
    by_cases h : l' = 6
    · simp [tellN, h6, h6' h]
    · simp [tellN, h6, h]
  rcases ok with ⟨rfl, g, hh, g0, g1, g2⟩ | ⟨rfl, g, hw, g0, g1, g2⟩ | ⟨hl, g, hh, g1, g2⟩ | ⟨rfl, hh⟩ | ⟨rfl, hpk, ho⟩ | ⟨rfl, hh, hto, ho⟩
  · refine on_ 2 (M.hdr sl) nn pk psh M (by decide) (by decide) (fun h => by cases h) (by simp [frF]) (Lv.refl stk _) rfl ⟨hin, rfl, .inr (.inl ⟨rfl, g, ?_, g0, g1, g2⟩)⟩ (by simp [remA])
    simp only
    rw [hh, gW_header _ _ (by decide) (by decide) g1 (by omega)]
  · by_cases hc : mo' ≤ gW w
    · refine on_ 3 w nn pk psh _ (by decide) (by decide) (fun h => by cases h) (by simp [frF, hc]; rfl) (Lv.setH stk _ _) rfl ⟨hin, rfl, .inr (.inr (.inl ⟨.inl rfl, g, ?_, g1, g2⟩))⟩ (by simp [remA])
      simp [MA.setH, hw]
    · refine on_ 5 w nn pk psh _ (by decide) (by decide) (fun h => by cases h) (by simp [frF, hc]; rfl) (Lv.setH stk _ _) rfl ⟨hin, rfl, .inr (.inr (.inr (.inl ⟨rfl, g + 1, ?_, g0, by omega, by omega⟩)))⟩ (by simp [remA])
      simp [MA.setH, hw]
  · rcases hl with rfl | rfl
    · refine on_ 4 w (M.spk (segF sl)) pk psh M (by decide) (by decide) (fun h => by cases h) (by simp [frF]) (Lv.refl stk _) rfl ⟨hin, rfl, .inr (.inr (.inl ⟨.inr rfl, g, hh, g1, g2⟩))⟩ (by simp [remA])
    · by_cases hc : M.spk (segF sl) = nn
      · have e : frF ⟨4, sl, mo', w, nn, pk, psh⟩ M = (⟨0, sl, mo', w, nn, pk, psh⟩, M.setP (segF sl) (up64 nn)) := by simp [frF, hc]
        have es : stepFr ⟨4, sl, mo', w, nn, pk, psh⟩ M = .no := by simp [stepFr, e]
        rw [es, e]
        refine ⟨sl, S, T, [sl], Lv.setP stk _ _, .inr (.inl (by simp [pendA])), fun z => by simp [pendA], fun z hz => by rw [List.mem_singleton.1 hz]; exact .inr ⟨g, hh, g1, g2⟩, hS', by simp, by simp, trivial, fun g => ?_, .inl rfl⟩
        by_cases hg : segF sl = g
        · subst hg
          have h0 : 0 ≤ M.spk (segF sl) := by simpa [tellN] using hsp (segF sl)
          have h1 := hsp2 (segF sl)
          simp [tellN, MA.setP, up64]
          omega
        · have hg' : ¬ g = segF sl := fun e => hg e.symm
          simp [tellN, MA.setP, hg, hg']
      · refine on_ 3 w nn pk psh M (by decide) (by decide) (fun h => by cases h) (by simp [frF, hc]) (Lv.refl stk _) rfl ⟨hin, rfl, .inr (.inr (.inl ⟨.inl rfl, g, hh, g1, g2⟩))⟩ (by simp [remA, hc])
  · by_cases hc : M.sst (segF sl) = 2
    · refine on_ 6 w nn (newPark sl) psh M (by decide) (by decide) (fun _ => by simp [tlP, newPark]) (by simp [frF, hc]) (Lv.refl stk _) rfl ⟨hin, rfl, .inr (.inr (.inr (.inr (.inl ⟨rfl, rfl, hin, .inl rfl, rfl, .inl ⟨rfl, hh⟩⟩))))⟩ ?_
      simp [remA, remP, newPark, hc]
    · exact on_ 7 w nn pk ⟨1, 0, sl⟩ M (by decide) (by decide) (fun h => by cases h) (by simp [frF, hc]) (Lv.refl stk _) rfl ⟨hin, rfl, .inr (.inr (.inr (.inr (.inr ⟨rfl, hh, rfl, u64_0, hin, .inl rfl⟩))))⟩ (by simp [remA, remF])
  · -- its Park
    have hnp : pk.sl ∉ S := by rw [hpk]; exact hns
    have ht : (tlP pk : Int) ≤ M.spk (segF pk.sl) := by rw [hpk]; simpa [tellN] using hsp (segF sl)
    obtain ⟨S', T', lv, h2, h3⟩ := park_step stk hn hT hnp ho hmo ht (hsp2 _)
    rw [hpk] at lv h2 h3
    have em : (frF ⟨6, sl, mo', w, nn, pk, psh⟩ M).2 = (parkF pk M).2 := by simp [frF]
    rw [em]
    rcases h3 with ⟨k1, k2, k3, k4, k5, k6⟩ | ⟨k1, k2, k3, k4, k5⟩ | ⟨k1, k2, k3, k4, k5, k6⟩
    · have es : stepFr ⟨6, sl, mo', w, nn, pk, psh⟩ M = .fr ⟨6, sl, mo', w, nn, (parkF pk M).1, psh⟩ := by simp [stepFr, frF, k1]
      rw [es]
      subst k2
      refine ⟨sl, S', T', [], lv, .inr (.inl (by simp [pendA])), fun z => by simp [pendA], by simp, hmv _ lv.hdr, by simp, by simp, ⟨hin, rfl, .inr (.inr (.inr (.inr (.inl ⟨rfl, h2, k3⟩))))⟩, fun g => ?_, .inr ?_⟩
      · by_cases hg : segF sl = g
        · subst hg; simpa [tellN] using k4
        · simpa [tellN, hg] using lv.spk g (fun e => hg e.symm)
      · simp [remA]
        omega
    · have es : stepFr ⟨6, sl, mo', w, nn, pk, psh⟩ M = .no := by simp [stepFr, frF, k1]
      rw [es]
      subst k2
      refine ⟨sl, S', T', [sl], lv, .inr (.inl (by simp [pendA])), fun z => by simp [pendA], fun z hz => by rw [List.mem_singleton.1 hz]; exact .inl k3, hmv _ lv.hdr, by simp, by simp, trivial, fun g => ?_, .inl rfl⟩
      by_cases hg : segF sl = g
      · subst hg; simpa [tellN] using k4
      · simpa [tellN, hg] using lv.spk g (fun e => hg e.symm)
    · have es : stepFr ⟨6, sl, mo', w, nn, pk, psh⟩ M = .no := by simp [stepFr, frF, k1]
      rw [es]
      subst k2
      refine ⟨sl, _, T', [], lv, .inr (.inl (by simp [pendA])), fun z => by simp [pendA, List.count_cons], by simp, fun z hz => ?_, by simp, by simp, trivial, fun g => ?_, .inl rfl⟩
      · rcases List.mem_cons.1 hz with rfl | hz
        · exact k3
        · exact hmv _ lv.hdr z hz
      · by_cases hg : segF sl = g
        · subst hg; simpa [tellN] using k4
        · simpa [tellN, hg] using lv.spk g (fun e => hg e.symm)
  · -- its Push
    obtain ⟨S', T', h1, h2, h3, h4, h5, h6⟩ := pushA_step stk hn hT (o := psh) (by rw [hto]; exact hns) ho
    rw [hto] at h5 h4 h6
    have em : (frF ⟨7, sl, mo', w, nn, pk, psh⟩ M).2 = { M with ms := (pushF psh M.ms).2 } := by simp [frF]
    rw [em]
    rcases h6 with ⟨k1, k2, k3, k4⟩ | ⟨k1, k2, k3⟩
    · have es : stepFr ⟨7, sl, mo', w, nn, pk, psh⟩ M = .fr ⟨7, sl, mo', w, nn, pk, (pushF psh M.ms).1⟩ := by simp [stepFr, frF, k1]
      rw [es]
      subst k2
      exact ⟨sl, S', T', [], ⟨h1, h2, h3, h5, fun _ _ => rfl, rfl, fun _ _ => rfl⟩, .inr (.inl (by simp [pendA])), fun z => by simp [pendA], by simp, hS', by simp, by simp, ⟨hin, rfl, .inr (.inr (.inr (.inr (.inr ⟨rfl, hh, h4, k3⟩))))⟩, fun g => by simp [tellN], .inr (by simpa [remA] using k4)⟩
    · have es : stepFr ⟨7, sl, mo', w, nn, pk, psh⟩ M = .no := by simp [stepFr, frF, k1]
      rw [es]
      subst k2
      refine ⟨sl, _, T', [], ⟨h1, h2, h3, h5, fun _ _ => rfl, rfl, fun _ _ => rfl⟩, .inr (.inl (by simp [pendA])), fun z => by simp [pendA, List.count_cons], by simp, fun z hz => ?_, by simp, by simp, trivial, fun g => by simp [tellN], .inl rfl⟩
      rcases List.mem_cons.1 hz with rfl | hz
      · exact hh
      · exact hS' z hz
end
end Go.Proofs.YtmjcbjcnmgleaaaGreatDoor
namespace Go.Proofs.YtmjcbjcnmgleaaaGreatDoor
open Go.RowKit Go.Maps

def updA (th : Nat → TA) (k : Nat) (t : TA) : Nat → TA := fun j => if j = k then t else th j
theorem updA_same (th : Nat → TA) (k : Nat) (t : TA) : updA th k t k = t := by simp [updA]
theorem updA_ne (th : Nat → TA) {j k : Nat} (t : TA) (h : j ≠ k) : updA th k t j = th j := by simp [updA, h]
/-- How often a slot is there. -/
def cntA (S R : List Int) (th : Nat → TA) (z : Int) : Nat := S.count z + R.count z + sum6 fun k => (ownA (th k)).count z
/-- What holds between two steps. -/
structure InvA (n : Nat) (mo : Int) (th : Nat → TA) (S R : List Int) (T : Int) (lst : Int → Int) (M : MA) : Prop where
  stk : Stk M.ms S T
  cnt : ∀ z, cntA S R th z = if 0 ≤ z ∧ z < n then 1 else 0
  sn : ∀ z ∈ S, Hg M mo lst 0 z
  rn : ∀ z ∈ R, Hg M mo lst 3 z ∨ ∃ g, M.hdr z = headerW 4 g ∧ 0 ≤ g ∧ g ≤ mo
  held : ∀ k, k < 6 → ∀ p ∈ (th k).held, M.hdr p.1 = headerW 1 p.2 ∧ lst p.1 = p.2 + 1 ∧ 0 ≤ p.2 ∧ p.2 ≤ mo
  ops : ∀ k, k < 6 → AOk n M S T mo lst (th k).op
  tell : ∀ g, M.spk g = ((R.map segF).count g + sum6 (fun k => tellN (th k).op g) : Nat)
/-- The generations that come next, where one has been got. -/
def lstG (lst : Int → Int) : List (Int × Int) → Int → Int
  | [], z => lst z
  | p :: _, z => if z = p.1 then p.2 + 1 else lst z
theorem lstG_ne (lst : Int → Int) {gain : List (Int × Int)} {z : Int} (h : z ∉ gain.map (·.1)) : lstG lst gain z = lst z := by
  cases gain with
  | nil => rfl
  | cons p r => simp only [lstG]; rw [if_neg (fun e => h (by rw [e]; simp))]
theorem fit_le : ∀ (n : Nat) (R : List Int), R.Nodup → (∀ z ∈ R, 0 ≤ z ∧ z < n) → R.length ≤ n := by
  intro n
  induction n with
  | zero =>
    intro R _ h
    cases R with
    | nil => simp
    | cons x r => have := h x (by simp); omega
  | succ n ih =>
    intro R hd h
    have h1 : (R.erase (n : Int)).length ≤ n := ih _ (hd.erase _) fun z hz => by
      have hm := (List.Nodup.mem_erase_iff hd).1 hz
      have := h z hm.2
      have := hm.1
      omega
    have h2 : R.length ≤ (R.erase (n : Int)).length + 1 := by
      rw [List.length_erase]
      split <;> omega
    omega
theorem tellN_le (op : AO) (g : Int) : tellN op g ≤ 1 := by
  cases op with
  | no => simp [tellN]
  | al o => simp only [tellN, tlP]; repeat' split
            all_goals omega
  | fr o => simp only [tellN, tlP]; repeat' split
            all_goals omega
theorem sum6_le6 (f : Nat → Nat) (h : ∀ k, f k ≤ 1) : sum6 f ≤ 6 := by
  unfold sum6
  have a := h 0; have b := h 1; have c := h 2; have d := h 3; have e := h 4; have i := h 5
  omega
section
variable {n : Nat} {mo : Int} {th : Nat → TA} {S R : List Int} {T : Int} {lst : Int → Int} {M : MA}
theorem InvA.one (I : InvA n mo th S R T lst M) (z : Int) : cntA S R th z ≤ 1 := by
  rw [I.cnt z]; split <;> omega
theorem InvA.mem (I : InvA n mo th S R T lst M) {z : Int} (h : 0 < cntA S R th z) : 0 ≤ z ∧ z < n := by
  have := I.cnt z
  split at this
  · assumption
  · omega
theorem InvA.inS (I : InvA n mo th S R T lst M) {z : Int} (h : z ∈ S) : 0 ≤ z ∧ z < n := by
  refine I.mem ?_
  have := List.count_pos_iff.2 h
  unfold cntA; omega
theorem InvA.inR (I : InvA n mo th S R T lst M) {z : Int} (h : z ∈ R) : 0 ≤ z ∧ z < n := by
  refine I.mem ?_
  have := List.count_pos_iff.2 h
  unfold cntA; omega
theorem InvA.owned (I : InvA n mo th S R T lst M) {k : Nat} (hk : k < 6) {z : Int} (h : z ∈ ownA (th k)) : 0 ≤ z ∧ z < n := by
  refine I.mem ?_
  have := List.count_pos_iff.2 h
  have := sum6_ge (fun k => (ownA (th k)).count z) hk
  unfold cntA; omega
theorem InvA.notS (I : InvA n mo th S R T lst M) {k : Nat} (hk : k < 6) {z : Int} (h : z ∈ ownA (th k)) : z ∉ S := by
  intro hs
  have h1 := List.count_pos_iff.2 h
  have h2 := sum6_ge (fun k => (ownA (th k)).count z) hk
  have h3 := List.count_pos_iff.2 hs
  have := I.one z
  unfold cntA at this
  omega
theorem InvA.notR (I : InvA n mo th S R T lst M) {k : Nat} (hk : k < 6) {z : Int} (h : z ∈ ownA (th k)) : z ∉ R := by
  intro hs
  have h1 := List.count_pos_iff.2 h
  have h2 := sum6_ge (fun k => (ownA (th k)).count z) hk
  have h3 := List.count_pos_iff.2 hs
  have := I.one z
  unfold cntA at this
  omega
theorem InvA.apart (I : InvA n mo th S R T lst M) {z : Int} (h : z ∈ S) : z ∉ R := by
  intro hs
  have h1 := List.count_pos_iff.2 h
  have h3 := List.count_pos_iff.2 hs
  have := I.one z
  unfold cntA at this
  omega
theorem InvA.not2 (I : InvA n mo th S R T lst M) {j k : Nat} (hj : j < 6) (hk : k < 6) (hne : j ≠ k) {z : Int} (h : z ∈ ownA (th j)) : z ∉ ownA (th k) := by
  intro hs
  have h1 := List.count_pos_iff.2 h
  have h2 := sum6_ge2 (fun k => (ownA (th k)).count z) hj hk hne
  have h3 := List.count_pos_iff.2 hs
  have := I.one z
  unfold cntA at this
  omega
theorem InvA.nodup (I : InvA n mo th S R T lst M) : S.Nodup ∧ R.Nodup := by
  constructor
  · rw [List.nodup_iff_count]; intro z; have := I.one z; unfold cntA at this; omega
  · rw [List.nodup_iff_count]; intro z; have := I.one z; unfold cntA at this; omega
theorem InvA.lenS (I : InvA n mo th S R T lst M) : S.length ≤ n := fit_le n S I.nodup.1 fun _ hz => I.inS hz
theorem InvA.lenR (I : InvA n mo th S R T lst M) : R.length ≤ n := fit_le n R I.nodup.2 fun _ hz => I.inR hz
theorem InvA.spk_lt (I : InvA n mo th S R T lst M) (hn : n ≤ 60) (g : Int) : M.spk g < 1000 := by
  rw [I.tell g]
  have h1 : (R.map segF).count g ≤ (R.map segF).length := List.count_le_length
  have h2 := sum6_le6 (fun k => tellN (th k).op g) fun k => tellN_le _ _
  have h3 := I.lenR
  rw [List.length_map] at h1
  omega
theorem InvA.spk_ge (I : InvA n mo th S R T lst M) {k : Nat} (hk : k < 6) (g : Int) : (tellN (th k).op g : Int) ≤ M.spk g := by
  rw [I.tell g]
  have := sum6_ge (fun k => tellN (th k).op g) hk
  omega
/-- What others have under way, behind a step on a slot that is not theirs. -/
theorem AOk.move {M' : MA} {S' : List Int} {T' : Int} {lst' : Int → Int} {x : Int} {op : AO} (k : AOk n M S T mo lst op) (mv : Mv n x M.ms S T M'.ms S' T') (hx : x ∉ pendA op) (hh : ∀ z ∈ pendA op, M'.hdr z = M.hdr z) (hl : ∀ z ∈ pendA op, lst' z = lst z) : AOk n M' S' T' mo lst' op := by
  have hg : ∀ {st z : Int}, z ∈ pendA op → Hg M mo lst st z → Hg M' mo lst' st z := fun hz ⟨g, h1, h2, h3⟩ => ⟨g, (hh _ hz).trans h1, by rw [hl _ hz]; exact h2, h3⟩
  have hp : ∀ {o : PO}, o.sl ∈ pendA op → PkOk n M S T mo lst o → PkOk n M' S' T' mo lst' o := by
    rintro o hz ⟨h1, h2, h3, h4⟩
    refine ⟨h1, h2, h3, ?_⟩
    rcases h4 with ⟨e, h⟩ | ⟨g, e0, e1, e2, e3, h⟩
    · exact .inl ⟨e, hg hz h⟩
    · refine .inr ⟨g, e0, by rw [hl _ hz]; exact e1, e2, e3, ?_⟩
      rcases h with ⟨e, h⟩ | ⟨e, e', h⟩ | ⟨e, h, h'⟩
      · exact .inl ⟨e, (hh _ hz).trans h⟩
      · exact .inr (.inl ⟨e, e', (hh _ hz).trans h⟩)
      · refine .inr (.inr ⟨e, (hh _ hz).trans h, mv _ (fun y hy => ?_) h'⟩)
        rintro rfl
        rw [pend, List.mem_singleton, h3] at hy
        rw [hy] at hx
        exact hx hz
  cases op with
  | no => trivial
  | al o =>
    obtain ⟨h0, h⟩ := k
    refine ⟨h0, ?_⟩
    rcases h with ⟨e, h⟩ | ⟨h1, ⟨e, h⟩ | ⟨e, e', h⟩ | ⟨e, h2, h3⟩⟩
    · exact .inl ⟨e, mv _ (fun y hy => by simp [pend] at hy) h⟩
    · have hz : o.sl ∈ pendA (.al o) := by rw [pend_al o (by omega)]; simp
      exact .inr ⟨h1, .inl ⟨e, hg hz h⟩⟩
    · have hz : o.sl ∈ pendA (.al o) := by rw [pend_al o (by omega)]; simp
      exact .inr ⟨h1, .inr (.inl ⟨e, e', hp (by rw [e']; exact hz) h⟩)⟩
    · have hz : o.sl ∈ pendA (.al o) := by rw [pend_al o (by omega)]; simp
      exact .inr ⟨h1, .inr (.inr ⟨e, (hh _ hz).trans h2, by rw [hl _ hz]; exact h3⟩)⟩
  | fr o =>
    have hz : o.sl ∈ pendA (.fr o) := by simp [pendA]
    obtain ⟨h0, h1, h⟩ := k
    refine ⟨h0, h1, ?_⟩
    rcases h with ⟨e, g, h2, h3, h4⟩ | ⟨e, g, h2, h3, h4⟩ | ⟨e, g, h2, h3⟩ | ⟨e, h⟩ | ⟨e, e', h⟩ | ⟨e, h, e', h'⟩
    · exact .inl ⟨e, g, (hh _ hz).trans h2, by rw [hl _ hz]; exact h3, h4⟩
    · exact .inr (.inl ⟨e, g, h2, by rw [hl _ hz]; exact h3, h4⟩)
    · exact .inr (.inr (.inl ⟨e, g, (hh _ hz).trans h2, h3⟩))
    · exact .inr (.inr (.inr (.inl ⟨e, hg hz h⟩)))
    · exact .inr (.inr (.inr (.inr (.inl ⟨e, e', hp (by rw [e']; exact hz) h⟩))))
    · refine .inr (.inr (.inr (.inr (.inr ⟨e, hg hz h, e', mv _ (fun y hy => ?_) h'⟩))))
      rintro rfl
      rw [pend, List.mem_singleton, e'] at hy
      rw [hy] at hx
      exact hx hz

theorem InvA.put (I : InvA n mo th S R T lst M) {k : Nat} (hk : k < 6) {x : Int} {M' : MA} {S' : List Int} {T' : Int} {op' : AO} {gain : List (Int × Int)} {Rn : List Int} (G : G1 n mo lst M S T (th k).op x M' S' T' op' gain Rn) :
    InvA n mo (updA th k ⟨(th k).held ++ gain, op'⟩) S' (Rn ++ R) T' (lstG lst gain) M' := by
  have hc : ∀ z, cntA S' (Rn ++ R) (updA th k ⟨(th k).held ++ gain, op'⟩) z = cntA S R th z := by
    intro z
    have h := sum6_upd (fun j => (ownA (th j)).count z) (fun j => (ownA (updA th k ⟨(th k).held ++ gain, op'⟩ j)).count z) hk (fun j hj => by rw [updA_ne _ _ hj])
    have := G.cnt z
    rw [updA_same] at h
    simp only [ownA, List.count_append, List.map_append] at h
    unfold cntA
    simp only [List.count_append, ownA] at *
    omega
  -- what k had, or the list: not with others
  have hxo : ∀ j, j < 6 → j ≠ k → x ∉ ownA (th j) := by
    intro j hj hjk hx
    rcases G.xin with h | h | h
    · exact I.notS hj hx h
    · exact I.not2 hj hk hjk hx (by unfold ownA; exact List.mem_append_right _ h)
    · have := (I.owned hj hx).1; omega
  have hxh : x ∉ ((th k).held.map (·.1)) := by
    intro hx
    have h1 := List.count_pos_iff.2 hx
    have hx0 := I.owned hk (z := x) (by unfold ownA; exact List.mem_append_left _ hx)
    rcases G.xin with h | h | h
    · exact I.notS hk (by unfold ownA; exact List.mem_append_left _ hx) h
    · have h2 := List.count_pos_iff.2 h
      have h3 := sum6_ge (fun k => (ownA (th k)).count x) hk
      have := I.one x
      unfold cntA at this
      simp only [ownA, List.count_append] at *
      omega
    · omega
  have hxR : x ∉ R := by
    intro hx
    rcases G.xin with h | h | h
    · exact I.apart h hx
    · exact I.notR hk (by unfold ownA; exact List.mem_append_right _ h) hx
    · have := (I.inR hx).1; omega
  -- what was got was k's, or the list's
  have hgm : ∀ z ∈ gain.map (·.1), z ∈ S ∨ z ∈ pendA (th k).op := by
    intro z hz
    have h1 := List.count_pos_iff.2 hz
    have := G.cnt z
    by_cases h : z ∈ S
    · exact .inl h
    · have := List.count_eq_zero.2 h
      exact .inr (List.count_pos_iff.1 (by omega))
  have hgo : ∀ j, j < 6 → j ≠ k → ∀ z ∈ ownA (th j), z ∉ gain.map (·.1) := by
    intro j hj hjk z hz h
    rcases hgm z h with h | h
    · exact I.notS hj hz h
    · exact I.not2 hj hk hjk hz (by unfold ownA; exact List.mem_append_right _ h)
  have hgh : ∀ z ∈ (th k).held.map (·.1), z ∉ gain.map (·.1) := by
    intro z hz h
    have h1 := List.count_pos_iff.2 hz
    rcases hgm z h with h | h
    · exact I.notS hk (by unfold ownA; exact List.mem_append_left _ hz) h
    · have h2 := List.count_pos_iff.2 h
      have h3 := sum6_ge (fun k => (ownA (th k)).count z) hk
      have := I.one z
      unfold cntA at this
      simp only [ownA, List.count_append] at *
      omega
  have hgR : ∀ z ∈ R, z ∉ gain.map (·.1) := by
    intro z hz h
    rcases hgm z h with h | h
    · exact I.apart h hz
    · exact I.notR hk (by unfold ownA; exact List.mem_append_right _ h) hz
  have hone : ∀ z, S'.count z + Rn.count z + (gain.map (·.1)).count z + (pendA op').count z ≤ 1 := by
    intro z
    have h3 := sum6_ge (fun k => (ownA (th k)).count z) hk
    have := I.one z
    have := G.cnt z
    unfold cntA at *
    simp only [ownA, List.count_append] at *
    omega
  have hgS : ∀ z ∈ S', z ∉ gain.map (·.1) := by
    intro z hz h
    have := List.count_pos_iff.2 h; have := List.count_pos_iff.2 hz; have := hone z; omega
  have hgN : ∀ z ∈ Rn, z ∉ gain.map (·.1) := by
    intro z hz h
    have := List.count_pos_iff.2 h; have := List.count_pos_iff.2 hz; have := hone z; omega
  have hgP : ∀ z ∈ pendA op', z ∉ gain.map (·.1) := by
    intro z hz h
    have := List.count_pos_iff.2 h; have := List.count_pos_iff.2 hz; have := hone z; omega
  have up : ∀ {st z : Int}, z ∉ gain.map (·.1) → Hg M' mo lst st z → Hg M' mo (lstG lst gain) st z := fun hz ⟨g, h1, h2, h3⟩ => ⟨g, h1, by rw [lstG_ne lst hz]; exact h2, h3⟩
  refine ⟨G.lv.stk, fun z => (hc z).trans (I.cnt z), fun z hz => up (hgS z hz) (G.sn z hz), fun z hz => ?_, fun j hj p hp => ?_, fun j hj => ?_, fun g => ?_⟩
  · rcases List.mem_append.1 hz with h | h
    · rcases G.rn z h with e | e
      · exact .inl (up (hgN z h) e)
      · exact .inr e
    · have e0 := G.lv.hdr z (fun e => hxR (by rw [← e]; exact h))
      rcases I.rn z h with e | ⟨g, e1, e2⟩
      · exact .inl (up (hgR z h) (e.move e0))
      · exact .inr ⟨g, e0.trans e1, e2⟩
  · by_cases hjk : j = k
    · subst hjk
      rw [updA_same] at hp
      rcases List.mem_append.1 hp with h | h
      · obtain ⟨e1, e2, e3⟩ := I.held j hj p h
        have hm : p.1 ∈ (th j).held.map (·.1) := List.mem_map_of_mem h
        exact ⟨(G.lv.hdr p.1 (fun e => hxh (by rw [← e]; exact hm))).trans e1, by rw [lstG_ne lst (hgh _ hm)]; exact e2, e3⟩
      · obtain ⟨e1, e2, e3⟩ := G.gn p h
        refine ⟨e1, ?_, e3⟩
        have hl := G.g1
        cases gain with
        | nil => cases h
        | cons q r =>
          have hr : r = [] := by simpa using hl
          subst hr
          rw [List.mem_singleton.1 h]
          simp [lstG]
    · rw [updA_ne _ _ hjk] at hp
      obtain ⟨e1, e2, e3⟩ := I.held j hj p hp
      have hm : p.1 ∈ ownA (th j) := by unfold ownA; exact List.mem_append_left _ (List.mem_map_of_mem hp)
      exact ⟨(G.lv.hdr p.1 (fun e => hxo j hj hjk (by rw [← e]; exact hm))).trans e1, by rw [lstG_ne lst (hgo j hj hjk _ hm)]; exact e2, e3⟩
  · by_cases hjk : j = k
    · subst hjk
      rw [updA_same]
      exact G.ok.move (x := -1) (Mv.refl _) (fun h => by
        have h1 := List.count_pos_iff.2 h
        have := G.cnt (-1)
        have h4 : ¬ (0 : Int) ≤ -1 := by decide
        have h2 : S.count (-1) = 0 := List.count_eq_zero.2 fun h => h4 (I.inS h).1
        have h3 : (pendA (th j).op).count (-1) = 0 := List.count_eq_zero.2 fun h => h4 (I.owned hj (by unfold ownA; exact List.mem_append_right _ h)).1
        omega) (fun _ _ => rfl) (fun z hz => lstG_ne lst (hgP z hz))
    · rw [updA_ne _ _ hjk]
      have hpo : ∀ z ∈ pendA (th j).op, z ∈ ownA (th j) := fun z hz => by unfold ownA; exact List.mem_append_right _ hz
      exact (I.ops j hj).move G.lv.mv (fun h => hxo j hj hjk (hpo _ h)) (fun z hz => G.lv.hdr z (fun e => hxo j hj hjk (by rw [← e]; exact hpo z hz))) (fun z hz => lstG_ne lst (hgo j hj hjk z (hpo z hz)))
  · have h := sum6_upd (fun j => tellN (th j).op g) (fun j => tellN (updA th k ⟨(th k).held ++ gain, op'⟩ j).op g) hk (fun j hj => by rw [updA_ne _ _ hj])
    rw [updA_same] at h
    have h1 := I.tell g
    have h2 := G.tell g
    rw [List.map_append, List.count_append]
    simp only at h
    omega
def stepA (op : AO) (M : MA) : AO := match op with
  | .no => .no
  | .al o => stepAl o M
  | .fr o => stepFr o M
def gainA (op : AO) (M : MA) : List (Int × Int) := match op with
  | .al o => gainAl o M
  | _ => []
def memA (op : AO) (M : MA) : MA := match op with
  | .no => M
  | .al o => (alF o M).2
  | .fr o => (frF o M).2
theorem goA_eq (t : TA) (M : MA) : goA t M = (⟨t.held ++ gainA t.op M, stepA t.op M⟩, memA t.op M) := by
  obtain ⟨h, op⟩ := t
  cases op with
  | no => simp [goA, gainA, stepA, memA]
  | al o =>
    by_cases h0 : (alF o M).1.ln = 0
    · cases hg : (alF o M).1.got <;> simp [goA, gainA, stepA, memA, gainAl, stepAl, h0, hg]
    · simp [goA, gainA, stepA, memA, gainAl, stepAl, h0]
  | fr o =>
    by_cases h0 : (frF o M).1.ln = 0 <;> simp [goA, gainA, stepA, memA, stepFr, h0]
/-- A step of a thread that has something under way. -/
theorem InvA.go (I : InvA n mo th S R T lst M) (hn : n ≤ 60) (hT : T + 1 < 1000000) (hmo : mo < 4294967296) {k : Nat} (hk : k < 6) (hop : (th k).op ≠ .no) :
    ∃ S' R' T', InvA n mo (updA th k (goA (th k) M).1) S' R' T' (lstG lst (gainA (th k).op M)) (goA (th k) M).2 ∧ T ≤ T' ∧ T' ≤ T + 1 ∧ ((goA (th k) M).1.op = .no ∨ remA (goA (th k) M).2 S'.length (goA (th k) M).1.op + 1 ≤ remA M S.length (th k).op)
      ∧ (goA (th k) M).2.sst = M.sst ∧ (gainA (th k).op M).length ≤ 1 ∧ ∀ p ∈ gainA (th k).op M, (0 ≤ p.1 ∧ p.1 < n) ∧ lst p.1 ≤ p.2 ∧ 0 ≤ p.2 ∧ p.2 ≤ mo := by
  have hS : ∀ z ∈ S, (0 ≤ z ∧ z < n) ∧ Hg M mo lst 0 z := fun z hz => ⟨I.inS hz, I.sn z hz⟩
  have hnS : ∀ z ∈ pendA (th k).op, z ∉ S := fun z hz => I.notS hk (by unfold ownA; exact List.mem_append_right _ hz)
  have ok := I.ops k hk
  have main : ∃ x S' T' Rn, G1 n mo lst M S T (th k).op x (memA (th k).op M) S' T' (stepA (th k).op M) (gainA (th k).op M) Rn := by
    have hsp := I.spk_ge hk
    cases e : (th k).op with
    | no => exact absurd e hop
    | al o => rw [e] at hnS ok hsp; exact al_step I.stk hn hT hS hnS ok hmo hsp (I.spk_lt hn)
    | fr o => rw [e] at hnS ok hsp; exact fr_step I.stk hn hT hS hnS ok hmo hsp (I.spk_lt hn)
  obtain ⟨x, S', T', Rn, G⟩ := main
  have J := I.put hk G
  rw [goA_eq]
  refine ⟨S', Rn ++ R, T', J, G.lv.t0, G.lv.t1, G.rem, G.lv.sst, G.g1, fun p hp => ⟨?_, (G.gn p hp).2⟩⟩
  refine J.owned hk (z := p.1) ?_
  rw [updA_same]
  unfold ownA
  exact List.mem_append_left _ (List.mem_map_of_mem (List.mem_append_right _ hp))
theorem InvA.begin (I : InvA n mo th S R T lst M) {k : Nat} (hk : k < 6) (b : Bool) : InvA n mo (updA th k (beginA (th k) b mo)) S R T lst M ∧ (beginA (th k) b mo).op ≠ .no := by
  have hop := I.ops k hk
  have key : ∀ t : TA, (∀ z, (ownA t).count z = (ownA (th k)).count z) → (∀ p ∈ t.held, p ∈ (th k).held) → AOk n M S T mo lst t.op → (∀ g, tellN t.op g = tellN (th k).op g) → InvA n mo (updA th k t) S R T lst M := by
    intro t hc hh ho ht
    refine ⟨I.stk, fun z => ?_, I.sn, I.rn, fun j hj p hp => ?_, fun j hj => ?_, fun g => ?_⟩
    · have h := sum6_upd (fun j => (ownA (th j)).count z) (fun j => (ownA (updA th k t j)).count z) hk (fun j hj => by rw [updA_ne _ _ hj])
      have h1 := I.cnt z
      have h2 := hc z
      rw [updA_same] at h
      unfold cntA at *
      omega
    · by_cases hjk : j = k
      · subst hjk; rw [updA_same] at hp; exact I.held j hj p (hh p hp)
      · rw [updA_ne _ _ hjk] at hp; exact I.held j hj p hp
    · by_cases hjk : j = k
      · subst hjk; rw [updA_same]; exact ho
      · rw [updA_ne _ _ hjk]; exact I.ops j hj
    · have h := sum6_upd (fun j => tellN (th j).op g) (fun j => tellN (updA th k t j).op g) hk (fun j hj => by rw [updA_ne _ _ hj])
      have h1 := I.tell g
      have h2 := ht g
      rw [updA_same] at h
      omega
  have hh := I.held k hk
  have ho := fun z => I.owned hk (z := z)
  generalize th k = t at *
  obtain ⟨held, op⟩ := t
  cases op with
  | al o => exact ⟨key _ (fun _ => rfl) (fun _ h => h) hop (fun _ => rfl), by simp [beginA]⟩
  | fr o => exact ⟨key _ (fun _ => rfl) (fun _ h => h) hop (fun _ => rfl), by simp [beginA]⟩
  | no =>
    by_cases h : b = true ∧ held ≠ []
    · cases held with
      | nil => exact absurd rfl h.2
      | cons p r =>
        have e : beginA ⟨p :: r, .no⟩ b mo = ⟨r, .fr (newFr p.1 mo)⟩ := by simp [beginA, h.1]
        rw [e]
        obtain ⟨e1, e2, e3, e4⟩ := hh p (by simp)
        exact ⟨key _ (fun z => by simp [ownA, pendA, newFr, List.count_cons, List.count_append]) (fun q hq => List.mem_cons_of_mem _ hq) ⟨ho p.1 (by simp [ownA]), rfl, .inl ⟨rfl, p.2, e1, by show lst p.1 ≤ p.2 + 1; omega, e3, e4⟩⟩ (fun g => by simp [tellN, newFr]), by simp⟩
    · have e : beginA ⟨held, .no⟩ b mo = ⟨held, .al newAl⟩ := by simp only [beginA]; rw [if_neg h]
      rw [e]
      exact ⟨key _ (fun z => by simp [ownA, pendA, newAl]) (fun q hq => hq) ⟨rfl, .inl ⟨rfl, u64_0, .inl rfl⟩⟩ (fun g => by simp [tellN, newAl]), by simp⟩
/-- A segment's state turns: all else stands. -/
theorem InvA.drain (I : InvA n mo th S R T lst M) (g : Int) (b : Bool) : InvA n mo th S R T lst (drainA M g b) := by
  have e : (drainA M g b).ms = M.ms ∧ (drainA M g b).hdr = M.hdr ∧ (drainA M g b).spk = M.spk := by
    unfold drainA MA.setD
    repeat' split
    all_goals exact ⟨rfl, rfl, rfl⟩
  generalize drainA M g b = M' at *
  obtain ⟨e1, e2, e3⟩ := e
  have hg : ∀ {st z : Int}, Hg M mo lst st z → Hg M' mo lst st z := fun h => h.move (by rw [e2])
  refine ⟨by rw [e1]; exact I.stk, I.cnt, fun z hz => hg (I.sn z hz), fun z hz => (I.rn z hz).imp hg (fun h => by rw [e2]; exact h), fun k hk p hp => by rw [e2]; exact I.held k hk p hp, fun k hk => ?_, fun g => by rw [e3]; exact I.tell g⟩
  refine (I.ops k hk).move (x := -1) (by rw [e1]; exact Mv.refl _) (fun h => ?_) (fun z _ => by rw [e2]) (fun _ _ => rfl)
  have := (I.owned hk (z := -1) (by unfold ownA; exact List.mem_append_right _ h)).1
  exact absurd this (by decide)
end
end Go.Proofs.YtmjcbjcnmgleaaaGreatDoor
namespace Go.Proofs.YtmjcbjcnmgleaaaGreatDoor
open Go.RowKit Go.Maps

theorem updA_two (th : Nat → TA) (k : Nat) (t u : TA) : updA (updA th k t) k u = updA th k u := by
  funext j
  by_cases h : j = k
  · subst h; rw [updA_same, updA_same]
  · rw [updA_ne _ _ h, updA_ne _ _ h, updA_ne _ _ h]
theorem remA_le (M : MA) (l : Nat) (op : AO) : remA M l op ≤ 40 * l + 60 := by
  cases op with
  | no => simp [remA]
  | al o =>
    have h1 := remF_le5 M.ms (.pop o.pop)
    have h2 := remP_le M o.pk
    have h3 : wpP M o.pk ≤ 1 := by unfold wpP; split <;> omega
    simp only [remA]
    repeat' split
    all_goals omega
  | fr o =>
    have h1 := remF_le5 M.ms (.push o.psh)
    have h2 := remP_le M o.pk
    simp only [remA]
    repeat' split
    all_goals omega
/-- How many of a segment's slots are in a list. -/
theorem seg_one (g x : Int) : (if x / 8 = g then 1 else 0) = (if x = 8 * g then 1 else 0) + (if x = 8 * g + 1 then 1 else 0) + (if x = 8 * g + 2 then 1 else 0) + (if x = 8 * g + 3 then 1 else 0) + (if x = 8 * g + 4 then 1 else 0) + (if x = 8 * g + 5 then 1 else 0) + (if x = 8 * g + 6 then 1 else 0) + (if x = 8 * g + 7 then 1 else 0) := by
  by_cases h : x / 8 = g
  · rw [if_pos h]
    repeat' (split <;> first | (exfalso; omega) | skip)
    all_goals first | rfl | (exfalso; omega)
  · rw [if_neg h]
    repeat' (split <;> first | (exfalso; omega) | skip)
    all_goals rfl
theorem seg_count (g : Int) : ∀ R : List Int, (R.map segF).count g = R.count (8 * g) + R.count (8 * g + 1) + R.count (8 * g + 2) + R.count (8 * g + 3) + R.count (8 * g + 4) + R.count (8 * g + 5) + R.count (8 * g + 6) + R.count (8 * g + 7)
  | [] => by simp
  | x :: r => by
    have ih := seg_count g r
    have h := seg_one g x
    simp only [List.map_cons, List.count_cons, beq_iff_eq]
    rw [ih, show (if segF x = g then 1 else 0) = if x / 8 = g then 1 else 0 from rfl, h]
    generalize (if x = 8 * g then 1 else 0) = a0, (if x = 8 * g + 1 then 1 else 0) = a1, (if x = 8 * g + 2 then 1 else 0) = a2, (if x = 8 * g + 3 then 1 else 0) = a3, (if x = 8 * g + 4 then 1 else 0) = a4, (if x = 8 * g + 5 then 1 else 0) = a5, (if x = 8 * g + 6 then 1 else 0) = a6, (if x = 8 * g + 7 then 1 else 0) = a7
    omega
section
variable {n : Nat} {mo : Int} {th : Nat → TA} {S R : List Int} {T : Int} {lst : Int → Int} {M : MA}
theorem InvA.start (stk : Stk M.ms S T) (hS : ∀ z, S.count z = if 0 ≤ z ∧ z < n then 1 else 0) (hh : ∀ z, M.hdr z = 0) (hp : ∀ g, M.spk g = 0) (ht : ∀ k, k < 6 → th k = ⟨[], .no⟩) (hmo : 0 ≤ mo) : InvA n mo th S [] T (fun _ => 0) M := by
  have s0 : ∀ f : TA → Nat, f ⟨[], .no⟩ = 0 → sum6 (fun k => f (th k)) = 0 := by
    intro f hf
    simp only [sum6, ht 0 (by decide), ht 1 (by decide), ht 2 (by decide), ht 3 (by decide), ht 4 (by decide), ht 5 (by decide), hf]
  refine ⟨stk, fun z => ?_, fun z _ => ⟨0, ?_, by simp, by simp, hmo⟩, by simp, fun k hk p hp => ?_, fun k hk => ?_, fun g => ?_⟩
  · have := s0 (fun t => (ownA t).count z) (by simp [ownA, pendA])
    unfold cntA
    rw [this, hS z]
    simp
  · rw [hh z, header_form 0 0 (by decide) (by decide) (by decide) (by decide)]; rfl
  · rw [ht k hk] at hp; cases hp
  · rw [ht k hk]; trivial
  · have := s0 (fun t => tellN t.op g) (by simp [tellN])
    rw [this, hp g]
    simp
/-- A whole step of thread k. -/
def stepTA (th : Nat → TA) (k : Nat) (b : Bool) (mo : Int) (M : MA) : (Nat → TA) × MA := (updA th k (goA (beginA (th k) b mo) M).1, (goA (beginA (th k) b mo) M).2)
def gotTA (th : Nat → TA) (k : Nat) (b : Bool) (mo : Int) (M : MA) : List (Int × Int) := gainA (beginA (th k) b mo).op M
theorem InvA.step (I : InvA n mo th S R T lst M) (hn : n ≤ 60) (hT : T + 1 < 1000000) (hmo : mo < 4294967296) {k : Nat} (hk : k < 6) (b : Bool) :
    ∃ S' R' T', InvA n mo (stepTA th k b mo M).1 S' R' T' (lstG lst (gotTA th k b mo M)) (stepTA th k b mo M).2 ∧ T ≤ T' ∧ T' ≤ T + 1 ∧ (((stepTA th k b mo M).1 k).op = .no ∨ remA (stepTA th k b mo M).2 S'.length ((stepTA th k b mo M).1 k).op + 1 ≤ remA M S.length (beginA (th k) b mo).op)
      ∧ (stepTA th k b mo M).2.sst = M.sst ∧ (gotTA th k b mo M).length ≤ 1 ∧ ∀ p ∈ gotTA th k b mo M, (0 ≤ p.1 ∧ p.1 < n) ∧ lst p.1 ≤ p.2 ∧ 0 ≤ p.2 ∧ p.2 ≤ mo := by
  obtain ⟨I1, hop⟩ := I.begin hk b
  have hop' : (updA th k (beginA (th k) b mo) k).op ≠ .no := by rw [updA_same]; exact hop
  obtain ⟨S', R', T', h1, h2, h3, h4, h5, h6, h7⟩ := I1.go hn hT hmo hk hop'
  rw [updA_same] at h1 h4 h5 h6 h7
  rw [updA_two] at h1
  refine ⟨S', R', T', h1, h2, h3, ?_, h5, h6, h7⟩
  simp only [stepTA, updA_same]
  exact h4
/-- What lies in the headers, when none is under way. -/
theorem InvA.whole (I : InvA n mo th S R T lst M) (hmo : mo < 4294967296) (hno : ∀ k, k < 6 → (th k).op = .no) {z : Int} (hz : 0 ≤ z ∧ z < n) :
    (z ∈ S ∧ stW (M.hdr z) = 0 ∧ R.count z = 0) ∨ (R.count z = 1 ∧ (stW (M.hdr z) = 3 ∨ stW (M.hdr z) = 4)) ∨ (R.count z = 0 ∧ stW (M.hdr z) = 1 ∧ ∃ k, k < 6 ∧ z ∈ (th k).held.map (·.1)) := by
  have h := I.cnt z
  rw [if_pos hz] at h
  by_cases h1 : z ∈ S
  · obtain ⟨g, e, _, g1, g2⟩ := I.sn z h1
    exact .inl ⟨h1, by rw [e]; exact stW_header _ _ (by decide) (by decide) g1 (by omega), List.count_eq_zero.2 (I.apart h1)⟩
  by_cases h2 : z ∈ R
  · have := List.count_pos_iff.2 h2
    refine .inr (.inl ⟨by unfold cntA at h; omega, ?_⟩)
    rcases I.rn z h2 with ⟨g, e, _, g1, g2⟩ | ⟨g, e, g1, g2⟩
    · exact .inl (by rw [e]; exact stW_header _ _ (by decide) (by decide) g1 (by omega))
    · exact .inr (by rw [e]; exact stW_header _ _ (by decide) (by decide) g1 (by omega))
  · have e1 := List.count_eq_zero.2 h1
    have e2 := List.count_eq_zero.2 h2
    have : ∃ k, k < 6 ∧ 0 < (ownA (th k)).count z := by
      simp only [cntA, sum6] at h
      rcases Nat.eq_zero_or_pos ((ownA (th 0)).count z) with a | a
      · rcases Nat.eq_zero_or_pos ((ownA (th 1)).count z) with b | b
        · rcases Nat.eq_zero_or_pos ((ownA (th 2)).count z) with c | c
          · rcases Nat.eq_zero_or_pos ((ownA (th 3)).count z) with d | d
            · rcases Nat.eq_zero_or_pos ((ownA (th 4)).count z) with e | e
              · exact ⟨5, by decide, by omega⟩
              · exact ⟨4, by decide, e⟩
            · exact ⟨3, by decide, d⟩
          · exact ⟨2, by decide, c⟩
        · exact ⟨1, by decide, b⟩
      · exact ⟨0, by decide, a⟩
    obtain ⟨k, hk, hc⟩ := this
    have hm := List.count_pos_iff.1 hc
    have hm' : z ∈ (th k).held.map (·.1) := by simpa [ownA, hno k hk, pendA] using hm
    obtain ⟨p, hp, rfl⟩ := List.mem_map.1 hm'
    obtain ⟨e, _, g1, g2⟩ := I.held k hk p hp
    exact .inr (.inr ⟨e2, by rw [e]; exact stW_header _ _ (by decide) (by decide) g1 (by omega), k, hk, hm'⟩)
/-- As many are told put aside as are in that state. -/
theorem InvA.told (I : InvA n mo th S R T lst M) (hno : ∀ k, k < 6 → (th k).op = .no) (g : Int) : M.spk g = (R.count (8 * g) + R.count (8 * g + 1) + R.count (8 * g + 2) + R.count (8 * g + 3) + R.count (8 * g + 4) + R.count (8 * g + 5) + R.count (8 * g + 6) + R.count (8 * g + 7) : Nat) := by
  rw [I.tell g, seg_count]
  have : sum6 (fun k => tellN (th k).op g) = 0 := by
    simp only [sum6, hno 0 (by decide), hno 1 (by decide), hno 2 (by decide), hno 3 (by decide), hno 4 (by decide), hno 5 (by decide), tellN]
  rw [this]
  rfl
end
end Go.Proofs.YtmjcbjcnmgleaaaGreatDoor
